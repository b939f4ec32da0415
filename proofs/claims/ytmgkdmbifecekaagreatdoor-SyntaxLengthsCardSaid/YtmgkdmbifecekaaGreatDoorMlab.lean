/-
  The library's contracts, laid at this program. Package class: numbers behind \x, escapes. Package class: escapes. Arrays in memory at any address: loads and stores of all their cells, as steps of a walk and of a region that draws its order.
-/
import Derived.Shelf.Strings.Prefix
import Derived.Shelf.Small.Wraps
import Derived.Shelf.Small.Strs
import Derived.Shelf.Strings.Runes
import Derived.Shelf.Unicode.DecodeAny
import Derived.Shelf.Strconv.Itoa3
import Derived.Test.YtmgkdmbifecekaaGreatDoorProg
import Derived.Test.YtmgkdmbifecekaaGreatDoorMlaa
import Derived.Laws.CopyRow
import Derived.Laws.Tables
import Derived.Deep.RegionLaw
set_option linter.all false
set_option linter.unusedSimpArgs false
set_option linter.unusedVariables false
set_option linter.unusedSectionVars false
namespace Go.Proofs.YtmgkdmbifecekaaGreatDoor
open Go.Shelf
def sh_lays137_ren : Go.Shelf.Ren := ⟨fun | 137 => 136 | 217 => 154 | 266 => 169 | n => n, fun | 9 => 9 | 5 => 5 | 3 => 3 | n => n, fun | n => n⟩
theorem sh_lays137 : Go.Proofs.Lays.n137 Tryz.prog sh_lays137_ren := {
  mixed := by kernel_rfl
  f137 := Tryz.func136.trans (congrArg some (by kernel_rfl))
  f217 := Tryz.func154.trans (congrArg some (by kernel_rfl))
  f266 := Tryz.func169.trans (congrArg some (by kernel_rfl))
  t3 := Tryz.underlying3
  a3 := Tryz.isAgg3
  z3 := Tryz.sizeOf3
  v3 := Tryz.zeroValue3
  t5 := Tryz.underlying5
  a5 := Tryz.isAgg5
  z5 := Tryz.sizeOf5
  v5 := Tryz.zeroValue5
  t9 := Tryz.underlying9
  a9 := Tryz.isAgg9
  z9 := Tryz.sizeOf9
  v9 := Tryz.zeroValue9 }
open Go.RowKit in
/-- strings.IndexByte: "IndexByte returns the index of the first instance of c in s, or -1 if c is not present in s.": IT RETURNS 'Lib.indexByte s c'; the world is as it was. (LAID: no walk: one application.) -/
theorem sh_strings_IndexByte (s : ByteArray) (c : Int) (w : World) :
    Calls Tryz.prog 136 #[.string s, .int .u8 c] w fun e w' => e = .returned (.int .i64 (Lib.indexByte s.data.toList c.toNat.toUInt8)) ∧ w' = w := Any.strings_IndexByte sh_lays137 s c w
def sh_lays103_ren : Go.Shelf.Ren := ⟨fun | 103 => 94 | 210 => 117 | 206 => 77 | n => n, fun | 9 => 9 | 4 => 4 | 24 => 162 | 3 => 3 | n => n, fun | n => n⟩
theorem sh_lays103 : Go.Proofs.Lays.n103 Tryz.prog sh_lays103_ren := {
  mixed := by kernel_rfl
  f103 := Tryz.func94.trans (congrArg some (by kernel_rfl))
  f206 := Tryz.func77.trans (congrArg some (by kernel_rfl))
  f210 := Tryz.func117.trans (congrArg some (by kernel_rfl))
  t3 := Tryz.underlying3
  a3 := Tryz.isAgg3
  z3 := Tryz.sizeOf3
  v3 := Tryz.zeroValue3
  t4 := Tryz.underlying4
  a4 := Tryz.isAgg4
  z4 := Tryz.sizeOf4
  v4 := Tryz.zeroValue4
  t9 := Tryz.underlying9
  a9 := Tryz.isAgg9
  z9 := Tryz.sizeOf9
  v9 := Tryz.zeroValue9
  t24 := Tryz.underlying162
  a24 := Tryz.isAgg162
  z24 := Tryz.sizeOf162
  v24 := Tryz.zeroValue162 }
open Go.RowKit in
/-- strings.CutPrefix: "CutPrefix returns s without the provided leading prefix string and reports whether it found the prefix. If s doesn't start with prefix, CutPrefix returns s, false. If prefix is the empty string, CutPrefix returns s, true.": IT RETURNS '(Lib.trimPrefix s p, Lib.hasPrefix s p)'; the world is as it was. (LAID: no walk: one application.) -/
theorem sh_strings_CutPrefix (s p : ByteArray) (w : World) :
    Calls Tryz.prog 94 #[.string s, .string p] w fun e w' => e = .returned (.tuple #[.string ⟨(Lib.trimPrefix s.data.toList p.data.toList).toArray⟩, .bool (Lib.hasPrefix s.data.toList p.data.toList)]) ∧ w' = w := Any.strings_CutPrefix sh_lays103 s p w
def sh_lays122_ren : Go.Shelf.Ren := ⟨fun | 122 => 162 | 215 => 183 | n => n, fun | 3 => 3 | 4 => 4 | n => n, fun | n => n⟩
theorem sh_lays122 : Go.Proofs.Lays.n122 Tryz.prog sh_lays122_ren := {
  mixed := by kernel_rfl
  f122 := Tryz.func162.trans (congrArg some (by kernel_rfl))
  f215 := Tryz.func183.trans (congrArg some (by kernel_rfl))
  t3 := Tryz.underlying3
  a3 := Tryz.isAgg3
  z3 := Tryz.sizeOf3
  v3 := Tryz.zeroValue3
  t4 := Tryz.underlying4
  a4 := Tryz.isAgg4
  z4 := Tryz.sizeOf4
  v4 := Tryz.zeroValue4 }
open Go.RowKit in
/-- cmp.Compare at int: "Compare returns -1 if x is less than y, 0 if x equals y, +1 if x is greater than y.": IT RETURNS 'Lib.compareInt x y'; the world is as it was. (LAID: no walk: one application.) -/
theorem sh_cmp_Compare_int (x y : Int) (w : World) :
    Calls Tryz.prog 162 #[.int .i64 x, .int .i64 y] w fun e w' => e = .returned (.int .i64 (Lib.compareInt x y)) ∧ w' = w := Any.cmp_Compare_int sh_lays122 x y w
def sh_lays171_ren : Go.Shelf.Ren := ⟨fun | 171 => 26 | 243 => 48 | 246 => 74 | 283 => 99 | 284 => 100 | 285 => 101 | 286 => 102 | 129 => 122 | 317 => 121 | 318 => 123 | 319 => 124 | 320 => 125 | 337 => 143 | 338 => 144 | n => n, fun | 3 => 3 | 9 => 9 | 2 => 2 | 4 => 4 | 171 => 166 | 0 => 0 | 53 => 142 | 37 => 86 | 5 => 5 | 173 => 169 | 212 => 188 | 51 => 139 | 20 => 20 | 213 => 189 | 46 => 109 | 232 => 218 | 233 => 219 | n => n, fun | 17 => 0 | 18 => 2 | 19 => 3 | n => n⟩
theorem sh_lays171 : Go.Proofs.Lays.n171 Tryz.prog sh_lays171_ren := {
  mixed := by kernel_rfl
  f129 := Tryz.func122.trans (congrArg some (by kernel_rfl))
  f171 := Tryz.func26.trans (congrArg some (by kernel_rfl))
  f243 := Tryz.func48.trans (congrArg some (by kernel_rfl))
  f246 := Tryz.func74.trans (congrArg some (by kernel_rfl))
  f283 := Tryz.func99.trans (congrArg some (by kernel_rfl))
  f284 := Tryz.func100.trans (congrArg some (by kernel_rfl))
  f285 := Tryz.func101.trans (congrArg some (by kernel_rfl))
  f286 := Tryz.func102.trans (congrArg some (by kernel_rfl))
  f317 := Tryz.func121.trans (congrArg some (by kernel_rfl))
  f318 := Tryz.func123.trans (congrArg some (by kernel_rfl))
  f319 := Tryz.func124.trans (congrArg some (by kernel_rfl))
  f320 := Tryz.func125.trans (congrArg some (by kernel_rfl))
  f337 := Tryz.func143.trans (congrArg some (by kernel_rfl))
  f338 := Tryz.func144.trans (congrArg some (by kernel_rfl))
  t0 := Tryz.underlying0
  a0 := Tryz.isAgg0
  z0 := Tryz.sizeOf0
  v0 := Tryz.zeroValue0
  t2 := Tryz.underlying2
  a2 := Tryz.isAgg2
  z2 := Tryz.sizeOf2
  v2 := Tryz.zeroValue2
  t3 := Tryz.underlying3
  a3 := Tryz.isAgg3
  z3 := Tryz.sizeOf3
  v3 := Tryz.zeroValue3
  t4 := Tryz.underlying4
  a4 := Tryz.isAgg4
  z4 := Tryz.sizeOf4
  v4 := Tryz.zeroValue4
  t5 := Tryz.underlying5
  a5 := Tryz.isAgg5
  z5 := Tryz.sizeOf5
  v5 := Tryz.zeroValue5
  t9 := Tryz.underlying9
  a9 := Tryz.isAgg9
  z9 := Tryz.sizeOf9
  v9 := Tryz.zeroValue9
  t20 := Tryz.underlying20
  a20 := Tryz.isAgg20
  z20 := Tryz.sizeOf20
  v20 := Tryz.zeroValue20
  t37 := Tryz.underlying86
  a37 := Tryz.isAgg86
  z37 := Tryz.sizeOf86
  v37 := Tryz.zeroValue86
  t46 := Tryz.underlying109
  a46 := Tryz.isAgg109
  z46 := Tryz.sizeOf109
  v46 := Tryz.zeroValue109
  t51 := Tryz.underlying139
  a51 := Tryz.isAgg139
  z51 := Tryz.sizeOf139
  v51 := Tryz.zeroValue139
  t53 := Tryz.underlying142
  a53 := Tryz.isAgg142
  z53 := Tryz.sizeOf142
  v53 := Tryz.zeroValue142
  t171 := Tryz.underlying166
  a171 := Tryz.isAgg166
  z171 := Tryz.sizeOf166
  v171 := Tryz.zeroValue166
  t173 := Tryz.underlying169
  a173 := Tryz.isAgg169
  z173 := Tryz.sizeOf169
  v173 := Tryz.zeroValue169
  t212 := Tryz.underlying188
  a212 := Tryz.isAgg188
  z212 := Tryz.sizeOf188
  v212 := Tryz.zeroValue188
  t213 := Tryz.underlying189
  a213 := Tryz.isAgg189
  z213 := Tryz.sizeOf189
  t232 := Tryz.underlying218
  a232 := Tryz.isAgg218
  z232 := Tryz.sizeOf218
  v232 := Tryz.zeroValue218
  t233 := Tryz.underlying219
  a233 := Tryz.isAgg219
  z233 := Tryz.sizeOf219
  v233 := Tryz.zeroValue219
  g17 := by kernel_rfl
  g18 := by kernel_rfl
  g19 := by kernel_rfl }
open Go.RowKit Go.Sort Go.Lib in
/-- THE ROAD WITHOUT THE TABLE: 0 <= i < 100: NO PREMISE ON THE WORLD, AND THE WORLD IS AS IT WAS: a row that keeps its argument in that range need list no table ('laid = []'). (LAID: no walk: one application.) -/
theorem sh_strconv_Itoa_small (i : Nat) (hi : i < 100) (w : World) :
    Calls Tryz.prog 26 #[.int .i64 i] w fun e w' => e = .returned (.string ⟨(Lib.decDigits i).toArray⟩) ∧ w' = w := Any.strconv_Itoa_small sh_lays171 i hi w
def sh_lays99_ren : Go.Shelf.Ren := ⟨fun | 99 => 50 | 206 => 77 | n => n, fun | 9 => 9 | 4 => 4 | 3 => 3 | n => n, fun | n => n⟩
theorem sh_lays99 : Go.Proofs.Lays.n99 Tryz.prog sh_lays99_ren := {
  mixed := by kernel_rfl
  f99 := Tryz.func50.trans (congrArg some (by kernel_rfl))
  f206 := Tryz.func77.trans (congrArg some (by kernel_rfl))
  t3 := Tryz.underlying3
  a3 := Tryz.isAgg3
  z3 := Tryz.sizeOf3
  v3 := Tryz.zeroValue3
  t4 := Tryz.underlying4
  a4 := Tryz.isAgg4
  z4 := Tryz.sizeOf4
  v4 := Tryz.zeroValue4
  t9 := Tryz.underlying9
  a9 := Tryz.isAgg9
  z9 := Tryz.sizeOf9
  v9 := Tryz.zeroValue9 }
open Go.RowKit Go.Lib in
/-- strings.HasPrefix: "HasPrefix reports whether the string s begins with prefix.": IT RETURNS 'Lib.hasPrefix s prefix'; the world is as it was. (LAID: no walk: one application.) -/
theorem sh_strings_HasPrefix (s p : ByteArray) (w : World) :
    Calls Tryz.prog 50 #[.string s, .string p] w fun e w' => e = .returned (.bool (Lib.hasPrefix s.data.toList p.data.toList)) ∧ w' = w := Any.strings_HasPrefix sh_lays99 s p w
def sh_lays197_ren : Go.Shelf.Ren := ⟨fun | 197 => 164 | 260 => 185 | n => n, fun | 9 => 9 | 21 => 21 | 3 => 3 | 4 => 4 | 5 => 5 | 105 => 228 | 119 => 269 | 0 => 0 | 46 => 109 | 139 => 272 | 138 => 271 | n => n, fun | 3 => 5 | 4 => 6 | n => n⟩
theorem sh_lays197 : Go.Proofs.Lays.n197 Tryz.prog sh_lays197_ren := {
  mixed := by kernel_rfl
  f197 := Tryz.func164.trans (congrArg some (by kernel_rfl))
  f260 := Tryz.func185.trans (congrArg some (by kernel_rfl))
  t0 := Tryz.underlying0
  a0 := Tryz.isAgg0
  z0 := Tryz.sizeOf0
  v0 := Tryz.zeroValue0
  t3 := Tryz.underlying3
  a3 := Tryz.isAgg3
  z3 := Tryz.sizeOf3
  v3 := Tryz.zeroValue3
  t4 := Tryz.underlying4
  a4 := Tryz.isAgg4
  z4 := Tryz.sizeOf4
  v4 := Tryz.zeroValue4
  t5 := Tryz.underlying5
  a5 := Tryz.isAgg5
  z5 := Tryz.sizeOf5
  v5 := Tryz.zeroValue5
  t9 := Tryz.underlying9
  a9 := Tryz.isAgg9
  z9 := Tryz.sizeOf9
  v9 := Tryz.zeroValue9
  t21 := Tryz.underlying21
  a21 := Tryz.isAgg21
  z21 := Tryz.sizeOf21
  v21 := Tryz.zeroValue21
  t46 := Tryz.underlying109
  a46 := Tryz.isAgg109
  z46 := Tryz.sizeOf109
  v46 := Tryz.zeroValue109
  t105 := Tryz.underlying228
  a105 := Tryz.isAgg228
  z105 := Tryz.sizeOf228
  v105 := Tryz.zeroValue228
  t119 := Tryz.underlying269
  a119 := Tryz.isAgg269
  z119 := Tryz.sizeOf269
  t138 := Tryz.underlying271
  a138 := Tryz.isAgg271
  z138 := Tryz.sizeOf271
  v138 := Tryz.zeroValue271
  t139 := Tryz.underlying272
  a139 := Tryz.isAgg272
  z139 := Tryz.sizeOf272
  v139 := Tryz.zeroValue272
  g3 := by kernel_rfl
  g4 := by kernel_rfl }
def sh_lays151_ren : Go.Shelf.Ren := ⟨fun | 151 => 91 | 152 => 116 | 137 => 136 | 119 => 137 | 224 => 138 | 225 => 139 | 217 => 154 | 266 => 169 | n => n, fun | 9 => 9 | 21 => 21 | 4 => 4 | 3 => 3 | 5 => 5 | 0 => 0 | 46 => 109 | n => n, fun | n => n⟩
theorem sh_lays151 : Go.Proofs.Lays.n151 Tryz.prog sh_lays151_ren := {
  mixed := by kernel_rfl
  f119 := Tryz.func137.trans (congrArg some (by kernel_rfl))
  f137 := Tryz.func136.trans (congrArg some (by kernel_rfl))
  f151 := Tryz.func91.trans (congrArg some (by kernel_rfl))
  f152 := Tryz.func116.trans (congrArg some (by kernel_rfl))
  f217 := Tryz.func154.trans (congrArg some (by kernel_rfl))
  f224 := Tryz.func138.trans (congrArg some (by kernel_rfl))
  f225 := Tryz.func139.trans (congrArg some (by kernel_rfl))
  f266 := Tryz.func169.trans (congrArg some (by kernel_rfl))
  t0 := Tryz.underlying0
  a0 := Tryz.isAgg0
  z0 := Tryz.sizeOf0
  v0 := Tryz.zeroValue0
  t3 := Tryz.underlying3
  a3 := Tryz.isAgg3
  z3 := Tryz.sizeOf3
  v3 := Tryz.zeroValue3
  t4 := Tryz.underlying4
  a4 := Tryz.isAgg4
  z4 := Tryz.sizeOf4
  v4 := Tryz.zeroValue4
  t5 := Tryz.underlying5
  a5 := Tryz.isAgg5
  z5 := Tryz.sizeOf5
  v5 := Tryz.zeroValue5
  t9 := Tryz.underlying9
  a9 := Tryz.isAgg9
  z9 := Tryz.sizeOf9
  v9 := Tryz.zeroValue9
  t21 := Tryz.underlying21
  a21 := Tryz.isAgg21
  z21 := Tryz.sizeOf21
  v21 := Tryz.zeroValue21
  t46 := Tryz.underlying109
  a46 := Tryz.isAgg109
  z46 := Tryz.sizeOf109
  v46 := Tryz.zeroValue109 }
open Go.RowKit Go.Lib in
theorem sh_strings_ContainsRune_ascii (s : ByteArray) (r : Int) (w : World) (h0 : 0 ≤ r) (h1 : r < 128) :
    Calls Tryz.prog 91 #[.string s, .int .i32 r] w fun e w' => e = .returned (.bool (decide (0 ≤ Lib.indexByte s.data.toList r.toNat.toUInt8))) ∧ w' = w := Any.strings_ContainsRune_ascii sh_lays151 s r w h0 h1
end Go.Proofs.YtmgkdmbifecekaaGreatDoor
namespace Go.Proofs.YtmgkdmbifecekaaGreatDoor
open Go.RowKit Go.Shelf
def toI (l : List UInt8) : List Int := l.map fun b => (b.toNat : Int)
theorem bys_toI (s : ByteArray) : bys s = toI s.data.toList := rfl
theorem toI_take (l : List UInt8) (k : Nat) : (toI l).take k = toI (l.take k) := by unfold toI; rw [List.map_take]
theorem toI_length (l : List UInt8) : (toI l).length = l.length := by simp [toI]
theorem extD (s : ByteArray) (k : Nat) : (s.extract k s.size).data.toList = s.data.toList.drop k := by
  rw [Lib.extract_data, List.take_of_length_le (by rw [List.length_drop, Array.length_toList]; exact Nat.le_refl _)]
theorem data_len (s : ByteArray) : s.data.toList.length = s.size := by rw [Array.length_toList]; rfl
theorem pre1 (b : UInt8) (l : List UInt8) (h : [b].isPrefixOf l = true) : ∃ r, l = b :: r := by
  cases l with
  | nil => simp [List.isPrefixOf] at h
  | cons c r =>
    simp [List.isPrefixOf] at h
    exact ⟨r, by rw [h]⟩
/-- What stands behind a \x. -/
def numS (l : List UInt8) : Int × Nat × Bool :=
  if [123].isPrefixOf l = true then ((hexN (toI ((l.drop 1).take 6))).1, (hexN (toI ((l.drop 1).take 6))).2 + 2, decide (0 < (hexN (toI ((l.drop 1).take 6))).2) && [125].isPrefixOf ((l.drop 1).drop (hexN (toI ((l.drop 1).take 6))).2) && pntB (hexN (toI ((l.drop 1).take 6))).1)
  else ((hexN (toI (l.take 2))).1, (hexN (toI (l.take 2))).2, decide ((hexN (toI (l.take 2))).2 = 2))
theorem hexN_len (xs : List Int) : (hexN xs).2 ≤ xs.length := by have := hexG_len xs 0 0; unfold hexN; omega
theorem number_any (s : ByteArray) (w : World) : Calls Tryz.prog 189 #[.string s] w fun e w' => e = .returned (.tuple #[.int .i64 (numS s.data.toList).1, .int .i64 ((numS s.data.toList).2.1 : Nat), .bool (numS s.data.toList).2.2]) ∧ w = w' := by
  have CP := Lib.hid (fun p => sh_strings_HasPrefix s p w)
  have CG := Lib.hid digits_any
  have CPt := Lib.hid point_any
  have hlen := data_len s
  unfold numS
  by_cases hp : [123].isPrefixOf s.data.toList = true
  · obtain ⟨r, hr⟩ := pre1 _ _ hp
    have h1 : 1 ≤ s.size := by rw [← hlen, hr]; simp
    rw [if_pos hp]
    obtain ⟨t, ht⟩ : ∃ t, t = s.extract 1 s.size := ⟨_, rfl⟩
    have htd : t.data.toList = s.data.toList.drop 1 := by rw [ht, extD]
    rw [← htd]
    obtain ⟨h, hh⟩ : ∃ h, h = hexN (toI (t.data.toList.take 6)) := ⟨_, rfl⟩
    have hle : h.2 ≤ t.size := by
      have := hexN_len (toI (t.data.toList.take 6))
      rw [toI_length, List.length_take, data_len, ← hh] at this
      omega
    have hts : t.size = s.size - 1 := by rw [← data_len, htd, List.length_drop, hlen]
    have hle6 : h.2 ≤ 6 := by
      have := hexN_len (toI (t.data.toList.take 6))
      rw [toI_length, List.length_take, ← hh] at this
      omega
    have CG1 : Hid (∀ w, Calls Tryz.prog 211 #[.string t, .int .i64 (6 : Nat)] w fun e w' => e = .returned (.tuple #[.int .i64 h.1, .int .i64 (h.2 : Nat)]) ∧ w = w') := fun w => by
      have := digits_any t 6 (by omega) w
      rw [bys_toI, toI_take, ← hh] at this
      exact this
    have hp2 : Lib.hasPrefix s.data.toList [123] = true := hp
    rw [← hh]
    obtain ⟨b, hb⟩ : ∃ b, b = [125].isPrefixOf (t.data.toList.drop h.2) := ⟨_, rfl⟩
    have CP2 : Hid (∀ w, Calls Tryz.prog 50 #[.string (s.extract (1 + h.2) s.size), .string ⟨#[125]⟩] w fun e w' => e = .returned (.bool b) ∧ w' = w) := fun w => by
      have h2 := sh_strings_HasPrefix (s.extract (1 + h.2) s.size) ⟨#[125]⟩ w
      rw [extD, ← List.drop_drop, ← htd] at h2
      rw [hb]
      exact h2
    rw [← hb]
    obtain ⟨q, hq⟩ : ∃ q, q = pntB h.1 := ⟨_, rfl⟩
    have CP3 : Hid (∀ w, Calls Tryz.prog 120 #[.int .i64 h.1] w fun e w' => e = .returned (.bool q) ∧ w = w') := fun w => by rw [hq]; exact point_any h.1 w
    rw [← hq]
    clear hh hp hb htd hq hr hlen
    go_enter Tryz.func189, Tryz.ntmps189
    go_wp2_with fail
    refine (CP.out _).mono ?_
    rintro e w1 ⟨rfl, rfl⟩
    have hp3 : Lib.hasPrefix s.data.toList (⟨#[123]⟩ : ByteArray).data.toList = true := hp2
    rw [hp3]
    have h3 : h.2 + 1 ≤ s.size := by omega
    have h4 : (1 : Int) + h.2 ≤ s.size := by omega
    go_wp2_with fail
    rw [← ht]
    refine (CG1.out _).mono ?_
    rintro e w2 ⟨rfl, rfl⟩
    go_wp2_with fail
    refine (CP2.out _).mono ?_
    rintro e w2 ⟨rfl, rfl⟩
    by_cases h5 : 0 < h.2
    · have h6 : (0 : Int) < (h.2 : Int) := by omega
      cases b
      all_goals
        go_wp2_with (refine (CP3.out _).mono ?_; rintro e w2 ⟨rfl, rfl⟩)
        go_ret3
        exact ⟨by first | rfl | (simp [h5]; done) | (simp [h5]; exact h6), rfl⟩
    · have h6 : ¬ (0 : Int) < (h.2 : Int) := by omega
      go_wp2_with fail
      go_ret3
      exact ⟨by first | rfl | (simp [h5]; done) | (simp [h5]; exact h6), rfl⟩
  · rw [if_neg hp]
    have hp2 : Lib.hasPrefix s.data.toList [123] = false := by
      exact eq_false_of_ne_true hp
    obtain ⟨h, hh⟩ : ∃ h, h = hexN (toI (s.data.toList.take 2)) := ⟨_, rfl⟩
    have CG1 : Hid (∀ w, Calls Tryz.prog 211 #[.string s, .int .i64 (2 : Nat)] w fun e w' => e = .returned (.tuple #[.int .i64 h.1, .int .i64 (h.2 : Nat)]) ∧ w = w') := fun w => by
      have := digits_any s 2 (by omega) w
      rw [bys_toI, toI_take, ← hh] at this
      exact this
    rw [← hh]
    clear hh hp
    go_enter Tryz.func189, Tryz.ntmps189
    go_wp2_with fail
    refine (CP.out _).mono ?_
    rintro e w1 ⟨rfl, rfl⟩
    have hp3 : Lib.hasPrefix s.data.toList (⟨#[123]⟩ : ByteArray).data.toList = false := hp2
    rw [hp3]
    go_wp2_with fail
    refine (CG1.out _).mono ?_
    rintro e w2 ⟨rfl, rfl⟩
    by_cases h5 : h.2 = 2
    · have h6 : (h.2 : Int) = 2 := by omega
      go_wp2_with fail
      go_ret3
      exact ⟨by first | rfl | (simp [h5]; done) | (simp [h5]; exact h6), rfl⟩
    · have h6 : ¬ (h.2 : Int) = 2 := by omega
      go_wp2_with fail
      go_ret3
      exact ⟨by first | rfl | (simp [h5]; done) | (simp [h5]; exact h6), rfl⟩
end Go.Proofs.YtmgkdmbifecekaaGreatDoor
namespace Go.Proofs.YtmgkdmbifecekaaGreatDoor
open Go.RowKit Go.Shelf
/-- The letters behind a \, and what they mean. -/
def ltrI (b : UInt8) : Int := Lib.indexByte [110, 116, 114, 102, 118, 97] b
def ltrM (i : Int) : Int := if i = 0 then 10 else if i = 1 then 9 else if i = 2 then 13 else if i = 3 then 12 else if i = 4 then 11 else 7
theorem ltrI_cases (b : UInt8) : ltrI b = -1 ∨ ltrI b = 0 ∨ ltrI b = 1 ∨ ltrI b = 2 ∨ ltrI b = 3 ∨ ltrI b = 4 ∨ ltrI b = 5 := by
  unfold ltrI
  simp only [Lib.indexByte]
  repeat' split
  all_goals simp_all
def escB (b : UInt8) (r : List UInt8) : Option (Int × Nat) :=
  if b = 120 then (if (numS r).2.2 = true then some ((numS r).1, 2 + (numS r).2.1) else none)
  else if 0 ≤ ltrI b then some (ltrM (ltrI b), 2) else if mrkB (b.toNat : Int) = true then some ((b.toNat : Int), 2) else none
def escS : List UInt8 → Option (Int × Nat)
  | a :: b :: r => if a = 92 then escB b r else none
  | _ => none
theorem escS_cons (a b : UInt8) (r : List UInt8) : escS (a :: b :: r) = if a = 92 then escB b r else none := rfl
theorem escS_short (l : List UInt8) (h : l.length < 2) : escS l = none := by
  rcases l with _ | ⟨a, _ | ⟨b, r⟩⟩
  · rfl
  · rfl
  · simp at h; omega
def escV : Option (Int × Nat) → Value
  | some (c, n) => .tuple #[.int .i64 c, .int .i64 (n : Nat), .int .i64 0]
  | none => .tuple #[.int .i64 0, .int .i64 0, .int .i64 61]
theorem numS_le (l : List UInt8) : (numS l).2.1 ≤ 8 := by
  have h6 := hexN_len (toI ((l.drop 1).take 6))
  have h2 := hexN_len (toI (l.take 2))
  rw [toI_length, List.length_take] at h6 h2
  unfold numS
  split <;> dsimp only <;> omega
theorem two_of (s : ByteArray) (h : 2 ≤ s.size) : s.data.toList = s[0] :: s[1] :: s.data.toList.drop 2 := by
  have h1 : 2 ≤ s.data.toList.length := by rw [data_len]; exact h
  have e : s.data.toList.drop 0 = s.data.toList[0] :: s.data.toList.drop 1 := List.drop_eq_getElem_cons (by omega)
  rw [List.drop_zero, List.drop_eq_getElem_cons (i := 1) (by omega)] at e
  exact e
theorem escape_any (s : ByteArray) (w : World) : Calls Tryz.prog 174 #[.string s] w fun e w' => e = .returned (escV (escS s.data.toList)) ∧ w = w' := by
  by_cases h2 : 2 ≤ s.size
  · rw [two_of s h2]
    have hs2 : (s.extract 2 s.size).data.toList = s.data.toList.drop 2 := extD s 2
    have CN := number_any (s.extract 2 s.size)
    rw [hs2] at CN
    obtain ⟨r, hr⟩ : ∃ r, r = s.data.toList.drop 2 := ⟨_, rfl⟩
    rw [← hr] at CN ⊢
    replace CN := Lib.hid CN
    have CI : Hid (∀ w, Calls Tryz.prog 136 #[.string ⟨#[110, 116, 114, 102, 118, 97]⟩, .int .u8 (s[1].toNat : Int)] w fun e w' => e = .returned (.int .i64 (ltrI s[1])) ∧ w' = w) := fun w => by
      have := sh_strings_IndexByte ⟨#[110, 116, 114, 102, 118, 97]⟩ (s[1].toNat : Int) w
      simpa [ltrI] using this
    have CM := Lib.hid (fun w => mark_any (s[1].toNat : Int) (by have := s[1].toNat_lt; omega) w)
    have hI := ltrI_cases s[1]
    have h2i : (2 : Int) ≤ s.size := by omega
    have h01 : 0 < s.size := by omega
    have h11 : 1 < s.size := by omega
    clear hr hs2
    rw [escS_cons]
    by_cases h92 : s[0] = 92
    · have k92 : (s[0].toNat : Int) = 92 := by rw [h92]; rfl
      rw [if_pos h92]
      unfold escB
      by_cases h120 : s[1] = 120
      · have k120 : (s[1].toNat : Int) = 120 := by rw [h120]; rfl
        rw [if_pos h120]
        obtain ⟨t, ht⟩ : ∃ t, t = numS r := ⟨_, rfl⟩
        have hn := numS_le r
        rw [← ht] at CN hn ⊢
        obtain ⟨c, n, ok⟩ := t
        have hn8 : n ≤ 8 := hn
        clear hn
        clear ht CM CI hI
        cases ok
        all_goals
          go_enter Tryz.func174, Tryz.ntmps174
          go_wp2_with (go_at_call 189; refine (CN.out _).mono ?_; rintro e w1 ⟨rfl, rfl⟩)
          go_ret3
          exact ⟨by first | rfl | (simp [escV]; done) | (simp [escV]; unfold wrap64; omega) | (simp [escV]; kernel_rfl), rfl⟩
      · have k120 : ¬ (s[1].toNat : Int) = 120 := by
          intro e
          exact h120 (UInt8.toNat_inj.1 (by show _ = 120; omega))
        have k120b : ((s[1].toNat : Int) == 120) = false := by rw [beq_eq_false_iff_ne]; exact k120
        rw [if_neg h120]
        clear CN
        have hb := s[1].toNat_lt
        rcases hI with hi | hi | hi | hi | hi | hi | hi
        all_goals
          rw [hi] at CI ⊢
        · rw [if_neg (by decide)]
          generalize mrkB (s[1].toNat : Int) = m at CM ⊢
          cases m
          all_goals
            go_enter Tryz.func174, Tryz.ntmps174
            go_wp2_with (first | (go_at_call 136; refine (CI.out _).mono ?_; rintro e w1 ⟨rfl, rfl⟩) | (go_at_call 190; refine (CM.out _).mono ?_; rintro e w1 ⟨rfl, rfl⟩))
            go_ret3
            exact ⟨by first | rfl | (simp [escV]; done) | (simp [escV]; unfold wrap64; omega) | (simp [escV]; kernel_rfl), rfl⟩
        all_goals
          rw [if_pos (by decide)]
          clear CM
          go_enter Tryz.func174, Tryz.ntmps174
          go_wp2_with (go_at_call 136; refine (CI.out _).mono ?_; rintro e w1 ⟨rfl, rfl⟩)
          go_ret3
          exact ⟨by first | rfl | (simp [escV]; done) | (simp [escV]; unfold wrap64; omega) | (simp [escV]; kernel_rfl), rfl⟩
    · have k92 : ¬ (s[0].toNat : Int) = 92 := by
        intro e
        exact h92 (UInt8.toNat_inj.1 (by show _ = 92; omega))
      have k92b : ((s[0].toNat : Int) != 92) = true := by rw [bne_iff_ne]; exact k92
      rw [if_neg h92]
      clear CN CI CM hI
      go_enter Tryz.func174, Tryz.ntmps174
      go_wp2_with fail
      go_ret3
      exact ⟨by first | rfl | (simp [escV]; done) | (simp [escV]; unfold wrap64; omega) | (simp [escV]; kernel_rfl), rfl⟩
  · have h2i : (s.size : Int) < 2 := by omega
    rw [escS_short _ (by rw [data_len]; omega)]
    go_enter Tryz.func174, Tryz.ntmps174
    go_wp2_with fail
    go_ret3
    exact ⟨by first | rfl | (simp [escV]; done) | (simp [escV]; unfold wrap64; omega) | (simp [escV]; kernel_rfl), rfl⟩
end Go.Proofs.YtmgkdmbifecekaaGreatDoor
namespace Go.Proofs.YtmgkdmbifecekaaGreatDoor
open Go.RowKit
section
variable {P : Program} {ops : Array Oper} {rest : List Oper} {o : Oper} {a : Act} {w : World} {K : Act → World → Prop} {Q : Exit → Act → World → Prop} {E : Prop}
theorem run_loadVar_at (w : World) (ad : Addr) (ty : TypeId) (cs : Array Value) (d : TypeDesc) (hc : ∀ j v, cs[j]? = some v → w.cell? (ad.add j) = some v)
    (hu : P.underlying ty = some d) (hd : (match d with | .struct _ | .array _ _ => true | _ => false) = true) (hi : (P.info? ty).map (·.size) = some cs.size) :
    (loadVar ty ad).run P w = .ok (.agg cs) w := by
  have hl : (loadCells ad cs.toList.length).run P w = .ok cs.toList.toArray w := run_loadCells_list (P := P) w ad cs.toList (fun j v hv => hc j v (by simpa using hv))
  cases hq : P.info? ty with
  | none => simp [hq] at hi
  | some i =>
    have hs : i.size = cs.size := by simpa [hq] using hi
    have hagg : (isAgg ty).run P w = .ok true w := by
      unfold isAgg
      rw [Sem.run_bind, run_underlying hu w]
      cases d <;> simp_all
    simp only [Array.length_toList, Array.toArray_toList] at hl
    simp [loadVar, Sem.run_bind, hagg, sizeOf, typeInfo, hq, hs, hl]
theorem wp_load_at (ty : TypeId) (x : Operand) (ho : o.op = .load ty x) (ad : Addr) (hx : a.eval x = .pointer (some ad)) (cs : Array Value) (d : TypeDesc) (hc : ∀ j v, cs[j]? = some v → w.cell? (ad.add j) = some v)
    (hu : P.underlying ty = some d) (hd : (match d with | .struct _ | .array _ _ => true | _ => false) = true) (hi : (P.info? ty).map (·.size) = some cs.size)
    (h : K (a.put o.dst (.agg cs)) w) : o.wp P a w K Q := by
  unfold Oper.wp execOp
  simp only [ho, hx, Instr.loadAt, Instr.sureAddr, Sem.run_bind, Sem.run_pure, Result.andThen_ok, run_loadVar_at w ad ty cs d hc hu hd hi]
  exact h
theorem wpList_load_at (hgd : o.guard = none) (ty : TypeId) (x : Operand) (ho : o.op = .load ty x) (ad : Addr) (hx : a.eval x = .pointer (some ad)) (cs : Array Value) (d : TypeDesc)
    (hc : ∀ j v, cs[j]? = some v → w.cell? (ad.add j) = some v)
    (hu : P.underlying ty = some d) (hd : (match d with | .struct _ | .array _ _ => true | _ => false) = true) (hi : (P.info? ty).map (·.size) = some cs.size)
    (h : wpList P ops Q rest (a.put o.dst (.agg cs)) w) : wpList P ops Q (o :: rest) a w :=
  wpList_plain hgd fun _ hK => wp_load_at ty x ho ad hx cs d hc hu hd hi (hK _ _ h)
end
end Go.Proofs.YtmgkdmbifecekaaGreatDoor
