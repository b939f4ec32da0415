/-
  Words that walks of a range over a function share: what a round keeps, boxes, labels. Package class: code points, digits. The library's contracts, laid at this program.
-/
import Derived.RangeFuncNested
import Derived.RangeFuncBound
import Derived.RangeFuncCalls
import Derived.RangeFuncLeaves
import Derived.RangeFuncFrom
import Derived.Shelf.Abstract
import Derived.Shelf.RegionOpen
import Derived.OwnWalkIn
import Derived.TacticsInMore
import Derived.LoopNIn
import Derived.LoopIn
import Derived.Test.YtmgkdmbifecekaaGreatDoorMgaa
import Derived.Test.YtmgkdmbifecekaaGreatDoorProg
import Derived.WalkKit
import Derived.ProofKit
import Derived.Shelf.Strings.Prefix
import Derived.Shelf.Small.Wraps
import Derived.Shelf.Small.Strs
import Derived.Shelf.Strings.Runes
import Derived.Shelf.Unicode.DecodeAny
import Derived.Shelf.Strconv.Itoa3
namespace Go.Proofs.YtmgkdmbifecekaaGreatDoor
open Go.RowKit Go.Shelf
theorem grown_of_below {w w' : World} (h : Below w.heap.size w w') : w.grownBy w' none := ⟨h.os, h.tape, h.output, h.size, fun k hk _ => h.block k hk⟩

/-- What a round that goes on keeps: what was below n₀, and block b. -/
def KpB (n₀ b : Nat) (A B : World) : Prop := Below n₀ A B ∧ B.heap[b]? = A.heap[b]?
theorem kpB_t {n₀ b : Nat} {A B C : World} (h : KpB n₀ b A B) (k : KpB n₀ b B C) : KpB n₀ b A C := ⟨h.1.trans k.1, k.2.trans h.2⟩
theorem kpB_b {n₀ b : Nat} {w : World} (hn : n₀ ≤ w.heap.size) (hb : b < w.heap.size) (W : World) (l : Nat) (o o' : Obj) (hl : w.heap.size ≤ l) (h : W.heap[l]? = some o) (h1 : o.isCells = false) (h2 : o.isWalk = false) : KpB n₀ b W (W.putObj l o') :=
  ⟨belowK_b hn W l o o' hl h h1 h2, World.putObj_heap_other (by omega)⟩
/-- A function that holds a label, walked without a jump to it. -/
theorem wpIn_scope_wide {P : Program} {n : Nat} {c : Code} {Q : Exit → Act → World → Prop} {a : Act} {w : World} (h : c.wpIn Fence.wide n P (Exit.noGoto Q) a w) : (Code.scope c).wpIn Fence.wide n P Q a w :=
  wpIn_wide.2 (wp_scope_straight (wpIn_wide.1 h))
theorem box_new (W : World) (v : Value) (t : TypeId) : (W.alloc (.cells #[v] t)).cell? ⟨W.heap.size, 0, none⟩ = some v ∧ (W.alloc (.cells #[v] t)).frozen? ⟨W.heap.size, 0, none⟩ = false := by
  constructor <;> simp
theorem box_alloc {W : World} {a : Addr} {v : Value} (o : Obj) (h : W.cell? a = some v) : (W.alloc o).cell? a = some v := cell_kept h (World.grownBy_alloc W o none) (fun r e => by cases e)
theorem box_alloc_f {W : World} {a : Addr} {v : Value} (o : Obj) (h : W.cell? a = some v) (hf : W.frozen? a = false) : (W.alloc o).frozen? a = false := (frozen_kept h (World.grownBy_alloc W o none) (fun r e => by cases e)).trans hf
theorem kpB_set {n₀ b c : Nat} (W : World) (v : Value) (hc : n₀ ≤ c) (hb : b ≠ c) : KpB n₀ b W (W.setCell ⟨c, 0, none⟩ v) :=
  ⟨(Below.refl _ _).setCell (p := ⟨c, 0, none⟩) hc _, Below.heap_setCell _ _ _ _ hb⟩
end Go.Proofs.YtmgkdmbifecekaaGreatDoor
namespace Go.Proofs.YtmgkdmbifecekaaGreatDoor
open Go.RowKit Go.Shelf
def visB (c : Int) : Bool := decide (33 ≤ c) && decide (c ≤ 126)
def pntB (c : Int) : Bool := decide (0 ≤ c) && decide (c ≤ 1114111) && (decide (c < 55296) || decide (57343 < c))
def dgtB (c : Int) : Bool := decide (48 ≤ c) && decide (c ≤ 57)
def lttB (c : Int) : Bool := (decide (97 ≤ c) && decide (c ≤ 122)) || (decide (65 ≤ c) && decide (c ≤ 90))
def mrkB (c : Int) : Bool := visB c && !lttB c && !dgtB c
theorem visible_any (c : Int) (w : World) : Calls Tryz.prog 133 #[.int .i64 c] w fun e w' => e = .returned (.bool (visB c)) ∧ w = w' := by
  unfold visB
  by_cases h1 : (33 : Int) ≤ c
  all_goals
    go_enter Tryz.func133, Tryz.ntmps133
    go_wp2_with fail
    go_ret
    exact ⟨by (try simp); (try (intros; omega)), rfl⟩
theorem point_any (c : Int) (w : World) : Calls Tryz.prog 120 #[.int .i64 c] w fun e w' => e = .returned (.bool (pntB c)) ∧ w = w' := by
  unfold pntB
  by_cases h1 : (0 : Int) ≤ c <;> by_cases h2 : c ≤ 1114111 <;> by_cases h3 : c < 55296
  all_goals
    go_enter Tryz.func120, Tryz.ntmps120
    go_wp2_with fail
    go_ret
    exact ⟨by (try simp); (try (intros; omega)), rfl⟩
theorem mark_any (c : Int) (hc : 0 ≤ c ∧ c ≤ 255) (w : World) : Calls Tryz.prog 190 #[.int .u8 c] w fun e w' => e = .returned (.bool (mrkB c)) ∧ w = w' := by
  have CV := fun w => visible_any c w
  unfold mrkB lttB dgtB
  generalize visB c = v at CV ⊢
  replace CV := Lib.hid CV
  cases v <;> by_cases h1 : (97 : Int) ≤ c <;> by_cases h2 : c ≤ 122 <;> by_cases h3 : (65 : Int) ≤ c <;> by_cases h4 : c ≤ 90 <;> by_cases h5 : (48 : Int) ≤ c <;> by_cases h6 : c ≤ 57
  all_goals try (exfalso; omega)
  all_goals
    go_enter Tryz.func190, Tryz.ntmps190
    go_wp2_with (go_at_call 133; refine (CV.out _).mono ?_; rintro e w1 ⟨rfl, rfl⟩)
    go_ret
    exact ⟨by first | rfl | (simp [*]; done) | (simp [*]; omega), rfl⟩
/-- What a hexadecimal digit stands for. -/
def hexD (c : Int) : Option Int := if 48 ≤ c ∧ c ≤ 57 then some (c - 48) else if 97 ≤ c ∧ c ≤ 102 then some (c - 97 + 10) else if 65 ≤ c ∧ c ≤ 70 then some (c - 65 + 10) else none
theorem cdigit_any (c : Int) (hc : 0 ≤ c ∧ c ≤ 255) (w : World) : Calls Tryz.prog 221 #[.int .u8 c] w fun e w' => e = .returned (.tuple #[.int .i64 ((hexD c).getD 0), .bool (hexD c).isSome]) ∧ w = w' := by
  unfold hexD
  by_cases h1 : (48 : Int) ≤ c <;> by_cases h2 : c ≤ 57 <;> by_cases h3 : (97 : Int) ≤ c <;> by_cases h4 : c ≤ 102 <;> by_cases h5 : (65 : Int) ≤ c <;> by_cases h6 : c ≤ 70
  all_goals try (exfalso; omega)
  all_goals
    go_enter Tryz.func221, Tryz.ntmps221
    go_wp2_with fail
    go_ret2
    exact ⟨by first | rfl | (simp [*]; done) | (simp [*]; omega), rfl⟩
theorem hexD_bd (c d : Int) (h : hexD c = some d) : 0 ≤ d ∧ d ≤ 15 := by
  unfold hexD at h
  split at h
  · cases h; omega
  · split at h
    · cases h; omega
    · split at h
      · cases h; omega
      · cases h
/-- The number of the hexadecimal digits with which bytes begin, and how many they are. -/
def hexG : List Int → Int → Nat → Int × Nat
  | [], x, n => (x, n)
  | c :: cs, x, n => match hexD c with
    | none => (x, n)
    | some d => hexG cs (16 * x + d) (n + 1)
def hexN (xs : List Int) : Int × Nat := hexG xs 0 0
theorem hexG_len : ∀ (xs : List Int) (x : Int) (n : Nat), n ≤ (hexG xs x n).2 ∧ (hexG xs x n).2 ≤ n + xs.length
  | [], x, n => by simp [hexG]
  | c :: cs, x, n => by
    unfold hexG
    cases h : hexD c with
    | none => simp
    | some d =>
      have := hexG_len cs (16 * x + d) (n + 1)
      simp only [List.length_cons]
      omega
theorem hexG_bd : ∀ (xs : List Int) (x : Int) (n m : Nat), 0 ≤ x → x < ((16 ^ n : Nat) : Int) → n + xs.length ≤ m → 0 ≤ (hexG xs x n).1 ∧ (hexG xs x n).1 < ((16 ^ m : Nat) : Int)
  | [], x, n, m, h0, h1, hm => ⟨h0, by have := Nat.pow_le_pow_right (n := 16) (by decide) (show n ≤ m by simpa using hm); show x < _; omega⟩
  | c :: cs, x, n, m, h0, h1, hm => by
    unfold hexG
    cases h : hexD c with
    | none => exact ⟨h0, by have := Nat.pow_le_pow_right (n := 16) (by decide) (show n ≤ m by omega); show x < _; omega⟩
    | some d =>
      obtain ⟨hd0, hd1⟩ := hexD_bd c d h
      exact hexG_bd cs (16 * x + d) (n + 1) m (by omega) (by rw [Nat.pow_succ]; omega) (by simp only [List.length_cons] at hm; omega)
theorem pow16 (n : Nat) (h : n ≤ 6) : 16 ^ n ≤ 16777216 := by
  have := Nat.pow_le_pow_right (n := 16) (by decide) h
  simpa using this
set_option maxHeartbeats 1000000 in
theorem digits_any (s : ByteArray) (m : Nat) (hm : m ≤ 6) (w : World) : Calls Tryz.prog 211 #[.string s, .int .i64 m] w fun e w' => e = .returned (.tuple #[.int .i64 (hexN ((bys s).take m)).1, .int .i64 ((hexN ((bys s).take m)).2 : Nat)]) ∧ w = w' := by
  have CD := Lib.hid cdigit_any
  obtain ⟨L, hL⟩ : ∃ L, L = (bys s).take m := ⟨_, rfl⟩
  have hl : L.length = min m s.size := by rw [hL, List.length_take, bys_length]
  have hLg : Hid (∀ j (h : j < s.size), j < m → L.drop j = (s[j].toNat : Int) :: L.drop (j + 1)) := by
    intro j h hj
    have h2 : j < L.length := by rw [hl]; omega
    rw [List.drop_eq_getElem_cons h2]
    congr 1
    have h3 : L[j]? = some (s[j].toNat : Int) := by rw [hL, List.getElem?_take_of_lt hj]; exact bys_get s j h
    rw [List.getElem?_eq_getElem h2] at h3
    exact Option.some.inj h3
  have hl2 : L.length ≤ 6 := by omega
  rw [← hL]
  clear hL
  go_enter Tryz.func211, Tryz.ntmps211
  go_wp2_with fail
  go_loopw [6, 7] (fun v6 v7 wr => ∃ (x : Int) (n : Nat), v6 = .int .i64 x ∧ v7 = .int .i64 n ∧ n ≤ L.length ∧ Hid (hexN L = hexG (L.drop n) x n) ∧ 0 ≤ x ∧ Hid (x < ((16 ^ n : Nat) : Int)) ∧ wr = w) (fun _ v7 _ => L.length - (intOf v7).toNat)
  case atStart => exact ⟨0, 0, rfl, rfl, by omega, rfl, by omega, (by decide : (0 : Int) < ((16 ^ 0 : Nat) : Int)), rfl⟩
  case round =>
    obtain ⟨x, n, rfl, rfl, hn, hH, hx0, hx1, rfl⟩ := hrel
    obtain ⟨wa, rfl⟩ : ∃ x, x = wr := ⟨_, rfl⟩
    have hp : x < 16777216 := by have := pow16 n (by omega); have := hx1.out; omega
    have last : L.length ≤ n → hexN L = (x, n) := fun h => by rw [hH.out, List.drop_of_length_le h]; rfl
    by_cases hms : (m : Int) ≤ (s.size : Int)
    · by_cases hnm : n < m
      · have h1 : (n : Int) < (m : Int) := by omega
        have h2 : n < s.size := by omega
        have hdr := hLg.out n h2 hnm
        have HD := Lib.hid hdr
        clear last hdr
        go_wp2_with fail
        refine (CD.out _ (by have := s[n].toNat_lt; omega) _).mono ?_
        rintro e w1 ⟨rfl, rfl⟩
        cases hd : hexD (s[n].toNat : Int) with
        | none =>
          have hl3 : hexN L = (x, n) := by rw [hH.out, HD.out]; unfold hexG; rw [hd]
          go_wp2_with fail
          go_ret2
          exact ⟨by first | rfl | (rw [hl3]; rfl), rfl⟩
        | some d =>
          obtain ⟨hd0, hd1⟩ := hexD_bd _ d hd
          have hl3 : Hid (hexN L = hexG (L.drop (n + 1)) (16 * x + d) (n + 1)) := by
            show _ = _
            rw [hH.out, HD.out, hexG, hd]
          have hl4 : Hid (16 * x + d < ((16 ^ (n + 1) : Nat) : Int)) := by
            show _ < _
            have := hx1.out
            rw [Nat.pow_succ]
            omega
          go_wp2_with fail
          go_roundw
          case rel => exact ⟨16 * x + d, n + 1, by go_num, by go_num, by omega, hl3, by omega, hl4, trivial⟩
          case measure => simp [intOf]; omega
      · have h1 : ¬ (n : Int) < (m : Int) := by omega
        have hl3 := last (by omega)
        clear last
        go_wp2_with fail
        go_ret2
        exact ⟨by first | rfl | (rw [hl3]; rfl), rfl⟩
    · by_cases hnm : n < s.size
      · have h1 : (n : Int) < (s.size : Int) := by omega
        have h2 : n < s.size := by omega
        have hdr := hLg.out n h2 (by omega)
        have HD := Lib.hid hdr
        clear last hdr
        go_wp2_with fail
        refine (CD.out _ (by have := s[n].toNat_lt; omega) _).mono ?_
        rintro e w1 ⟨rfl, rfl⟩
        cases hd : hexD (s[n].toNat : Int) with
        | none =>
          have hl3 : hexN L = (x, n) := by rw [hH.out, HD.out]; unfold hexG; rw [hd]
          go_wp2_with fail
          go_ret2
          exact ⟨by first | rfl | (rw [hl3]; rfl), rfl⟩
        | some d =>
          obtain ⟨hd0, hd1⟩ := hexD_bd _ d hd
          have hl3 : Hid (hexN L = hexG (L.drop (n + 1)) (16 * x + d) (n + 1)) := by
            show _ = _
            rw [hH.out, HD.out, hexG, hd]
          have hl4 : Hid (16 * x + d < ((16 ^ (n + 1) : Nat) : Int)) := by
            show _ < _
            have := hx1.out
            rw [Nat.pow_succ]
            omega
          go_wp2_with fail
          go_roundw
          case rel => exact ⟨16 * x + d, n + 1, by go_num, by go_num, by omega, hl3, by omega, hl4, trivial⟩
          case measure => simp [intOf]; omega
      · have h1 : ¬ (n : Int) < (s.size : Int) := by omega
        have hl3 := last (by omega)
        clear last
        go_wp2_with fail
        go_ret2
        exact ⟨by first | rfl | (rw [hl3]; rfl), rfl⟩
end Go.Proofs.YtmgkdmbifecekaaGreatDoor
namespace Go.Proofs.YtmgkdmbifecekaaGreatDoor
open Go.Shelf
def sh_lays137_ren : Go.Shelf.Ren := ⟨fun | 137 => 136 | 217 => 154 | 266 => 169 | n => n, fun | 9 => 9 | 5 => 5 | 3 => 3 | n => n, fun | n => n⟩
theorem sh_lays137 : Go.Proofs.Lays.n137 Tryz.prog sh_lays137_ren := {
  mixed := by kernel_rfl
  f137 := Tryz.func136.trans (congrArg some (by kernel_rfl))
  f217 := Tryz.func154.trans (congrArg some (by kernel_rfl))
  f266 := Tryz.func169.trans (congrArg some (by kernel_rfl))
  t3 := Tryz.underlying3
  a3 := Tryz.isAgg3
  z3 := Tryz.sizeOf3
  v3 := Tryz.zeroValue3
  t5 := Tryz.underlying5
  a5 := Tryz.isAgg5
  z5 := Tryz.sizeOf5
  v5 := Tryz.zeroValue5
  t9 := Tryz.underlying9
  a9 := Tryz.isAgg9
  z9 := Tryz.sizeOf9
  v9 := Tryz.zeroValue9 }
open Go.RowKit in
/-- strings.IndexByte: "IndexByte returns the index of the first instance of c in s, or -1 if c is not present in s.": IT RETURNS 'Lib.indexByte s c'; the world is as it was. (LAID: no walk: one application.) -/
theorem sh_strings_IndexByte (s : ByteArray) (c : Int) (w : World) :
    Calls Tryz.prog 136 #[.string s, .int .u8 c] w fun e w' => e = .returned (.int .i64 (Lib.indexByte s.data.toList c.toNat.toUInt8)) ∧ w' = w := Any.strings_IndexByte sh_lays137 s c w
def sh_lays103_ren : Go.Shelf.Ren := ⟨fun | 103 => 94 | 210 => 117 | 206 => 77 | n => n, fun | 9 => 9 | 4 => 4 | 24 => 162 | 3 => 3 | n => n, fun | n => n⟩
theorem sh_lays103 : Go.Proofs.Lays.n103 Tryz.prog sh_lays103_ren := {
  mixed := by kernel_rfl
  f103 := Tryz.func94.trans (congrArg some (by kernel_rfl))
  f206 := Tryz.func77.trans (congrArg some (by kernel_rfl))
  f210 := Tryz.func117.trans (congrArg some (by kernel_rfl))
  t3 := Tryz.underlying3
  a3 := Tryz.isAgg3
  z3 := Tryz.sizeOf3
  v3 := Tryz.zeroValue3
  t4 := Tryz.underlying4
  a4 := Tryz.isAgg4
  z4 := Tryz.sizeOf4
  v4 := Tryz.zeroValue4
  t9 := Tryz.underlying9
  a9 := Tryz.isAgg9
  z9 := Tryz.sizeOf9
  v9 := Tryz.zeroValue9
  t24 := Tryz.underlying162
  a24 := Tryz.isAgg162
  z24 := Tryz.sizeOf162
  v24 := Tryz.zeroValue162 }
open Go.RowKit in
/-- strings.CutPrefix: "CutPrefix returns s without the provided leading prefix string and reports whether it found the prefix. If s doesn't start with prefix, CutPrefix returns s, false. If prefix is the empty string, CutPrefix returns s, true.": IT RETURNS '(Lib.trimPrefix s p, Lib.hasPrefix s p)'; the world is as it was. (LAID: no walk: one application.) -/
theorem sh_strings_CutPrefix (s p : ByteArray) (w : World) :
    Calls Tryz.prog 94 #[.string s, .string p] w fun e w' => e = .returned (.tuple #[.string ⟨(Lib.trimPrefix s.data.toList p.data.toList).toArray⟩, .bool (Lib.hasPrefix s.data.toList p.data.toList)]) ∧ w' = w := Any.strings_CutPrefix sh_lays103 s p w
def sh_lays122_ren : Go.Shelf.Ren := ⟨fun | 122 => 162 | 215 => 183 | n => n, fun | 3 => 3 | 4 => 4 | n => n, fun | n => n⟩
theorem sh_lays122 : Go.Proofs.Lays.n122 Tryz.prog sh_lays122_ren := {
  mixed := by kernel_rfl
  f122 := Tryz.func162.trans (congrArg some (by kernel_rfl))
  f215 := Tryz.func183.trans (congrArg some (by kernel_rfl))
  t3 := Tryz.underlying3
  a3 := Tryz.isAgg3
  z3 := Tryz.sizeOf3
  v3 := Tryz.zeroValue3
  t4 := Tryz.underlying4
  a4 := Tryz.isAgg4
  z4 := Tryz.sizeOf4
  v4 := Tryz.zeroValue4 }
open Go.RowKit in
/-- cmp.Compare at int: "Compare returns -1 if x is less than y, 0 if x equals y, +1 if x is greater than y.": IT RETURNS 'Lib.compareInt x y'; the world is as it was. (LAID: no walk: one application.) -/
theorem sh_cmp_Compare_int (x y : Int) (w : World) :
    Calls Tryz.prog 162 #[.int .i64 x, .int .i64 y] w fun e w' => e = .returned (.int .i64 (Lib.compareInt x y)) ∧ w' = w := Any.cmp_Compare_int sh_lays122 x y w
def sh_lays171_ren : Go.Shelf.Ren := ⟨fun | 171 => 26 | 243 => 48 | 246 => 74 | 283 => 99 | 284 => 100 | 285 => 101 | 286 => 102 | 129 => 122 | 317 => 121 | 318 => 123 | 319 => 124 | 320 => 125 | 337 => 143 | 338 => 144 | n => n, fun | 3 => 3 | 9 => 9 | 2 => 2 | 4 => 4 | 171 => 166 | 0 => 0 | 53 => 142 | 37 => 86 | 5 => 5 | 173 => 169 | 212 => 188 | 51 => 139 | 20 => 20 | 213 => 189 | 46 => 109 | 232 => 218 | 233 => 219 | n => n, fun | 17 => 0 | 18 => 2 | 19 => 3 | n => n⟩
theorem sh_lays171 : Go.Proofs.Lays.n171 Tryz.prog sh_lays171_ren := {
  mixed := by kernel_rfl
  f129 := Tryz.func122.trans (congrArg some (by kernel_rfl))
  f171 := Tryz.func26.trans (congrArg some (by kernel_rfl))
  f243 := Tryz.func48.trans (congrArg some (by kernel_rfl))
  f246 := Tryz.func74.trans (congrArg some (by kernel_rfl))
  f283 := Tryz.func99.trans (congrArg some (by kernel_rfl))
  f284 := Tryz.func100.trans (congrArg some (by kernel_rfl))
  f285 := Tryz.func101.trans (congrArg some (by kernel_rfl))
  f286 := Tryz.func102.trans (congrArg some (by kernel_rfl))
  f317 := Tryz.func121.trans (congrArg some (by kernel_rfl))
  f318 := Tryz.func123.trans (congrArg some (by kernel_rfl))
  f319 := Tryz.func124.trans (congrArg some (by kernel_rfl))
  f320 := Tryz.func125.trans (congrArg some (by kernel_rfl))
  f337 := Tryz.func143.trans (congrArg some (by kernel_rfl))
  f338 := Tryz.func144.trans (congrArg some (by kernel_rfl))
  t0 := Tryz.underlying0
  a0 := Tryz.isAgg0
  z0 := Tryz.sizeOf0
  v0 := Tryz.zeroValue0
  t2 := Tryz.underlying2
  a2 := Tryz.isAgg2
  z2 := Tryz.sizeOf2
  v2 := Tryz.zeroValue2
  t3 := Tryz.underlying3
  a3 := Tryz.isAgg3
  z3 := Tryz.sizeOf3
  v3 := Tryz.zeroValue3
  t4 := Tryz.underlying4
  a4 := Tryz.isAgg4
  z4 := Tryz.sizeOf4
  v4 := Tryz.zeroValue4
  t5 := Tryz.underlying5
  a5 := Tryz.isAgg5
  z5 := Tryz.sizeOf5
  v5 := Tryz.zeroValue5
  t9 := Tryz.underlying9
  a9 := Tryz.isAgg9
  z9 := Tryz.sizeOf9
  v9 := Tryz.zeroValue9
  t20 := Tryz.underlying20
  a20 := Tryz.isAgg20
  z20 := Tryz.sizeOf20
  v20 := Tryz.zeroValue20
  t37 := Tryz.underlying86
  a37 := Tryz.isAgg86
  z37 := Tryz.sizeOf86
  v37 := Tryz.zeroValue86
  t46 := Tryz.underlying109
  a46 := Tryz.isAgg109
  z46 := Tryz.sizeOf109
  v46 := Tryz.zeroValue109
  t51 := Tryz.underlying139
  a51 := Tryz.isAgg139
  z51 := Tryz.sizeOf139
  v51 := Tryz.zeroValue139
  t53 := Tryz.underlying142
  a53 := Tryz.isAgg142
  z53 := Tryz.sizeOf142
  v53 := Tryz.zeroValue142
  t171 := Tryz.underlying166
  a171 := Tryz.isAgg166
  z171 := Tryz.sizeOf166
  v171 := Tryz.zeroValue166
  t173 := Tryz.underlying169
  a173 := Tryz.isAgg169
  z173 := Tryz.sizeOf169
  v173 := Tryz.zeroValue169
  t212 := Tryz.underlying188
  a212 := Tryz.isAgg188
  z212 := Tryz.sizeOf188
  v212 := Tryz.zeroValue188
  t213 := Tryz.underlying189
  a213 := Tryz.isAgg189
  z213 := Tryz.sizeOf189
  t232 := Tryz.underlying218
  a232 := Tryz.isAgg218
  z232 := Tryz.sizeOf218
  v232 := Tryz.zeroValue218
  t233 := Tryz.underlying219
  a233 := Tryz.isAgg219
  z233 := Tryz.sizeOf219
  v233 := Tryz.zeroValue219
  g17 := by kernel_rfl
  g18 := by kernel_rfl
  g19 := by kernel_rfl }
open Go.RowKit Go.Sort Go.Lib in
/-- THE ROAD WITHOUT THE TABLE: 0 <= i < 100: NO PREMISE ON THE WORLD, AND THE WORLD IS AS IT WAS: a row that keeps its argument in that range need list no table ('laid = []'). (LAID: no walk: one application.) -/
theorem sh_strconv_Itoa_small (i : Nat) (hi : i < 100) (w : World) :
    Calls Tryz.prog 26 #[.int .i64 i] w fun e w' => e = .returned (.string ⟨(Lib.decDigits i).toArray⟩) ∧ w' = w := Any.strconv_Itoa_small sh_lays171 i hi w
def sh_lays99_ren : Go.Shelf.Ren := ⟨fun | 99 => 50 | 206 => 77 | n => n, fun | 9 => 9 | 4 => 4 | 3 => 3 | n => n, fun | n => n⟩
theorem sh_lays99 : Go.Proofs.Lays.n99 Tryz.prog sh_lays99_ren := {
  mixed := by kernel_rfl
  f99 := Tryz.func50.trans (congrArg some (by kernel_rfl))
  f206 := Tryz.func77.trans (congrArg some (by kernel_rfl))
  t3 := Tryz.underlying3
  a3 := Tryz.isAgg3
  z3 := Tryz.sizeOf3
  v3 := Tryz.zeroValue3
  t4 := Tryz.underlying4
  a4 := Tryz.isAgg4
  z4 := Tryz.sizeOf4
  v4 := Tryz.zeroValue4
  t9 := Tryz.underlying9
  a9 := Tryz.isAgg9
  z9 := Tryz.sizeOf9
  v9 := Tryz.zeroValue9 }
open Go.RowKit Go.Lib in
/-- strings.HasPrefix: "HasPrefix reports whether the string s begins with prefix.": IT RETURNS 'Lib.hasPrefix s prefix'; the world is as it was. (LAID: no walk: one application.) -/
theorem sh_strings_HasPrefix (s p : ByteArray) (w : World) :
    Calls Tryz.prog 50 #[.string s, .string p] w fun e w' => e = .returned (.bool (Lib.hasPrefix s.data.toList p.data.toList)) ∧ w' = w := Any.strings_HasPrefix sh_lays99 s p w
def sh_lays197_ren : Go.Shelf.Ren := ⟨fun | 197 => 164 | 260 => 185 | n => n, fun | 9 => 9 | 21 => 21 | 3 => 3 | 4 => 4 | 5 => 5 | 105 => 228 | 119 => 269 | 0 => 0 | 46 => 109 | 139 => 272 | 138 => 271 | n => n, fun | 3 => 5 | 4 => 6 | n => n⟩
theorem sh_lays197 : Go.Proofs.Lays.n197 Tryz.prog sh_lays197_ren := {
  mixed := by kernel_rfl
  f197 := Tryz.func164.trans (congrArg some (by kernel_rfl))
  f260 := Tryz.func185.trans (congrArg some (by kernel_rfl))
  t0 := Tryz.underlying0
  a0 := Tryz.isAgg0
  z0 := Tryz.sizeOf0
  v0 := Tryz.zeroValue0
  t3 := Tryz.underlying3
  a3 := Tryz.isAgg3
  z3 := Tryz.sizeOf3
  v3 := Tryz.zeroValue3
  t4 := Tryz.underlying4
  a4 := Tryz.isAgg4
  z4 := Tryz.sizeOf4
  v4 := Tryz.zeroValue4
  t5 := Tryz.underlying5
  a5 := Tryz.isAgg5
  z5 := Tryz.sizeOf5
  v5 := Tryz.zeroValue5
  t9 := Tryz.underlying9
  a9 := Tryz.isAgg9
  z9 := Tryz.sizeOf9
  v9 := Tryz.zeroValue9
  t21 := Tryz.underlying21
  a21 := Tryz.isAgg21
  z21 := Tryz.sizeOf21
  v21 := Tryz.zeroValue21
  t46 := Tryz.underlying109
  a46 := Tryz.isAgg109
  z46 := Tryz.sizeOf109
  v46 := Tryz.zeroValue109
  t105 := Tryz.underlying228
  a105 := Tryz.isAgg228
  z105 := Tryz.sizeOf228
  v105 := Tryz.zeroValue228
  t119 := Tryz.underlying269
  a119 := Tryz.isAgg269
  z119 := Tryz.sizeOf269
  t138 := Tryz.underlying271
  a138 := Tryz.isAgg271
  z138 := Tryz.sizeOf271
  v138 := Tryz.zeroValue271
  t139 := Tryz.underlying272
  a139 := Tryz.isAgg272
  z139 := Tryz.sizeOf272
  v139 := Tryz.zeroValue272
  g3 := by kernel_rfl
  g4 := by kernel_rfl }
def sh_lays151_ren : Go.Shelf.Ren := ⟨fun | 151 => 91 | 152 => 116 | 137 => 136 | 119 => 137 | 224 => 138 | 225 => 139 | 217 => 154 | 266 => 169 | n => n, fun | 9 => 9 | 21 => 21 | 4 => 4 | 3 => 3 | 5 => 5 | 0 => 0 | 46 => 109 | n => n, fun | n => n⟩
theorem sh_lays151 : Go.Proofs.Lays.n151 Tryz.prog sh_lays151_ren := {
  mixed := by kernel_rfl
  f119 := Tryz.func137.trans (congrArg some (by kernel_rfl))
  f137 := Tryz.func136.trans (congrArg some (by kernel_rfl))
  f151 := Tryz.func91.trans (congrArg some (by kernel_rfl))
  f152 := Tryz.func116.trans (congrArg some (by kernel_rfl))
  f217 := Tryz.func154.trans (congrArg some (by kernel_rfl))
  f224 := Tryz.func138.trans (congrArg some (by kernel_rfl))
  f225 := Tryz.func139.trans (congrArg some (by kernel_rfl))
  f266 := Tryz.func169.trans (congrArg some (by kernel_rfl))
  t0 := Tryz.underlying0
  a0 := Tryz.isAgg0
  z0 := Tryz.sizeOf0
  v0 := Tryz.zeroValue0
  t3 := Tryz.underlying3
  a3 := Tryz.isAgg3
  z3 := Tryz.sizeOf3
  v3 := Tryz.zeroValue3
  t4 := Tryz.underlying4
  a4 := Tryz.isAgg4
  z4 := Tryz.sizeOf4
  v4 := Tryz.zeroValue4
  t5 := Tryz.underlying5
  a5 := Tryz.isAgg5
  z5 := Tryz.sizeOf5
  v5 := Tryz.zeroValue5
  t9 := Tryz.underlying9
  a9 := Tryz.isAgg9
  z9 := Tryz.sizeOf9
  v9 := Tryz.zeroValue9
  t21 := Tryz.underlying21
  a21 := Tryz.isAgg21
  z21 := Tryz.sizeOf21
  v21 := Tryz.zeroValue21
  t46 := Tryz.underlying109
  a46 := Tryz.isAgg109
  z46 := Tryz.sizeOf109
  v46 := Tryz.zeroValue109 }
open Go.RowKit Go.Lib in
theorem sh_strings_ContainsRune_ascii (s : ByteArray) (r : Int) (w : World) (h0 : 0 ≤ r) (h1 : r < 128) :
    Calls Tryz.prog 91 #[.string s, .int .i32 r] w fun e w' => e = .returned (.bool (decide (0 ≤ Lib.indexByte s.data.toList r.toNat.toUInt8))) ∧ w' = w := Any.strings_ContainsRune_ascii sh_lays151 s r w h0 h1
open Go.RowKit Go.Lib in
/-- **unicode/utf8.DecodeRuneInString AT EVERY STRING.** (LAID: no walk: one application.) -/
theorem sh_utf8_DecodeRuneInString (s : ByteArray) (w : World) (hT : Lib.Utf8Tabs 5 6 w) :
    Calls Tryz.prog 164 #[.string s] w fun e w' => e = .returned (.tuple #[.int .i32 (Lib.decodeGo s).1, .int .i64 (Lib.decodeGo s).2]) ∧ Below w.heap.size w w' := Any.utf8_DecodeRuneInString sh_lays197 s w hT
end Go.Proofs.YtmgkdmbifecekaaGreatDoor
