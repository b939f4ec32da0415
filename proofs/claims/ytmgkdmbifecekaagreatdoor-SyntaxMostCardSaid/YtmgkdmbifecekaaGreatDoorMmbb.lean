/-
  The library's contracts, laid at this program. Package syntax: small ones. Package syntax: texts of trees: the mathematics. Package syntax: the texts of quantifiers.
-/
import Derived.Shelf.Strings.Repeat
import Derived.Test.YtmgkdmbifecekaaGreatDoorProg
import Derived.Test.YtmgkdmbifecekaaGreatDoorMmai
import Derived.Test.YtmgkdmbifecekaaGreatDoorMmaj
import Derived.Test.YtmgkdmbifecekaaGreatDoorMmao
set_option linter.all false
set_option linter.unusedSimpArgs false
set_option linter.unusedVariables false
set_option linter.unusedSectionVars false
namespace Go.Proofs.YtmgkdmbifecekaaGreatDoor
open Go.Shelf
def sh_lays105_ren : Go.Shelf.Ren := ⟨fun | 105 => 27 | 212 => 49 | 99 => 50 | 165 => 51 | 166 => 52 | 170 => 42 | 169 => 43 | 263 => 75 | 264 => 76 | 206 => 77 | 240 => 78 | 241 => 79 | 276 => 103 | 277 => 104 | n => n, fun | 9 => 9 | 3 => 3 | 4 => 4 | 20 => 20 | 0 => 0 | 46 => 109 | 109 => 110 | 5 => 5 | 72 => 88 | 76 => 116 | 51 => 139 | 146 => 140 | 53 => 142 | 148 => 143 | 70 => 85 | 37 => 86 | 75 => 115 | 127 => 128 | 164 => 171 | 80 => 92 | n => n, fun | n => n⟩
theorem sh_lays105 : Go.Proofs.Lays.n105 Tryz.prog sh_lays105_ren := {
  mixed := by kernel_rfl
  f99 := Tryz.func50.trans (congrArg some (by kernel_rfl))
  f105 := Tryz.func27.trans (congrArg some (by kernel_rfl))
  f165 := Tryz.func51.trans (congrArg some (by kernel_rfl))
  f166 := Tryz.func52.trans (congrArg some (by kernel_rfl))
  f169 := Tryz.func43.trans (congrArg some (by kernel_rfl))
  f170 := Tryz.func42.trans (congrArg some (by kernel_rfl))
  f206 := Tryz.func77.trans (congrArg some (by kernel_rfl))
  f212 := Tryz.func49.trans (congrArg some (by kernel_rfl))
  f240 := Tryz.func78.trans (congrArg some (by kernel_rfl))
  f241 := Tryz.func79.trans (congrArg some (by kernel_rfl))
  f263 := Tryz.func75.trans (congrArg some (by kernel_rfl))
  f264 := Tryz.func76.trans (congrArg some (by kernel_rfl))
  f276 := Tryz.func103.trans (congrArg some (by kernel_rfl))
  f277 := Tryz.func104.trans (congrArg some (by kernel_rfl))
  t0 := Tryz.underlying0
  a0 := Tryz.isAgg0
  z0 := Tryz.sizeOf0
  v0 := Tryz.zeroValue0
  t3 := Tryz.underlying3
  a3 := Tryz.isAgg3
  z3 := Tryz.sizeOf3
  v3 := Tryz.zeroValue3
  t4 := Tryz.underlying4
  a4 := Tryz.isAgg4
  z4 := Tryz.sizeOf4
  v4 := Tryz.zeroValue4
  t5 := Tryz.underlying5
  a5 := Tryz.isAgg5
  z5 := Tryz.sizeOf5
  v5 := Tryz.zeroValue5
  t9 := Tryz.underlying9
  a9 := Tryz.isAgg9
  z9 := Tryz.sizeOf9
  v9 := Tryz.zeroValue9
  t20 := Tryz.underlying20
  a20 := Tryz.isAgg20
  z20 := Tryz.sizeOf20
  v20 := Tryz.zeroValue20
  t37 := Tryz.underlying86
  a37 := Tryz.isAgg86
  z37 := Tryz.sizeOf86
  v37 := Tryz.zeroValue86
  t46 := Tryz.underlying109
  a46 := Tryz.isAgg109
  z46 := Tryz.sizeOf109
  v46 := Tryz.zeroValue109
  t51 := Tryz.underlying139
  a51 := Tryz.isAgg139
  z51 := Tryz.sizeOf139
  v51 := Tryz.zeroValue139
  t53 := Tryz.underlying142
  a53 := Tryz.isAgg142
  z53 := Tryz.sizeOf142
  v53 := Tryz.zeroValue142
  t70 := Tryz.underlying85
  a70 := Tryz.isAgg85
  z70 := Tryz.sizeOf85
  v70 := Tryz.zeroValue85
  t72 := Tryz.underlying88
  a72 := Tryz.isAgg88
  z72 := Tryz.sizeOf88
  v72 := Tryz.zeroValue88
  t75 := Tryz.underlying115
  a75 := Tryz.isAgg115
  z75 := Tryz.sizeOf115
  v75 := Tryz.zeroValue115
  t76 := Tryz.underlying116
  a76 := Tryz.isAgg116
  z76 := Tryz.sizeOf116
  v76 := Tryz.zeroValue116
  t109 := Tryz.underlying110
  a109 := Tryz.isAgg110
  z109 := Tryz.sizeOf110
  v109 := Tryz.zeroValue110
  t127 := Tryz.underlying128
  a127 := Tryz.isAgg128
  z127 := Tryz.sizeOf128
  v127 := Tryz.zeroValue128
  t146 := Tryz.underlying140
  a146 := Tryz.isAgg140
  z146 := Tryz.sizeOf140
  v146 := Tryz.zeroValue140
  t148 := Tryz.underlying143
  a148 := Tryz.isAgg143
  z148 := Tryz.sizeOf143
  v148 := Tryz.zeroValue143
  t164 := Tryz.underlying171
  a164 := Tryz.isAgg171
  z164 := Tryz.sizeOf171
  v164 := Tryz.zeroValue171 }
theorem sh_Builder_Extra_105 : Builder.Extra Tryz.prog sh_lays105_ren := {
  sizeBuilder := by kernel_rfl
  liesBuilder := by kernel_rfl
  t5 := Tryz.underlying5
  a5 := Tryz.isAgg5
  z5 := Tryz.sizeOf5
  v5 := Tryz.zeroValue5
  infoByte := by kernel_rfl
  cellsByte := by kernel_rfl
  sizeByte := by kernel_rfl
  neB5 := by decide }
open Go.RowKit Go.Lib in
/-- **strings.Repeat: count ≥ 0, the result within one allocation: count copies of s.** (LAID: no walk: one application.) -/
theorem sh_strings_Repeat (s : ByteArray) (c : Nat) (w : World) (hc : c ≤ 9223372036854775807) (hlen : s.size * c ≤ 140737488355328) :
    Calls Tryz.prog 27 #[.string s, .int .i64 c] w fun e w' => e = .returned (.string ⟨(Lib.repeatL s.data.toList c).toArray⟩) ∧ Below w.heap.size w w' := Any.strings_Repeat sh_lays105 sh_Builder_Extra_105 s c w hc hlen
end Go.Proofs.YtmgkdmbifecekaaGreatDoor
namespace Go.Proofs.YtmgkdmbifecekaaGreatDoor
open Go.RowKit Go.Shelf
/-- Whether a part has to be enclosed. -/
def aprF (k o : Int) : Bool := if o = 3 then (decide (k = 3) || decide (k = 4) || decide (k = 1)) else if o = 4 then decide (k = 4) else if o = 5 then (decide (k ≠ 2) && decide (k ≠ 6)) else false
theorem apart_any (k o : Int) (w : World) : Calls Tryz.prog 93 #[.int .u8 k, .int .u8 o] w fun e w' => e = .returned (.bool (aprF k o)) ∧ w = w' := by
  have E : ∀ n : Int, k ≠ n → (k == n) = false := fun n h => by rw [beq_eq_false_iff_ne]; exact h
  have N : ∀ n : Int, k ≠ n → (k != n) = true := fun n h => by rw [bne_iff_ne]; exact h
  have EO : ∀ n : Int, o ≠ n → (o == n) = false := fun n h => by rw [beq_eq_false_iff_ne]; exact h
  unfold aprF
  by_cases o3 : o = 3
  · subst o3
    rw [if_pos rfl]
    clear EO N
    by_cases k3 : k = 3
    · subst k3; clear E
      go_enter Tryz.func93, Tryz.ntmps93
      go_wp2_with fail
      go_ret
      exact ⟨by first | rfl | simp, rfl⟩
    · by_cases k4 : k = 4
      · subst k4; clear E
        go_enter Tryz.func93, Tryz.ntmps93
        go_wp2_with fail
        go_ret
        exact ⟨by first | rfl | simp, rfl⟩
      · by_cases k1 : k = 1
        · subst k1; clear E
          go_enter Tryz.func93, Tryz.ntmps93
          go_wp2_with fail
          go_ret
          exact ⟨by first | rfl | simp, rfl⟩
        · have a3 := E 3 k3; have a4 := E 4 k4; have a1 := E 1 k1
          clear E
          go_enter Tryz.func93, Tryz.ntmps93
          go_wp2_with fail
          go_ret
          exact ⟨by first | rfl | (simp [*]; done), rfl⟩
  · rw [if_neg o3]
    by_cases o4 : o = 4
    · subst o4
      rw [if_pos rfl]
      clear EO N
      by_cases k4 : k = 4
      · subst k4; clear E
        go_enter Tryz.func93, Tryz.ntmps93
        go_wp2_with fail
        go_ret
        exact ⟨by first | rfl | simp, rfl⟩
      · have a4 := E 4 k4
        clear E
        go_enter Tryz.func93, Tryz.ntmps93
        go_wp2_with fail
        go_ret
        exact ⟨by first | rfl | (simp [*]; done), rfl⟩
    · rw [if_neg o4]
      by_cases o5 : o = 5
      · subst o5
        rw [if_pos rfl]
        clear EO
        by_cases k2 : k = 2
        · subst k2; clear E N
          go_enter Tryz.func93, Tryz.ntmps93
          go_wp2_with fail
          go_ret
          exact ⟨by first | rfl | simp, rfl⟩
        · by_cases k6 : k = 6
          · subst k6; clear E N
            go_enter Tryz.func93, Tryz.ntmps93
            go_wp2_with fail
            go_ret
            exact ⟨by first | rfl | simp, rfl⟩
          · have a2 := N 2 k2; have a6 := N 6 k6
            clear E N
            go_enter Tryz.func93, Tryz.ntmps93
            go_wp2_with fail
            go_ret
            exact ⟨by first | rfl | (simp [*]; done), rfl⟩
      · have b3 := EO 3 o3; have b4 := EO 4 o4; have b5 := EO 5 o5
        rw [if_neg o5]
        clear E N EO
        go_enter Tryz.func93, Tryz.ntmps93
        go_wp2_with fail
        go_ret
        exact ⟨by first | rfl | (simp [*]; done), rfl⟩
end Go.Proofs.YtmgkdmbifecekaaGreatDoor
namespace Go.Proofs.YtmgkdmbifecekaaGreatDoor
open Go.RowKit Go.Shelf
/-- A number below 100 in decimal. -/
def decT (n : Nat) : Bs := if n < 10 then [UInt8.ofNat (48 + n)] else if n < 100 then [UInt8.ofNat (48 + n / 10), UInt8.ofNat (48 + n % 10)] else Lib.decDigits n
theorem decT_eq (n : Nat) : Lib.decDigits n = decT n := by
  unfold decT
  split
  · rename_i h
    rw [Lib.decDigits, dif_pos h]
  · rename_i h
    split
    · rename_i h2
      rw [Lib.decDigits, dif_neg h, Lib.decDigits, dif_pos (by omega)]
      rfl
    · rfl
/-- The first quantifier that says how many times. -/
def tmsS (a b : Int) : Bs :=
  if a = 0 ∧ b = -1 then [42] else if a = 1 ∧ b = -1 then [43] else if a = 0 ∧ b = 1 then [63]
  else if a = b then [123] ++ (decT a.toNat ++ [125])
  else if b = -1 then [123] ++ (decT a.toNat ++ [44, 125])
  else [123] ++ (decT a.toNat ++ ([44] ++ (decT b.toNat ++ [125])))
def quaS (a b : Int) (z : Bool) : Bs := tmsS a b ++ if z = true then [63] else []
/-- Points that are written as they are. -/
def plainP (c : Int) : Bool := decide (33 ≤ c) && (decide (c ≤ 126) && (!decide (c = 94) && !([92, 91, 93, 45] : Bs).contains (UInt8.ofNat c.toNat)))
def hexU (n : Nat) : UInt8 := if n < 10 then UInt8.ofNat (48 + n) else UInt8.ofNat (55 + n)
def hexT : Nat → Nat → Bs
  | 0, _ => []
  | k + 1, n => if n < 16 then [hexU n] else hexT k (n / 16) ++ [hexU (n % 16)]
def ptS (c : Int) : Bs := if plainP c = true then [UInt8.ofNat c.toNat] else [92, 120, 123] ++ (hexT 6 c.toNat ++ [125])
def rgS (r : Rng) : Bs := ptS r.1 ++ if r.1 < r.2 then [45] ++ ptS r.2 else []
def rgsS (L : List Rng) : Bs := L.flatMap rgS
/-- The text of a set, as a class. -/
def clsS (L : List Rng) : Bs := if L = [] then [91, 94, 92, 120, 123, 48, 125, 45, 92, 120, 123, 49, 48, 70, 70, 70, 70, 125, 93] else [91] ++ (rgsS L ++ [93])
/-- The text of a set, as a pattern. -/
def setS (L : List Rng) : Bs :=
  if L = allR then [46] else match L with
    | [(c, d)] => if c ≠ d then clsS L else if c < 33 ∨ 126 < c then (clsS L).dropLast.drop 1 else if noAt.contains (UInt8.ofNat c.toNat) = true then [92, UInt8.ofNat c.toNat] else [UInt8.ofNat c.toNat]
    | _ => clsS L
def kindT : Tree → Int
  | .mk k _ _ _ _ _ => k
def befS (k : Int) (set : List Rng) : Bs := if k = 2 then setS set else if k = 6 then [40] else []
def btwS (k : Int) : Bs := if k = 4 then [124] else []
def behS (k mn mx : Int) (z : Bool) : Bs := if k = 5 then quaS mn mx z else if k = 6 then [41] else []
mutual
/-- The text of a tree. -/
def textT : Tree → Bs
  | .mk k set mn mx lz subs => befS k set ++ (textL k true subs ++ behS k mn mx lz)
def textL (of : Int) (first : Bool) : List Tree → Bs
  | [] => []
  | t :: ts => (if first = true then [] else btwS of) ++ ((if aprF (kindT t) of = true then [40, 63, 58] ++ (textT t ++ [41]) else textT t) ++ textL of false ts)
end
/-- The text of a part. -/
def partS (of : Int) (t : Tree) : Bs := if aprF (kindT t) of = true then [40, 63, 58] ++ (textT t ++ [41]) else textT t
end Go.Proofs.YtmgkdmbifecekaaGreatDoor
namespace Go.Proofs.YtmgkdmbifecekaaGreatDoor
open Go.RowKit Go.Shelf
theorem b8_app (l m : Bs) : b8 l ++ b8 m = b8 (l ++ m) := by
  apply ByteArray.ext
  simp
theorem itoaT (a : Int) (ha : 0 ≤ a ∧ a < 100) (w : World) : Calls Tryz.prog 26 #[.int .i64 a] w fun e w' => e = .returned (.string (b8 (decT a.toNat))) ∧ w = w' := by
  have := itoa_any a.toNat (by omega) w
  rw [decT_eq, show ((a.toNat : Nat) : Int) = a from by omega] at this
  exact this
theorem decT_len (n : Nat) (h : n < 100) : (decT n).length ≤ 2 := by
  unfold decT
  split
  · simp
  · simp [h]
theorem tmsS_len (a b : Int) (ha : 0 ≤ a ∧ a < 100) (hb : b = -1 ∨ (0 ≤ b ∧ b < 100)) : (tmsS a b).length ≤ 7 := by
  have h1 := decT_len a.toNat (by omega)
  have h2 := decT_len b.toNat (by omega)
  unfold tmsS
  split
  · simp
  · split
    · simp
    · split
      · simp
      · split
        · simp; omega
        · split
          · simp; omega
          · simp; omega
set_option maxRecDepth 10000 in
set_option maxHeartbeats 2000000 in
theorem tms_a (w : World) : Calls Tryz.prog 92 #[.int .i64 (0), .int .i64 (-1)] w fun e w' => e = .returned (.string (b8 (tmsS (0) (-1)))) ∧ w = w' := by
  have CA := Lib.hid (fun w => itoaT (0) (by omega) w)
  have hla := decT_len ((0 : Int)).toNat (by omega)
  obtain ⟨sa, hsa⟩ : ∃ s, s = decT ((0 : Int)).toNat := ⟨_, rfl⟩
  rw [← hsa] at CA hla
  have HSA := Lib.hid hsa
  clear hsa
  go_enter Tryz.func92, Tryz.ntmps92
  go_wp2_with fail
  refine (CA.out _).mono ?_
  rintro e w1 ⟨rfl, rfl⟩
  go_wp2_with fail
  go_ret
  have hsa := HSA.out
  subst hsa
  exact ⟨rfl, rfl⟩
set_option maxRecDepth 10000 in
set_option maxHeartbeats 2000000 in
theorem tms_b (w : World) : Calls Tryz.prog 92 #[.int .i64 (1), .int .i64 (-1)] w fun e w' => e = .returned (.string (b8 (tmsS (1) (-1)))) ∧ w = w' := by
  have CA := Lib.hid (fun w => itoaT (1) (by omega) w)
  have hla := decT_len ((1 : Int)).toNat (by omega)
  obtain ⟨sa, hsa⟩ : ∃ s, s = decT ((1 : Int)).toNat := ⟨_, rfl⟩
  rw [← hsa] at CA hla
  have HSA := Lib.hid hsa
  clear hsa
  go_enter Tryz.func92, Tryz.ntmps92
  go_wp2_with fail
  refine (CA.out _).mono ?_
  rintro e w1 ⟨rfl, rfl⟩
  go_wp2_with fail
  go_ret
  have hsa := HSA.out
  subst hsa
  exact ⟨rfl, rfl⟩
set_option maxRecDepth 10000 in
set_option maxHeartbeats 2000000 in
theorem tms_c (a : Int) (ha : 2 ≤ a ∧ a < 100) (w : World) : Calls Tryz.prog 92 #[.int .i64 (a), .int .i64 (-1)] w fun e w' => e = .returned (.string (b8 (tmsS (a) (-1)))) ∧ w = w' := by
  have CA := Lib.hid (fun w => itoaT (a) (by omega) w)
  have hla := decT_len ((a : Int)).toNat (by omega)
  obtain ⟨sa, hsa⟩ : ∃ s, s = decT ((a : Int)).toNat := ⟨_, rfl⟩
  rw [← hsa] at CA hla
  have HSA := Lib.hid hsa
  clear hsa
  have g0 : ((a : Int) == 0) = false := by rw [beq_eq_false_iff_ne]; omega
  have g1 : ((a : Int) == 1) = false := by rw [beq_eq_false_iff_ne]; omega
  have g2 : ((a : Int) == -1) = false := by rw [beq_eq_false_iff_ne]; omega
  go_enter Tryz.func92, Tryz.ntmps92
  go_wp2_with fail
  refine (CA.out _).mono ?_
  rintro e w1 ⟨rfl, rfl⟩
  go_wp2_with fail
  go_ret
  have hsa := HSA.out
  subst hsa
  unfold tmsS
  rw [if_neg (by omega), if_neg (by omega), if_neg (by omega), if_neg (by omega), if_pos (by omega)]
  refine ⟨?_, rfl⟩
  show Ending.returned (.string (b8 [123] ++ b8 (decT a.toNat) ++ b8 [44, 125])) = _
  simp only [b8_app, List.append_assoc]
set_option maxRecDepth 10000 in
set_option maxHeartbeats 2000000 in
theorem tms_d (w : World) : Calls Tryz.prog 92 #[.int .i64 (0), .int .i64 (1)] w fun e w' => e = .returned (.string (b8 (tmsS (0) (1)))) ∧ w = w' := by
  have CA := Lib.hid (fun w => itoaT (0) (by omega) w)
  have hla := decT_len ((0 : Int)).toNat (by omega)
  obtain ⟨sa, hsa⟩ : ∃ s, s = decT ((0 : Int)).toNat := ⟨_, rfl⟩
  rw [← hsa] at CA hla
  have HSA := Lib.hid hsa
  clear hsa
  go_enter Tryz.func92, Tryz.ntmps92
  go_wp2_with fail
  refine (CA.out _).mono ?_
  rintro e w1 ⟨rfl, rfl⟩
  go_wp2_with fail
  go_ret
  have hsa := HSA.out
  subst hsa
  exact ⟨rfl, rfl⟩
set_option maxRecDepth 10000 in
set_option maxHeartbeats 2000000 in
theorem tms_e (w : World) : Calls Tryz.prog 92 #[.int .i64 (0), .int .i64 (0)] w fun e w' => e = .returned (.string (b8 (tmsS (0) (0)))) ∧ w = w' := by
  have CA := Lib.hid (fun w => itoaT (0) (by omega) w)
  have hla := decT_len ((0 : Int)).toNat (by omega)
  obtain ⟨sa, hsa⟩ : ∃ s, s = decT ((0 : Int)).toNat := ⟨_, rfl⟩
  rw [← hsa] at CA hla
  have HSA := Lib.hid hsa
  clear hsa
  go_enter Tryz.func92, Tryz.ntmps92
  go_wp2_with fail
  refine (CA.out _).mono ?_
  rintro e w1 ⟨rfl, rfl⟩
  go_wp2_with fail
  go_ret
  have hsa := HSA.out
  subst hsa
  exact ⟨rfl, rfl⟩
set_option maxRecDepth 10000 in
set_option maxHeartbeats 2000000 in
theorem tms_f (b : Int) (hb : 2 ≤ b ∧ b < 100) (w : World) : Calls Tryz.prog 92 #[.int .i64 (0), .int .i64 (b)] w fun e w' => e = .returned (.string (b8 (tmsS (0) (b)))) ∧ w = w' := by
  have CA := Lib.hid (fun w => itoaT (0) (by omega) w)
  have CB := Lib.hid (fun w => itoaT (b) (by omega) w)
  have hla := decT_len ((0 : Int)).toNat (by omega)
  obtain ⟨sa, hsa⟩ : ∃ s, s = decT ((0 : Int)).toNat := ⟨_, rfl⟩
  rw [← hsa] at CA hla
  have HSA := Lib.hid hsa
  clear hsa
  have hlb := decT_len ((b : Int)).toNat (by omega)
  obtain ⟨sb, hsb⟩ : ∃ s, s = decT ((b : Int)).toNat := ⟨_, rfl⟩
  rw [← hsb] at CB hlb
  have HSB := Lib.hid hsb
  clear hsb
  have g0 : ((b : Int) == 1) = false := by rw [beq_eq_false_iff_ne]; omega
  have g1 : ((b : Int) == -1) = false := by rw [beq_eq_false_iff_ne]; omega
  have g2 : ((0 : Int) == b) = false := by rw [beq_eq_false_iff_ne]; omega
  go_enter Tryz.func92, Tryz.ntmps92
  go_wp2_with fail
  refine (CA.out _).mono ?_
  rintro e w1 ⟨rfl, rfl⟩
  go_wp2_with fail
  refine (CB.out _).mono ?_
  rintro e w1 ⟨rfl, rfl⟩
  go_wp2_with fail
  go_ret
  have hsa := HSA.out
  subst hsa
  have hsb := HSB.out
  subst hsb
  unfold tmsS
  rw [if_neg (by omega), if_neg (by omega), if_neg (by omega), if_neg (by omega), if_neg (by omega)]
  refine ⟨?_, rfl⟩
  show Ending.returned (.string (b8 [123] ++ b8 (decT (0 : Int).toNat) ++ b8 [44] ++ b8 (decT b.toNat) ++ b8 [125])) = _
  simp only [b8_app, List.append_assoc]
set_option maxRecDepth 10000 in
set_option maxHeartbeats 2000000 in
theorem tms_g (w : World) : Calls Tryz.prog 92 #[.int .i64 (1), .int .i64 (1)] w fun e w' => e = .returned (.string (b8 (tmsS (1) (1)))) ∧ w = w' := by
  have CA := Lib.hid (fun w => itoaT (1) (by omega) w)
  have hla := decT_len ((1 : Int)).toNat (by omega)
  obtain ⟨sa, hsa⟩ : ∃ s, s = decT ((1 : Int)).toNat := ⟨_, rfl⟩
  rw [← hsa] at CA hla
  have HSA := Lib.hid hsa
  clear hsa
  go_enter Tryz.func92, Tryz.ntmps92
  go_wp2_with fail
  refine (CA.out _).mono ?_
  rintro e w1 ⟨rfl, rfl⟩
  go_wp2_with fail
  go_ret
  have hsa := HSA.out
  subst hsa
  exact ⟨rfl, rfl⟩
set_option maxRecDepth 10000 in
set_option maxHeartbeats 2000000 in
theorem tms_h (b : Int) (hb : 0 ≤ b ∧ b < 100) (hne : b ≠ 1) (w : World) : Calls Tryz.prog 92 #[.int .i64 (1), .int .i64 (b)] w fun e w' => e = .returned (.string (b8 (tmsS (1) (b)))) ∧ w = w' := by
  have CA := Lib.hid (fun w => itoaT (1) (by omega) w)
  have CB := Lib.hid (fun w => itoaT (b) (by omega) w)
  have hla := decT_len ((1 : Int)).toNat (by omega)
  obtain ⟨sa, hsa⟩ : ∃ s, s = decT ((1 : Int)).toNat := ⟨_, rfl⟩
  rw [← hsa] at CA hla
  have HSA := Lib.hid hsa
  clear hsa
  have hlb := decT_len ((b : Int)).toNat (by omega)
  obtain ⟨sb, hsb⟩ : ∃ s, s = decT ((b : Int)).toNat := ⟨_, rfl⟩
  rw [← hsb] at CB hlb
  have HSB := Lib.hid hsb
  clear hsb
  have g0 : ((b : Int) == -1) = false := by rw [beq_eq_false_iff_ne]; omega
  have g1 : ((1 : Int) == b) = false := by rw [beq_eq_false_iff_ne]; omega
  go_enter Tryz.func92, Tryz.ntmps92
  go_wp2_with fail
  refine (CA.out _).mono ?_
  rintro e w1 ⟨rfl, rfl⟩
  go_wp2_with fail
  refine (CB.out _).mono ?_
  rintro e w1 ⟨rfl, rfl⟩
  go_wp2_with fail
  go_ret
  have hsa := HSA.out
  subst hsa
  have hsb := HSB.out
  subst hsb
  unfold tmsS
  rw [if_neg (by omega), if_neg (by omega), if_neg (by omega), if_neg (by omega), if_neg (by omega)]
  refine ⟨?_, rfl⟩
  show Ending.returned (.string (b8 [123] ++ b8 (decT (1 : Int).toNat) ++ b8 [44] ++ b8 (decT b.toNat) ++ b8 [125])) = _
  simp only [b8_app, List.append_assoc]
set_option maxRecDepth 10000 in
set_option maxHeartbeats 2000000 in
theorem tms_i (a : Int) (ha : 2 ≤ a ∧ a < 100) (w : World) : Calls Tryz.prog 92 #[.int .i64 (a), .int .i64 (a)] w fun e w' => e = .returned (.string (b8 (tmsS (a) (a)))) ∧ w = w' := by
  have CA := Lib.hid (fun w => itoaT (a) (by omega) w)
  have hla := decT_len ((a : Int)).toNat (by omega)
  obtain ⟨sa, hsa⟩ : ∃ s, s = decT ((a : Int)).toNat := ⟨_, rfl⟩
  rw [← hsa] at CA hla
  have HSA := Lib.hid hsa
  clear hsa
  have g0 : ((a : Int) == 0) = false := by rw [beq_eq_false_iff_ne]; omega
  have g1 : ((a : Int) == 1) = false := by rw [beq_eq_false_iff_ne]; omega
  have g2 : ((a : Int) == -1) = false := by rw [beq_eq_false_iff_ne]; omega
  go_enter Tryz.func92, Tryz.ntmps92
  go_wp2_with fail
  refine (CA.out _).mono ?_
  rintro e w1 ⟨rfl, rfl⟩
  go_wp2_with fail
  go_ret
  have hsa := HSA.out
  subst hsa
  unfold tmsS
  rw [if_neg (by omega), if_neg (by omega), if_neg (by omega), if_pos (by omega)]
  refine ⟨?_, rfl⟩
  show Ending.returned (.string (b8 [123] ++ b8 (decT a.toNat) ++ b8 [125])) = _
  simp only [b8_app, List.append_assoc]
set_option maxRecDepth 10000 in
set_option maxHeartbeats 2000000 in
theorem tms_j (a b : Int) (ha : 2 ≤ a ∧ a < 100) (hb : 0 ≤ b ∧ b < 100) (hne : a ≠ b) (w : World) : Calls Tryz.prog 92 #[.int .i64 (a), .int .i64 (b)] w fun e w' => e = .returned (.string (b8 (tmsS (a) (b)))) ∧ w = w' := by
  have CA := Lib.hid (fun w => itoaT (a) (by omega) w)
  have CB := Lib.hid (fun w => itoaT (b) (by omega) w)
  have hla := decT_len ((a : Int)).toNat (by omega)
  obtain ⟨sa, hsa⟩ : ∃ s, s = decT ((a : Int)).toNat := ⟨_, rfl⟩
  rw [← hsa] at CA hla
  have HSA := Lib.hid hsa
  clear hsa
  have hlb := decT_len ((b : Int)).toNat (by omega)
  obtain ⟨sb, hsb⟩ : ∃ s, s = decT ((b : Int)).toNat := ⟨_, rfl⟩
  rw [← hsb] at CB hlb
  have HSB := Lib.hid hsb
  clear hsb
  have g0 : ((a : Int) == 0) = false := by rw [beq_eq_false_iff_ne]; omega
  have g1 : ((a : Int) == 1) = false := by rw [beq_eq_false_iff_ne]; omega
  have g2 : ((a : Int) == b) = false := by rw [beq_eq_false_iff_ne]; omega
  have g3 : ((b : Int) == -1) = false := by rw [beq_eq_false_iff_ne]; omega
  go_enter Tryz.func92, Tryz.ntmps92
  go_wp2_with fail
  refine (CA.out _).mono ?_
  rintro e w1 ⟨rfl, rfl⟩
  go_wp2_with fail
  refine (CB.out _).mono ?_
  rintro e w1 ⟨rfl, rfl⟩
  go_wp2_with fail
  go_ret
  have hsa := HSA.out
  subst hsa
  have hsb := HSB.out
  subst hsb
  unfold tmsS
  rw [if_neg (by omega), if_neg (by omega), if_neg (by omega), if_neg (by omega), if_neg (by omega)]
  refine ⟨?_, rfl⟩
  show Ending.returned (.string (b8 [123] ++ b8 (decT a.toNat) ++ b8 [44] ++ b8 (decT b.toNat) ++ b8 [125])) = _
  simp only [b8_app, List.append_assoc]
theorem tmst_any (a b : Int) (ha : 0 ≤ a ∧ a < 100) (hb : b = -1 ∨ (0 ≤ b ∧ b < 100)) (w : World) : Calls Tryz.prog 92 #[.int .i64 a, .int .i64 b] w fun e w' => e = .returned (.string (b8 (tmsS a b))) ∧ w = w' := by
  by_cases a0 : a = 0
  · subst a0
    rcases hb with rfl | hb
    · exact tms_a w
    · by_cases b1 : b = 1
      · subst b1; exact tms_d w
      · by_cases b0 : b = 0
        · subst b0; exact tms_e w
        · exact tms_f b (by omega) w
  · by_cases a1 : a = 1
    · subst a1
      rcases hb with rfl | hb
      · exact tms_b w
      · by_cases b1 : b = 1
        · subst b1; exact tms_g w
        · exact tms_h b hb b1 w
    · rcases hb with rfl | hb
      · exact tms_c a (by omega) w
      · by_cases e : a = b
        · subst e; exact tms_i a (by omega) w
        · exact tms_j a b (by omega) hb e w
set_option maxRecDepth 10000 in
set_option maxHeartbeats 2000000 in
theorem quat_any (k mn mx : Int) (A1 A2 : Option Addr) (sn c1 un c2 : Nat) (lz : Bool) (ha : 0 ≤ mn ∧ mn < 100) (hb : mx = -1 ∨ (0 ≤ mx ∧ mx < 100)) (w : World) : Calls Tryz.prog 64 #[ndV k A1 sn c1 mn mx lz A2 un c2] w fun e w' => e = .returned (.string (b8 (quaS mn mx lz))) ∧ Kept w w' := by
  have CT := Lib.hid (fun w => tmst_any mn mx ha hb w)
  obtain ⟨s, hs⟩ : ∃ s, s = tmsS mn mx := ⟨_, rfl⟩
  have hq : Hid (quaS mn mx lz = s ++ if lz = true then [63] else []) := by show _ = _; rw [hs]; rfl
  have hl := tmsS_len mn mx ha hb
  rw [← hs] at CT hl
  clear ha hb hs
  unfold ndV
  cases lz
  · go_enter Tryz.func64, Tryz.ntmps64
    go_wp2_with fail
    refine (CT.out _).mono ?_
    rintro e w1 ⟨rfl, rfl⟩
    go_wp2_with fail
    go_ret
    rw [hq.out]
    exact ⟨by simp, (Below.refl _ w).alloc (Nat.le_refl _) _⟩
  · go_enter Tryz.func64, Tryz.ntmps64
    go_wp2_with fail
    refine (CT.out _).mono ?_
    rintro e w1 ⟨rfl, rfl⟩
    go_wp2_with fail
    go_ret
    rw [hq.out]
    refine ⟨?_, (Below.refl _ w).alloc (Nat.le_refl _) _⟩
    show Ending.returned (.string (b8 s ++ b8 [63])) = _
    rw [b8_app]
    rfl
end Go.Proofs.YtmgkdmbifecekaaGreatDoor
