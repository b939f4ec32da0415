/-
 Package syntax: whether a node is right alone.
-/
import Derived.Test.YtmgkdmbifecekaaGreatDoorSyT
set_option linter.all false
set_option linter.unusedSimpArgs false
set_option linter.unusedVariables false
set_option linter.unusedSectionVars false
namespace Go.Proofs.YtmgkdmbifecekaaGreatDoor
open Go.RowKit Go.Shelf
def aloneF (k : Int) (sn : Nat) (rt : Bool) (mn mx : Int) (lz : Bool) (un : Nat) : Bool :=
 if (decide (k ≠ 2) && decide (0 < sn)) || !rt then false
 else if decide (k ≠ 5) && (decide (mn ≠ 0) || decide (mx ≠ 0) || lz) then false
 else if k = 1 ∨ k = 2 then decide (un = 0) else if k = 3 ∨ k = 4 then decide (2 ≤ un) else if k = 5 then decide (un = 1) && tmsB mn mx else if k = 6 then decide (un = 1) else false
abbrev ndV (k : Int) (A1 : Option Addr) (sn c1 : Nat) (mn mx : Int) (lz : Bool) (A2 : Option Addr) (un c2 : Nat) : Value := .agg #[.int .u8 k, .slice A1 sn c1, .int .i64 mn, .int .i64 mx, .bool lz, .slice A2 un c2]
section
variable (k : Int) (A1 : Option Addr) (sn c1 : Nat) (mn mx : Int) (lz : Bool) (A2 : Option Addr) (un c2 : Nat) (w : World)
set_option maxHeartbeats 1000000 in
theorem alone_no1 (h2 : k ≠ 2) (hs : 0 < sn) : Calls Tryz.prog 70 #[ndV k A1 sn c1 mn mx lz A2 un c2] w fun e w' => e = .returned (.bool false) ∧ Kept w w' := by
 have h2b : (k != 2) = true := by rw [bne_iff_ne]; exact h2
 have hsi : (0 : Int) < (sn : Int) := by omega
 have hK : Kept w (w.alloc (.cells #[.int .u8 k, .slice A1 sn c1, .int .i64 mn, .int .i64 mx, .bool lz, .slice A2 un c2] 25)) := (Below.refl _ w).alloc (Nat.le_refl _) _
 have HK := Lib.hid hK
 clear hK
 go_enter Tryz.func70, Tryz.ntmps70
 go_wp2_with fail
 go_ret
 exact ⟨rfl, HK.out⟩
-- CASES
set_option maxHeartbeats 1000000 in
theorem al_1_r (h2 : (1 : Int) = 2 ∨ sn = 0) (CR : Hid (∀ W, Kept w W → Calls Tryz.prog 96 #[.slice A1 sn c1] W fun e w' => e = .returned (.bool false) ∧ Kept W w')) :
  Calls Tryz.prog 70 #[ndV 1 A1 sn c1 mn mx lz A2 un c2] w fun e w' => e = .returned (.bool (aloneF 1 sn false mn mx lz un)) ∧ Kept w w' := by
 have hK : Kept w (w.alloc (.cells #[.int .u8 1, .slice A1 sn c1, .int .i64 mn, .int .i64 mx, .bool lz, .slice A2 un c2] 25)) := (Below.refl _ w).alloc (Nat.le_refl _) _
 have HK := Lib.hid hK
 have hb := heap_alloc_new w (.cells #[.int .u8 1, .slice A1 sn c1, .int .i64 mn, .int .i64 mx, .bool lz, .slice A2 un c2] 25)
 have Hb := Lib.hid hb
 clear hK hb
 have Hsn : ((decide ((1 : Int) ≠ 2) && decide (0 < sn)) = false) := by (rcases h2 with h | h; exact absurd h (by decide); simp [h])
 unfold aloneF
 rw [Hsn]
 clear Hsn
 rcases h2 with h2 | h2
 ·exact absurd h2 (by decide)
 ·subst h2
  go_enter Tryz.func70, Tryz.ntmps70
  go_wp2_with (go_at_call 96; refine (CR.out _ HK.out).mono ?_; rintro e w1 ⟨rfl, hk1⟩; have HK1 := Lib.hid (below_kept HK.out hk1); have hB1 := heap_kept hk1 Hb.out; have f0 : w1.cell? ⟨w.heap.size, 0, none⟩ = some (.int .u8 1) := (by rw [cell_of_row _ _ _ _ _ _ hB1]; rfl); have f1 : w1.cell? ⟨w.heap.size, 1, none⟩ = some (.slice A1 0 c1) := (by rw [cell_of_row _ _ _ _ _ _ hB1]; rfl); have f2 : w1.cell? ⟨w.heap.size, 2, none⟩ = some (.int .i64 mn) := (by rw [cell_of_row _ _ _ _ _ _ hB1]; rfl); have f3 : w1.cell? ⟨w.heap.size, 3, none⟩ = some (.int .i64 mx) := (by rw [cell_of_row _ _ _ _ _ _ hB1]; rfl); have f4 : w1.cell? ⟨w.heap.size, 4, none⟩ = some (.bool lz) := (by rw [cell_of_row _ _ _ _ _ _ hB1]; rfl); have f5 : w1.cell? ⟨w.heap.size, 5, none⟩ = some (.slice A2 un c2) := (by rw [cell_of_row _ _ _ _ _ _ hB1]; rfl); clear hk1 hB1)
  go_ret
  exact ⟨by first | rfl | (simp [*]; done) | (simp; omega), HK1.out⟩
set_option maxHeartbeats 1000000 in
theorem al_1_a (h3 : mn ≠ 0) (h2 : (1 : Int) = 2 ∨ sn = 0) (CR : Hid (∀ W, Kept w W → Calls Tryz.prog 96 #[.slice A1 sn c1] W fun e w' => e = .returned (.bool true) ∧ Kept W w')) :
  Calls Tryz.prog 70 #[ndV 1 A1 sn c1 mn mx lz A2 un c2] w fun e w' => e = .returned (.bool (aloneF 1 sn true mn mx lz un)) ∧ Kept w w' := by
 have hK : Kept w (w.alloc (.cells #[.int .u8 1, .slice A1 sn c1, .int .i64 mn, .int .i64 mx, .bool lz, .slice A2 un c2] 25)) := (Below.refl _ w).alloc (Nat.le_refl _) _
 have HK := Lib.hid hK
 have hb := heap_alloc_new w (.cells #[.int .u8 1, .slice A1 sn c1, .int .i64 mn, .int .i64 mx, .bool lz, .slice A2 un c2] 25)
 have Hb := Lib.hid hb
 clear hK hb
 have h3b : (mn != 0) = true := by rw [bne_iff_ne]; exact h3
 have Hsn : ((decide ((1 : Int) ≠ 2) && decide (0 < sn)) = false) := by (rcases h2 with h | h; exact absurd h (by decide); simp [h])
 unfold aloneF
 rw [Hsn]
 clear Hsn
 rcases h2 with h2 | h2
 ·exact absurd h2 (by decide)
 ·subst h2
  go_enter Tryz.func70, Tryz.ntmps70
  go_wp2_with (go_at_call 96; refine (CR.out _ HK.out).mono ?_; rintro e w1 ⟨rfl, hk1⟩; have HK1 := Lib.hid (below_kept HK.out hk1); have hB1 := heap_kept hk1 Hb.out; have f0 : w1.cell? ⟨w.heap.size, 0, none⟩ = some (.int .u8 1) := (by rw [cell_of_row _ _ _ _ _ _ hB1]; rfl); have f1 : w1.cell? ⟨w.heap.size, 1, none⟩ = some (.slice A1 0 c1) := (by rw [cell_of_row _ _ _ _ _ _ hB1]; rfl); have f2 : w1.cell? ⟨w.heap.size, 2, none⟩ = some (.int .i64 mn) := (by rw [cell_of_row _ _ _ _ _ _ hB1]; rfl); have f3 : w1.cell? ⟨w.heap.size, 3, none⟩ = some (.int .i64 mx) := (by rw [cell_of_row _ _ _ _ _ _ hB1]; rfl); have f4 : w1.cell? ⟨w.heap.size, 4, none⟩ = some (.bool lz) := (by rw [cell_of_row _ _ _ _ _ _ hB1]; rfl); have f5 : w1.cell? ⟨w.heap.size, 5, none⟩ = some (.slice A2 un c2) := (by rw [cell_of_row _ _ _ _ _ _ hB1]; rfl); clear hk1 hB1)
  go_ret
  exact ⟨by first | rfl | (simp [*]; done) | (simp; omega), HK1.out⟩
set_option maxHeartbeats 1000000 in
theorem al_1_b (h3 : mx ≠ 0) (h2 : (1 : Int) = 2 ∨ sn = 0) (CR : Hid (∀ W, Kept w W → Calls Tryz.prog 96 #[.slice A1 sn c1] W fun e w' => e = .returned (.bool true) ∧ Kept W w')) :
  Calls Tryz.prog 70 #[ndV 1 A1 sn c1 0 mx lz A2 un c2] w fun e w' => e = .returned (.bool (aloneF 1 sn true 0 mx lz un)) ∧ Kept w w' := by
 have hK : Kept w (w.alloc (.cells #[.int .u8 1, .slice A1 sn c1, .int .i64 0, .int .i64 mx, .bool lz, .slice A2 un c2] 25)) := (Below.refl _ w).alloc (Nat.le_refl _) _
 have HK := Lib.hid hK
 have hb := heap_alloc_new w (.cells #[.int .u8 1, .slice A1 sn c1, .int .i64 0, .int .i64 mx, .bool lz, .slice A2 un c2] 25)
 have Hb := Lib.hid hb
 clear hK hb
 have h3b : (mx != 0) = true := by rw [bne_iff_ne]; exact h3
 have Hsn : ((decide ((1 : Int) ≠ 2) && decide (0 < sn)) = false) := by (rcases h2 with h | h; exact absurd h (by decide); simp [h])
 unfold aloneF
 rw [Hsn]
 clear Hsn
 rcases h2 with h2 | h2
 ·exact absurd h2 (by decide)
 ·subst h2
  go_enter Tryz.func70, Tryz.ntmps70
  go_wp2_with (go_at_call 96; refine (CR.out _ HK.out).mono ?_; rintro e w1 ⟨rfl, hk1⟩; have HK1 := Lib.hid (below_kept HK.out hk1); have hB1 := heap_kept hk1 Hb.out; have f0 : w1.cell? ⟨w.heap.size, 0, none⟩ = some (.int .u8 1) := (by rw [cell_of_row _ _ _ _ _ _ hB1]; rfl); have f1 : w1.cell? ⟨w.heap.size, 1, none⟩ = some (.slice A1 0 c1) := (by rw [cell_of_row _ _ _ _ _ _ hB1]; rfl); have f2 : w1.cell? ⟨w.heap.size, 2, none⟩ = some (.int .i64 0) := (by rw [cell_of_row _ _ _ _ _ _ hB1]; rfl); have f3 : w1.cell? ⟨w.heap.size, 3, none⟩ = some (.int .i64 mx) := (by rw [cell_of_row _ _ _ _ _ _ hB1]; rfl); have f4 : w1.cell? ⟨w.heap.size, 4, none⟩ = some (.bool lz) := (by rw [cell_of_row _ _ _ _ _ _ hB1]; rfl); have f5 : w1.cell? ⟨w.heap.size, 5, none⟩ = some (.slice A2 un c2) := (by rw [cell_of_row _ _ _ _ _ _ hB1]; rfl); clear hk1 hB1)
  go_ret
  exact ⟨by first | rfl | (simp [*]; done) | (simp; omega), HK1.out⟩
set_option maxHeartbeats 1000000 in
theorem al_1_c (h2 : (1 : Int) = 2 ∨ sn = 0) (CR : Hid (∀ W, Kept w W → Calls Tryz.prog 96 #[.slice A1 sn c1] W fun e w' => e = .returned (.bool true) ∧ Kept W w')) :
  Calls Tryz.prog 70 #[ndV 1 A1 sn c1 0 0 true A2 un c2] w fun e w' => e = .returned (.bool (aloneF 1 sn true 0 0 true un)) ∧ Kept w w' := by
 have hK : Kept w (w.alloc (.cells #[.int .u8 1, .slice A1 sn c1, .int .i64 0, .int .i64 0, .bool true, .slice A2 un c2] 25)) := (Below.refl _ w).alloc (Nat.le_refl _) _
 have HK := Lib.hid hK
 have hb := heap_alloc_new w (.cells #[.int .u8 1, .slice A1 sn c1, .int .i64 0, .int .i64 0, .bool true, .slice A2 un c2] 25)
 have Hb := Lib.hid hb
 clear hK hb
 have Hsn : ((decide ((1 : Int) ≠ 2) && decide (0 < sn)) = false) := by (rcases h2 with h | h; exact absurd h (by decide); simp [h])
 unfold aloneF
 rw [Hsn]
 clear Hsn
 rcases h2 with h2 | h2
 ·exact absurd h2 (by decide)
 ·subst h2
  go_enter Tryz.func70, Tryz.ntmps70
  go_wp2_with (go_at_call 96; refine (CR.out _ HK.out).mono ?_; rintro e w1 ⟨rfl, hk1⟩; have HK1 := Lib.hid (below_kept HK.out hk1); have hB1 := heap_kept hk1 Hb.out; have f0 : w1.cell? ⟨w.heap.size, 0, none⟩ = some (.int .u8 1) := (by rw [cell_of_row _ _ _ _ _ _ hB1]; rfl); have f1 : w1.cell? ⟨w.heap.size, 1, none⟩ = some (.slice A1 0 c1) := (by rw [cell_of_row _ _ _ _ _ _ hB1]; rfl); have f2 : w1.cell? ⟨w.heap.size, 2, none⟩ = some (.int .i64 0) := (by rw [cell_of_row _ _ _ _ _ _ hB1]; rfl); have f3 : w1.cell? ⟨w.heap.size, 3, none⟩ = some (.int .i64 0) := (by rw [cell_of_row _ _ _ _ _ _ hB1]; rfl); have f4 : w1.cell? ⟨w.heap.size, 4, none⟩ = some (.bool true) := (by rw [cell_of_row _ _ _ _ _ _ hB1]; rfl); have f5 : w1.cell? ⟨w.heap.size, 5, none⟩ = some (.slice A2 un c2) := (by rw [cell_of_row _ _ _ _ _ _ hB1]; rfl); clear hk1 hB1)
  go_ret
  exact ⟨by first | rfl | (simp [*]; done) | (simp; omega), HK1.out⟩
set_option maxHeartbeats 1000000 in
theorem al_1_d (h2 : (1 : Int) = 2 ∨ sn = 0) (CR : Hid (∀ W, Kept w W → Calls Tryz.prog 96 #[.slice A1 sn c1] W fun e w' => e = .returned (.bool true) ∧ Kept W w')) :
  Calls Tryz.prog 70 #[ndV 1 A1 sn c1 0 0 false A2 0 c2] w fun e w' => e = .returned (.bool (aloneF 1 sn true 0 0 false 0)) ∧ Kept w w' := by
 have hK : Kept w (w.alloc (.cells #[.int .u8 1, .slice A1 sn c1, .int .i64 0, .int .i64 0, .bool false, .slice A2 0 c2] 25)) := (Below.refl _ w).alloc (Nat.le_refl _) _
 have HK := Lib.hid hK
 have hb := heap_alloc_new w (.cells #[.int .u8 1, .slice A1 sn c1, .int .i64 0, .int .i64 0, .bool false, .slice A2 0 c2] 25)
 have Hb := Lib.hid hb
 clear hK hb
 have Hsn : ((decide ((1 : Int) ≠ 2) && decide (0 < sn)) = false) := by (rcases h2 with h | h; exact absurd h (by decide); simp [h])
 unfold aloneF
 rw [Hsn]
 clear Hsn
 rcases h2 with h2 | h2
 ·exact absurd h2 (by decide)
 ·subst h2
  go_enter Tryz.func70, Tryz.ntmps70
  go_wp2_with (go_at_call 96; refine (CR.out _ HK.out).mono ?_; rintro e w1 ⟨rfl, hk1⟩; have HK1 := Lib.hid (below_kept HK.out hk1); have hB1 := heap_kept hk1 Hb.out; have f0 : w1.cell? ⟨w.heap.size, 0, none⟩ = some (.int .u8 1) := (by rw [cell_of_row _ _ _ _ _ _ hB1]; rfl); have f1 : w1.cell? ⟨w.heap.size, 1, none⟩ = some (.slice A1 0 c1) := (by rw [cell_of_row _ _ _ _ _ _ hB1]; rfl); have f2 : w1.cell? ⟨w.heap.size, 2, none⟩ = some (.int .i64 0) := (by rw [cell_of_row _ _ _ _ _ _ hB1]; rfl); have f3 : w1.cell? ⟨w.heap.size, 3, none⟩ = some (.int .i64 0) := (by rw [cell_of_row _ _ _ _ _ _ hB1]; rfl); have f4 : w1.cell? ⟨w.heap.size, 4, none⟩ = some (.bool false) := (by rw [cell_of_row _ _ _ _ _ _ hB1]; rfl); have f5 : w1.cell? ⟨w.heap.size, 5, none⟩ = some (.slice A2 0 c2) := (by rw [cell_of_row _ _ _ _ _ _ hB1]; rfl); clear hk1 hB1)
  go_ret
  exact ⟨by first | rfl | (simp [*]; done) | (simp; omega), HK1.out⟩
set_option maxHeartbeats 1000000 in
theorem al_1_e (h4 : un ≠ 0) (h2 : (1 : Int) = 2 ∨ sn = 0) (CR : Hid (∀ W, Kept w W → Calls Tryz.prog 96 #[.slice A1 sn c1] W fun e w' => e = .returned (.bool true) ∧ Kept W w')) :
  Calls Tryz.prog 70 #[ndV 1 A1 sn c1 0 0 false A2 un c2] w fun e w' => e = .returned (.bool (aloneF 1 sn true 0 0 false un)) ∧ Kept w w' := by
 have hK : Kept w (w.alloc (.cells #[.int .u8 1, .slice A1 sn c1, .int .i64 0, .int .i64 0, .bool false, .slice A2 un c2] 25)) := (Below.refl _ w).alloc (Nat.le_refl _) _
 have HK := Lib.hid hK
 have hb := heap_alloc_new w (.cells #[.int .u8 1, .slice A1 sn c1, .int .i64 0, .int .i64 0, .bool false, .slice A2 un c2] 25)
 have Hb := Lib.hid hb
 clear hK hb
 have h4b : ((un : Int) == 0) = false := by rw [beq_eq_false_iff_ne]; omega
 have Hsn : ((decide ((1 : Int) ≠ 2) && decide (0 < sn)) = false) := by (rcases h2 with h | h; exact absurd h (by decide); simp [h])
 unfold aloneF
 rw [Hsn]
 clear Hsn
 rcases h2 with h2 | h2
 ·exact absurd h2 (by decide)
 ·subst h2
  go_enter Tryz.func70, Tryz.ntmps70
  go_wp2_with (go_at_call 96; refine (CR.out _ HK.out).mono ?_; rintro e w1 ⟨rfl, hk1⟩; have HK1 := Lib.hid (below_kept HK.out hk1); have hB1 := heap_kept hk1 Hb.out; have f0 : w1.cell? ⟨w.heap.size, 0, none⟩ = some (.int .u8 1) := (by rw [cell_of_row _ _ _ _ _ _ hB1]; rfl); have f1 : w1.cell? ⟨w.heap.size, 1, none⟩ = some (.slice A1 0 c1) := (by rw [cell_of_row _ _ _ _ _ _ hB1]; rfl); have f2 : w1.cell? ⟨w.heap.size, 2, none⟩ = some (.int .i64 0) := (by rw [cell_of_row _ _ _ _ _ _ hB1]; rfl); have f3 : w1.cell? ⟨w.heap.size, 3, none⟩ = some (.int .i64 0) := (by rw [cell_of_row _ _ _ _ _ _ hB1]; rfl); have f4 : w1.cell? ⟨w.heap.size, 4, none⟩ = some (.bool false) := (by rw [cell_of_row _ _ _ _ _ _ hB1]; rfl); have f5 : w1.cell? ⟨w.heap.size, 5, none⟩ = some (.slice A2 un c2) := (by rw [cell_of_row _ _ _ _ _ _ hB1]; rfl); clear hk1 hB1)
  go_ret
  exact ⟨by first | rfl | (simp [*]; done) | (simp; omega), HK1.out⟩
set_option maxHeartbeats 1000000 in
theorem al_2_r (h2 : (2 : Int) = 2 ∨ sn = 0) (CR : Hid (∀ W, Kept w W → Calls Tryz.prog 96 #[.slice A1 sn c1] W fun e w' => e = .returned (.bool false) ∧ Kept W w')) :
  Calls Tryz.prog 70 #[ndV 2 A1 sn c1 mn mx lz A2 un c2] w fun e w' => e = .returned (.bool (aloneF 2 sn false mn mx lz un)) ∧ Kept w w' := by
 have hK : Kept w (w.alloc (.cells #[.int .u8 2, .slice A1 sn c1, .int .i64 mn, .int .i64 mx, .bool lz, .slice A2 un c2] 25)) := (Below.refl _ w).alloc (Nat.le_refl _) _
 have HK := Lib.hid hK
 have hb := heap_alloc_new w (.cells #[.int .u8 2, .slice A1 sn c1, .int .i64 mn, .int .i64 mx, .bool lz, .slice A2 un c2] 25)
 have Hb := Lib.hid hb
 clear hK hb
 have Hsn : ((decide ((2 : Int) ≠ 2) && decide (0 < sn)) = false) := by simp
 unfold aloneF
 rw [Hsn]
 clear Hsn
 rcases h2 with h2 | h2
 ·clear h2
  go_enter Tryz.func70, Tryz.ntmps70
  go_wp2_with (go_at_call 96; refine (CR.out _ HK.out).mono ?_; rintro e w1 ⟨rfl, hk1⟩; have HK1 := Lib.hid (below_kept HK.out hk1); have hB1 := heap_kept hk1 Hb.out; have f0 : w1.cell? ⟨w.heap.size, 0, none⟩ = some (.int .u8 2) := (by rw [cell_of_row _ _ _ _ _ _ hB1]; rfl); have f1 : w1.cell? ⟨w.heap.size, 1, none⟩ = some (.slice A1 sn c1) := (by rw [cell_of_row _ _ _ _ _ _ hB1]; rfl); have f2 : w1.cell? ⟨w.heap.size, 2, none⟩ = some (.int .i64 mn) := (by rw [cell_of_row _ _ _ _ _ _ hB1]; rfl); have f3 : w1.cell? ⟨w.heap.size, 3, none⟩ = some (.int .i64 mx) := (by rw [cell_of_row _ _ _ _ _ _ hB1]; rfl); have f4 : w1.cell? ⟨w.heap.size, 4, none⟩ = some (.bool lz) := (by rw [cell_of_row _ _ _ _ _ _ hB1]; rfl); have f5 : w1.cell? ⟨w.heap.size, 5, none⟩ = some (.slice A2 un c2) := (by rw [cell_of_row _ _ _ _ _ _ hB1]; rfl); clear hk1 hB1)
  go_ret
  exact ⟨by first | rfl | (simp [*]; done) | (simp; omega), HK1.out⟩
 ·subst h2
  go_enter Tryz.func70, Tryz.ntmps70
  go_wp2_with (go_at_call 96; refine (CR.out _ HK.out).mono ?_; rintro e w1 ⟨rfl, hk1⟩; have HK1 := Lib.hid (below_kept HK.out hk1); have hB1 := heap_kept hk1 Hb.out; have f0 : w1.cell? ⟨w.heap.size, 0, none⟩ = some (.int .u8 2) := (by rw [cell_of_row _ _ _ _ _ _ hB1]; rfl); have f1 : w1.cell? ⟨w.heap.size, 1, none⟩ = some (.slice A1 0 c1) := (by rw [cell_of_row _ _ _ _ _ _ hB1]; rfl); have f2 : w1.cell? ⟨w.heap.size, 2, none⟩ = some (.int .i64 mn) := (by rw [cell_of_row _ _ _ _ _ _ hB1]; rfl); have f3 : w1.cell? ⟨w.heap.size, 3, none⟩ = some (.int .i64 mx) := (by rw [cell_of_row _ _ _ _ _ _ hB1]; rfl); have f4 : w1.cell? ⟨w.heap.size, 4, none⟩ = some (.bool lz) := (by rw [cell_of_row _ _ _ _ _ _ hB1]; rfl); have f5 : w1.cell? ⟨w.heap.size, 5, none⟩ = some (.slice A2 un c2) := (by rw [cell_of_row _ _ _ _ _ _ hB1]; rfl); clear hk1 hB1)
  go_ret
  exact ⟨by first | rfl | (simp [*]; done) | (simp; omega), HK1.out⟩
set_option maxHeartbeats 1000000 in
theorem al_2_a (h3 : mn ≠ 0) (h2 : (2 : Int) = 2 ∨ sn = 0) (CR : Hid (∀ W, Kept w W → Calls Tryz.prog 96 #[.slice A1 sn c1] W fun e w' => e = .returned (.bool true) ∧ Kept W w')) :
  Calls Tryz.prog 70 #[ndV 2 A1 sn c1 mn mx lz A2 un c2] w fun e w' => e = .returned (.bool (aloneF 2 sn true mn mx lz un)) ∧ Kept w w' := by
 have hK : Kept w (w.alloc (.cells #[.int .u8 2, .slice A1 sn c1, .int .i64 mn, .int .i64 mx, .bool lz, .slice A2 un c2] 25)) := (Below.refl _ w).alloc (Nat.le_refl _) _
 have HK := Lib.hid hK
 have hb := heap_alloc_new w (.cells #[.int .u8 2, .slice A1 sn c1, .int .i64 mn, .int .i64 mx, .bool lz, .slice A2 un c2] 25)
 have Hb := Lib.hid hb
 clear hK hb
 have h3b : (mn != 0) = true := by rw [bne_iff_ne]; exact h3
 have Hsn : ((decide ((2 : Int) ≠ 2) && decide (0 < sn)) = false) := by simp
 unfold aloneF
 rw [Hsn]
 clear Hsn
 rcases h2 with h2 | h2
 ·clear h2
  go_enter Tryz.func70, Tryz.ntmps70
  go_wp2_with (go_at_call 96; refine (CR.out _ HK.out).mono ?_; rintro e w1 ⟨rfl, hk1⟩; have HK1 := Lib.hid (below_kept HK.out hk1); have hB1 := heap_kept hk1 Hb.out; have f0 : w1.cell? ⟨w.heap.size, 0, none⟩ = some (.int .u8 2) := (by rw [cell_of_row _ _ _ _ _ _ hB1]; rfl); have f1 : w1.cell? ⟨w.heap.size, 1, none⟩ = some (.slice A1 sn c1) := (by rw [cell_of_row _ _ _ _ _ _ hB1]; rfl); have f2 : w1.cell? ⟨w.heap.size, 2, none⟩ = some (.int .i64 mn) := (by rw [cell_of_row _ _ _ _ _ _ hB1]; rfl); have f3 : w1.cell? ⟨w.heap.size, 3, none⟩ = some (.int .i64 mx) := (by rw [cell_of_row _ _ _ _ _ _ hB1]; rfl); have f4 : w1.cell? ⟨w.heap.size, 4, none⟩ = some (.bool lz) := (by rw [cell_of_row _ _ _ _ _ _ hB1]; rfl); have f5 : w1.cell? ⟨w.heap.size, 5, none⟩ = some (.slice A2 un c2) := (by rw [cell_of_row _ _ _ _ _ _ hB1]; rfl); clear hk1 hB1)
  go_ret
  exact ⟨by first | rfl | (simp [*]; done) | (simp; omega), HK1.out⟩
 ·subst h2
  go_enter Tryz.func70, Tryz.ntmps70
  go_wp2_with (go_at_call 96; refine (CR.out _ HK.out).mono ?_; rintro e w1 ⟨rfl, hk1⟩; have HK1 := Lib.hid (below_kept HK.out hk1); have hB1 := heap_kept hk1 Hb.out; have f0 : w1.cell? ⟨w.heap.size, 0, none⟩ = some (.int .u8 2) := (by rw [cell_of_row _ _ _ _ _ _ hB1]; rfl); have f1 : w1.cell? ⟨w.heap.size, 1, none⟩ = some (.slice A1 0 c1) := (by rw [cell_of_row _ _ _ _ _ _ hB1]; rfl); have f2 : w1.cell? ⟨w.heap.size, 2, none⟩ = some (.int .i64 mn) := (by rw [cell_of_row _ _ _ _ _ _ hB1]; rfl); have f3 : w1.cell? ⟨w.heap.size, 3, none⟩ = some (.int .i64 mx) := (by rw [cell_of_row _ _ _ _ _ _ hB1]; rfl); have f4 : w1.cell? ⟨w.heap.size, 4, none⟩ = some (.bool lz) := (by rw [cell_of_row _ _ _ _ _ _ hB1]; rfl); have f5 : w1.cell? ⟨w.heap.size, 5, none⟩ = some (.slice A2 un c2) := (by rw [cell_of_row _ _ _ _ _ _ hB1]; rfl); clear hk1 hB1)
  go_ret
  exact ⟨by first | rfl | (simp [*]; done) | (simp; omega), HK1.out⟩
set_option maxHeartbeats 1000000 in
theorem al_2_b (h3 : mx ≠ 0) (h2 : (2 : Int) = 2 ∨ sn = 0) (CR : Hid (∀ W, Kept w W → Calls Tryz.prog 96 #[.slice A1 sn c1] W fun e w' => e = .returned (.bool true) ∧ Kept W w')) :
  Calls Tryz.prog 70 #[ndV 2 A1 sn c1 0 mx lz A2 un c2] w fun e w' => e = .returned (.bool (aloneF 2 sn true 0 mx lz un)) ∧ Kept w w' := by
 have hK : Kept w (w.alloc (.cells #[.int .u8 2, .slice A1 sn c1, .int .i64 0, .int .i64 mx, .bool lz, .slice A2 un c2] 25)) := (Below.refl _ w).alloc (Nat.le_refl _) _
 have HK := Lib.hid hK
 have hb := heap_alloc_new w (.cells #[.int .u8 2, .slice A1 sn c1, .int .i64 0, .int .i64 mx, .bool lz, .slice A2 un c2] 25)
 have Hb := Lib.hid hb
 clear hK hb
 have h3b : (mx != 0) = true := by rw [bne_iff_ne]; exact h3
 have Hsn : ((decide ((2 : Int) ≠ 2) && decide (0 < sn)) = false) := by simp
 unfold aloneF
 rw [Hsn]
 clear Hsn
 rcases h2 with h2 | h2
 ·clear h2
  go_enter Tryz.func70, Tryz.ntmps70
  go_wp2_with (go_at_call 96; refine (CR.out _ HK.out).mono ?_; rintro e w1 ⟨rfl, hk1⟩; have HK1 := Lib.hid (below_kept HK.out hk1); have hB1 := heap_kept hk1 Hb.out; have f0 : w1.cell? ⟨w.heap.size, 0, none⟩ = some (.int .u8 2) := (by rw [cell_of_row _ _ _ _ _ _ hB1]; rfl); have f1 : w1.cell? ⟨w.heap.size, 1, none⟩ = some (.slice A1 sn c1) := (by rw [cell_of_row _ _ _ _ _ _ hB1]; rfl); have f2 : w1.cell? ⟨w.heap.size, 2, none⟩ = some (.int .i64 0) := (by rw [cell_of_row _ _ _ _ _ _ hB1]; rfl); have f3 : w1.cell? ⟨w.heap.size, 3, none⟩ = some (.int .i64 mx) := (by rw [cell_of_row _ _ _ _ _ _ hB1]; rfl); have f4 : w1.cell? ⟨w.heap.size, 4, none⟩ = some (.bool lz) := (by rw [cell_of_row _ _ _ _ _ _ hB1]; rfl); have f5 : w1.cell? ⟨w.heap.size, 5, none⟩ = some (.slice A2 un c2) := (by rw [cell_of_row _ _ _ _ _ _ hB1]; rfl); clear hk1 hB1)
  go_ret
  exact ⟨by first | rfl | (simp [*]; done) | (simp; omega), HK1.out⟩
 ·subst h2
  go_enter Tryz.func70, Tryz.ntmps70
  go_wp2_with (go_at_call 96; refine (CR.out _ HK.out).mono ?_; rintro e w1 ⟨rfl, hk1⟩; have HK1 := Lib.hid (below_kept HK.out hk1); have hB1 := heap_kept hk1 Hb.out; have f0 : w1.cell? ⟨w.heap.size, 0, none⟩ = some (.int .u8 2) := (by rw [cell_of_row _ _ _ _ _ _ hB1]; rfl); have f1 : w1.cell? ⟨w.heap.size, 1, none⟩ = some (.slice A1 0 c1) := (by rw [cell_of_row _ _ _ _ _ _ hB1]; rfl); have f2 : w1.cell? ⟨w.heap.size, 2, none⟩ = some (.int .i64 0) := (by rw [cell_of_row _ _ _ _ _ _ hB1]; rfl); have f3 : w1.cell? ⟨w.heap.size, 3, none⟩ = some (.int .i64 mx) := (by rw [cell_of_row _ _ _ _ _ _ hB1]; rfl); have f4 : w1.cell? ⟨w.heap.size, 4, none⟩ = some (.bool lz) := (by rw [cell_of_row _ _ _ _ _ _ hB1]; rfl); have f5 : w1.cell? ⟨w.heap.size, 5, none⟩ = some (.slice A2 un c2) := (by rw [cell_of_row _ _ _ _ _ _ hB1]; rfl); clear hk1 hB1)
  go_ret
  exact ⟨by first | rfl | (simp [*]; done) | (simp; omega), HK1.out⟩
set_option maxHeartbeats 1000000 in
theorem al_2_c (h2 : (2 : Int) = 2 ∨ sn = 0) (CR : Hid (∀ W, Kept w W → Calls Tryz.prog 96 #[.slice A1 sn c1] W fun e w' => e = .returned (.bool true) ∧ Kept W w')) :
  Calls Tryz.prog 70 #[ndV 2 A1 sn c1 0 0 true A2 un c2] w fun e w' => e = .returned (.bool (aloneF 2 sn true 0 0 true un)) ∧ Kept w w' := by
 have hK : Kept w (w.alloc (.cells #[.int .u8 2, .slice A1 sn c1, .int .i64 0, .int .i64 0, .bool true, .slice A2 un c2] 25)) := (Below.refl _ w).alloc (Nat.le_refl _) _
 have HK := Lib.hid hK
 have hb := heap_alloc_new w (.cells #[.int .u8 2, .slice A1 sn c1, .int .i64 0, .int .i64 0, .bool true, .slice A2 un c2] 25)
 have Hb := Lib.hid hb
 clear hK hb
 have Hsn : ((decide ((2 : Int) ≠ 2) && decide (0 < sn)) = false) := by simp
 unfold aloneF
 rw [Hsn]
 clear Hsn
 rcases h2 with h2 | h2
 ·clear h2
  go_enter Tryz.func70, Tryz.ntmps70
  go_wp2_with (go_at_call 96; refine (CR.out _ HK.out).mono ?_; rintro e w1 ⟨rfl, hk1⟩; have HK1 := Lib.hid (below_kept HK.out hk1); have hB1 := heap_kept hk1 Hb.out; have f0 : w1.cell? ⟨w.heap.size, 0, none⟩ = some (.int .u8 2) := (by rw [cell_of_row _ _ _ _ _ _ hB1]; rfl); have f1 : w1.cell? ⟨w.heap.size, 1, none⟩ = some (.slice A1 sn c1) := (by rw [cell_of_row _ _ _ _ _ _ hB1]; rfl); have f2 : w1.cell? ⟨w.heap.size, 2, none⟩ = some (.int .i64 0) := (by rw [cell_of_row _ _ _ _ _ _ hB1]; rfl); have f3 : w1.cell? ⟨w.heap.size, 3, none⟩ = some (.int .i64 0) := (by rw [cell_of_row _ _ _ _ _ _ hB1]; rfl); have f4 : w1.cell? ⟨w.heap.size, 4, none⟩ = some (.bool true) := (by rw [cell_of_row _ _ _ _ _ _ hB1]; rfl); have f5 : w1.cell? ⟨w.heap.size, 5, none⟩ = some (.slice A2 un c2) := (by rw [cell_of_row _ _ _ _ _ _ hB1]; rfl); clear hk1 hB1)
  go_ret
  exact ⟨by first | rfl | (simp [*]; done) | (simp; omega), HK1.out⟩
 ·subst h2
  go_enter Tryz.func70, Tryz.ntmps70
  go_wp2_with (go_at_call 96; refine (CR.out _ HK.out).mono ?_; rintro e w1 ⟨rfl, hk1⟩; have HK1 := Lib.hid (below_kept HK.out hk1); have hB1 := heap_kept hk1 Hb.out; have f0 : w1.cell? ⟨w.heap.size, 0, none⟩ = some (.int .u8 2) := (by rw [cell_of_row _ _ _ _ _ _ hB1]; rfl); have f1 : w1.cell? ⟨w.heap.size, 1, none⟩ = some (.slice A1 0 c1) := (by rw [cell_of_row _ _ _ _ _ _ hB1]; rfl); have f2 : w1.cell? ⟨w.heap.size, 2, none⟩ = some (.int .i64 0) := (by rw [cell_of_row _ _ _ _ _ _ hB1]; rfl); have f3 : w1.cell? ⟨w.heap.size, 3, none⟩ = some (.int .i64 0) := (by rw [cell_of_row _ _ _ _ _ _ hB1]; rfl); have f4 : w1.cell? ⟨w.heap.size, 4, none⟩ = some (.bool true) := (by rw [cell_of_row _ _ _ _ _ _ hB1]; rfl); have f5 : w1.cell? ⟨w.heap.size, 5, none⟩ = some (.slice A2 un c2) := (by rw [cell_of_row _ _ _ _ _ _ hB1]; rfl); clear hk1 hB1)
  go_ret
  exact ⟨by first | rfl | (simp [*]; done) | (simp; omega), HK1.out⟩
set_option maxHeartbeats 1000000 in
theorem al_2_d (h2 : (2 : Int) = 2 ∨ sn = 0) (CR : Hid (∀ W, Kept w W → Calls Tryz.prog 96 #[.slice A1 sn c1] W fun e w' => e = .returned (.bool true) ∧ Kept W w')) :
  Calls Tryz.prog 70 #[ndV 2 A1 sn c1 0 0 false A2 0 c2] w fun e w' => e = .returned (.bool (aloneF 2 sn true 0 0 false 0)) ∧ Kept w w' := by
 have hK : Kept w (w.alloc (.cells #[.int .u8 2, .slice A1 sn c1, .int .i64 0, .int .i64 0, .bool false, .slice A2 0 c2] 25)) := (Below.refl _ w).alloc (Nat.le_refl _) _
 have HK := Lib.hid hK
 have hb := heap_alloc_new w (.cells #[.int .u8 2, .slice A1 sn c1, .int .i64 0, .int .i64 0, .bool false, .slice A2 0 c2] 25)
 have Hb := Lib.hid hb
 clear hK hb
 have Hsn : ((decide ((2 : Int) ≠ 2) && decide (0 < sn)) = false) := by simp
 unfold aloneF
 rw [Hsn]
 clear Hsn
 rcases h2 with h2 | h2
 ·clear h2
  go_enter Tryz.func70, Tryz.ntmps70
  go_wp2_with (go_at_call 96; refine (CR.out _ HK.out).mono ?_; rintro e w1 ⟨rfl, hk1⟩; have HK1 := Lib.hid (below_kept HK.out hk1); have hB1 := heap_kept hk1 Hb.out; have f0 : w1.cell? ⟨w.heap.size, 0, none⟩ = some (.int .u8 2) := (by rw [cell_of_row _ _ _ _ _ _ hB1]; rfl); have f1 : w1.cell? ⟨w.heap.size, 1, none⟩ = some (.slice A1 sn c1) := (by rw [cell_of_row _ _ _ _ _ _ hB1]; rfl); have f2 : w1.cell? ⟨w.heap.size, 2, none⟩ = some (.int .i64 0) := (by rw [cell_of_row _ _ _ _ _ _ hB1]; rfl); have f3 : w1.cell? ⟨w.heap.size, 3, none⟩ = some (.int .i64 0) := (by rw [cell_of_row _ _ _ _ _ _ hB1]; rfl); have f4 : w1.cell? ⟨w.heap.size, 4, none⟩ = some (.bool false) := (by rw [cell_of_row _ _ _ _ _ _ hB1]; rfl); have f5 : w1.cell? ⟨w.heap.size, 5, none⟩ = some (.slice A2 0 c2) := (by rw [cell_of_row _ _ _ _ _ _ hB1]; rfl); clear hk1 hB1)
  go_ret
  exact ⟨by first | rfl | (simp [*]; done) | (simp; omega), HK1.out⟩
 ·subst h2
  go_enter Tryz.func70, Tryz.ntmps70
  go_wp2_with (go_at_call 96; refine (CR.out _ HK.out).mono ?_; rintro e w1 ⟨rfl, hk1⟩; have HK1 := Lib.hid (below_kept HK.out hk1); have hB1 := heap_kept hk1 Hb.out; have f0 : w1.cell? ⟨w.heap.size, 0, none⟩ = some (.int .u8 2) := (by rw [cell_of_row _ _ _ _ _ _ hB1]; rfl); have f1 : w1.cell? ⟨w.heap.size, 1, none⟩ = some (.slice A1 0 c1) := (by rw [cell_of_row _ _ _ _ _ _ hB1]; rfl); have f2 : w1.cell? ⟨w.heap.size, 2, none⟩ = some (.int .i64 0) := (by rw [cell_of_row _ _ _ _ _ _ hB1]; rfl); have f3 : w1.cell? ⟨w.heap.size, 3, none⟩ = some (.int .i64 0) := (by rw [cell_of_row _ _ _ _ _ _ hB1]; rfl); have f4 : w1.cell? ⟨w.heap.size, 4, none⟩ = some (.bool false) := (by rw [cell_of_row _ _ _ _ _ _ hB1]; rfl); have f5 : w1.cell? ⟨w.heap.size, 5, none⟩ = some (.slice A2 0 c2) := (by rw [cell_of_row _ _ _ _ _ _ hB1]; rfl); clear hk1 hB1)
  go_ret
  exact ⟨by first | rfl | (simp [*]; done) | (simp; omega), HK1.out⟩
set_option maxHeartbeats 1000000 in
theorem al_2_e (h4 : un ≠ 0) (h2 : (2 : Int) = 2 ∨ sn = 0) (CR : Hid (∀ W, Kept w W → Calls Tryz.prog 96 #[.slice A1 sn c1] W fun e w' => e = .returned (.bool true) ∧ Kept W w')) :
  Calls Tryz.prog 70 #[ndV 2 A1 sn c1 0 0 false A2 un c2] w fun e w' => e = .returned (.bool (aloneF 2 sn true 0 0 false un)) ∧ Kept w w' := by
 have hK : Kept w (w.alloc (.cells #[.int .u8 2, .slice A1 sn c1, .int .i64 0, .int .i64 0, .bool false, .slice A2 un c2] 25)) := (Below.refl _ w).alloc (Nat.le_refl _) _
 have HK := Lib.hid hK
 have hb := heap_alloc_new w (.cells #[.int .u8 2, .slice A1 sn c1, .int .i64 0, .int .i64 0, .bool false, .slice A2 un c2] 25)
 have Hb := Lib.hid hb
 clear hK hb
 have h4b : ((un : Int) == 0) = false := by rw [beq_eq_false_iff_ne]; omega
 have Hsn : ((decide ((2 : Int) ≠ 2) && decide (0 < sn)) = false) := by simp
 unfold aloneF
 rw [Hsn]
 clear Hsn
 rcases h2 with h2 | h2
 ·clear h2
  go_enter Tryz.func70, Tryz.ntmps70
  go_wp2_with (go_at_call 96; refine (CR.out _ HK.out).mono ?_; rintro e w1 ⟨rfl, hk1⟩; have HK1 := Lib.hid (below_kept HK.out hk1); have hB1 := heap_kept hk1 Hb.out; have f0 : w1.cell? ⟨w.heap.size, 0, none⟩ = some (.int .u8 2) := (by rw [cell_of_row _ _ _ _ _ _ hB1]; rfl); have f1 : w1.cell? ⟨w.heap.size, 1, none⟩ = some (.slice A1 sn c1) := (by rw [cell_of_row _ _ _ _ _ _ hB1]; rfl); have f2 : w1.cell? ⟨w.heap.size, 2, none⟩ = some (.int .i64 0) := (by rw [cell_of_row _ _ _ _ _ _ hB1]; rfl); have f3 : w1.cell? ⟨w.heap.size, 3, none⟩ = some (.int .i64 0) := (by rw [cell_of_row _ _ _ _ _ _ hB1]; rfl); have f4 : w1.cell? ⟨w.heap.size, 4, none⟩ = some (.bool false) := (by rw [cell_of_row _ _ _ _ _ _ hB1]; rfl); have f5 : w1.cell? ⟨w.heap.size, 5, none⟩ = some (.slice A2 un c2) := (by rw [cell_of_row _ _ _ _ _ _ hB1]; rfl); clear hk1 hB1)
  go_ret
  exact ⟨by first | rfl | (simp [*]; done) | (simp; omega), HK1.out⟩
 ·subst h2
  go_enter Tryz.func70, Tryz.ntmps70
  go_wp2_with (go_at_call 96; refine (CR.out _ HK.out).mono ?_; rintro e w1 ⟨rfl, hk1⟩; have HK1 := Lib.hid (below_kept HK.out hk1); have hB1 := heap_kept hk1 Hb.out; have f0 : w1.cell? ⟨w.heap.size, 0, none⟩ = some (.int .u8 2) := (by rw [cell_of_row _ _ _ _ _ _ hB1]; rfl); have f1 : w1.cell? ⟨w.heap.size, 1, none⟩ = some (.slice A1 0 c1) := (by rw [cell_of_row _ _ _ _ _ _ hB1]; rfl); have f2 : w1.cell? ⟨w.heap.size, 2, none⟩ = some (.int .i64 0) := (by rw [cell_of_row _ _ _ _ _ _ hB1]; rfl); have f3 : w1.cell? ⟨w.heap.size, 3, none⟩ = some (.int .i64 0) := (by rw [cell_of_row _ _ _ _ _ _ hB1]; rfl); have f4 : w1.cell? ⟨w.heap.size, 4, none⟩ = some (.bool false) := (by rw [cell_of_row _ _ _ _ _ _ hB1]; rfl); have f5 : w1.cell? ⟨w.heap.size, 5, none⟩ = some (.slice A2 un c2) := (by rw [cell_of_row _ _ _ _ _ _ hB1]; rfl); clear hk1 hB1)
  go_ret
  exact ⟨by first | rfl | (simp [*]; done) | (simp; omega), HK1.out⟩
set_option maxHeartbeats 1000000 in
theorem al_3_r (h2 : (3 : Int) = 2 ∨ sn = 0) (CR : Hid (∀ W, Kept w W → Calls Tryz.prog 96 #[.slice A1 sn c1] W fun e w' => e = .returned (.bool false) ∧ Kept W w')) :
  Calls Tryz.prog 70 #[ndV 3 A1 sn c1 mn mx lz A2 un c2] w fun e w' => e = .returned (.bool (aloneF 3 sn false mn mx lz un)) ∧ Kept w w' := by
 have hK : Kept w (w.alloc (.cells #[.int .u8 3, .slice A1 sn c1, .int .i64 mn, .int .i64 mx, .bool lz, .slice A2 un c2] 25)) := (Below.refl _ w).alloc (Nat.le_refl _) _
 have HK := Lib.hid hK
 have hb := heap_alloc_new w (.cells #[.int .u8 3, .slice A1 sn c1, .int .i64 mn, .int .i64 mx, .bool lz, .slice A2 un c2] 25)
 have Hb := Lib.hid hb
 clear hK hb
 have Hsn : ((decide ((3 : Int) ≠ 2) && decide (0 < sn)) = false) := by (rcases h2 with h | h; exact absurd h (by decide); simp [h])
 unfold aloneF
 rw [Hsn]
 clear Hsn
 rcases h2 with h2 | h2
 ·exact absurd h2 (by decide)
 ·subst h2
  go_enter Tryz.func70, Tryz.ntmps70
  go_wp2_with (go_at_call 96; refine (CR.out _ HK.out).mono ?_; rintro e w1 ⟨rfl, hk1⟩; have HK1 := Lib.hid (below_kept HK.out hk1); have hB1 := heap_kept hk1 Hb.out; have f0 : w1.cell? ⟨w.heap.size, 0, none⟩ = some (.int .u8 3) := (by rw [cell_of_row _ _ _ _ _ _ hB1]; rfl); have f1 : w1.cell? ⟨w.heap.size, 1, none⟩ = some (.slice A1 0 c1) := (by rw [cell_of_row _ _ _ _ _ _ hB1]; rfl); have f2 : w1.cell? ⟨w.heap.size, 2, none⟩ = some (.int .i64 mn) := (by rw [cell_of_row _ _ _ _ _ _ hB1]; rfl); have f3 : w1.cell? ⟨w.heap.size, 3, none⟩ = some (.int .i64 mx) := (by rw [cell_of_row _ _ _ _ _ _ hB1]; rfl); have f4 : w1.cell? ⟨w.heap.size, 4, none⟩ = some (.bool lz) := (by rw [cell_of_row _ _ _ _ _ _ hB1]; rfl); have f5 : w1.cell? ⟨w.heap.size, 5, none⟩ = some (.slice A2 un c2) := (by rw [cell_of_row _ _ _ _ _ _ hB1]; rfl); clear hk1 hB1)
  go_ret
  exact ⟨by first | rfl | (simp [*]; done) | (simp; omega), HK1.out⟩
set_option maxHeartbeats 1000000 in
theorem al_3_a (h3 : mn ≠ 0) (h2 : (3 : Int) = 2 ∨ sn = 0) (CR : Hid (∀ W, Kept w W → Calls Tryz.prog 96 #[.slice A1 sn c1] W fun e w' => e = .returned (.bool true) ∧ Kept W w')) :
  Calls Tryz.prog 70 #[ndV 3 A1 sn c1 mn mx lz A2 un c2] w fun e w' => e = .returned (.bool (aloneF 3 sn true mn mx lz un)) ∧ Kept w w' := by
 have hK : Kept w (w.alloc (.cells #[.int .u8 3, .slice A1 sn c1, .int .i64 mn, .int .i64 mx, .bool lz, .slice A2 un c2] 25)) := (Below.refl _ w).alloc (Nat.le_refl _) _
 have HK := Lib.hid hK
 have hb := heap_alloc_new w (.cells #[.int .u8 3, .slice A1 sn c1, .int .i64 mn, .int .i64 mx, .bool lz, .slice A2 un c2] 25)
 have Hb := Lib.hid hb
 clear hK hb
 have h3b : (mn != 0) = true := by rw [bne_iff_ne]; exact h3
 have Hsn : ((decide ((3 : Int) ≠ 2) && decide (0 < sn)) = false) := by (rcases h2 with h | h; exact absurd h (by decide); simp [h])
 unfold aloneF
 rw [Hsn]
 clear Hsn
 rcases h2 with h2 | h2
 ·exact absurd h2 (by decide)
 ·subst h2
  go_enter Tryz.func70, Tryz.ntmps70
  go_wp2_with (go_at_call 96; refine (CR.out _ HK.out).mono ?_; rintro e w1 ⟨rfl, hk1⟩; have HK1 := Lib.hid (below_kept HK.out hk1); have hB1 := heap_kept hk1 Hb.out; have f0 : w1.cell? ⟨w.heap.size, 0, none⟩ = some (.int .u8 3) := (by rw [cell_of_row _ _ _ _ _ _ hB1]; rfl); have f1 : w1.cell? ⟨w.heap.size, 1, none⟩ = some (.slice A1 0 c1) := (by rw [cell_of_row _ _ _ _ _ _ hB1]; rfl); have f2 : w1.cell? ⟨w.heap.size, 2, none⟩ = some (.int .i64 mn) := (by rw [cell_of_row _ _ _ _ _ _ hB1]; rfl); have f3 : w1.cell? ⟨w.heap.size, 3, none⟩ = some (.int .i64 mx) := (by rw [cell_of_row _ _ _ _ _ _ hB1]; rfl); have f4 : w1.cell? ⟨w.heap.size, 4, none⟩ = some (.bool lz) := (by rw [cell_of_row _ _ _ _ _ _ hB1]; rfl); have f5 : w1.cell? ⟨w.heap.size, 5, none⟩ = some (.slice A2 un c2) := (by rw [cell_of_row _ _ _ _ _ _ hB1]; rfl); clear hk1 hB1)
  go_ret
  exact ⟨by first | rfl | (simp [*]; done) | (simp; omega), HK1.out⟩
set_option maxHeartbeats 1000000 in
theorem al_3_b (h3 : mx ≠ 0) (h2 : (3 : Int) = 2 ∨ sn = 0) (CR : Hid (∀ W, Kept w W → Calls Tryz.prog 96 #[.slice A1 sn c1] W fun e w' => e = .returned (.bool true) ∧ Kept W w')) :
  Calls Tryz.prog 70 #[ndV 3 A1 sn c1 0 mx lz A2 un c2] w fun e w' => e = .returned (.bool (aloneF 3 sn true 0 mx lz un)) ∧ Kept w w' := by
 have hK : Kept w (w.alloc (.cells #[.int .u8 3, .slice A1 sn c1, .int .i64 0, .int .i64 mx, .bool lz, .slice A2 un c2] 25)) := (Below.refl _ w).alloc (Nat.le_refl _) _
 have HK := Lib.hid hK
 have hb := heap_alloc_new w (.cells #[.int .u8 3, .slice A1 sn c1, .int .i64 0, .int .i64 mx, .bool lz, .slice A2 un c2] 25)
 have Hb := Lib.hid hb
 clear hK hb
 have h3b : (mx != 0) = true := by rw [bne_iff_ne]; exact h3
 have Hsn : ((decide ((3 : Int) ≠ 2) && decide (0 < sn)) = false) := by (rcases h2 with h | h; exact absurd h (by decide); simp [h])
 unfold aloneF
 rw [Hsn]
 clear Hsn
 rcases h2 with h2 | h2
 ·exact absurd h2 (by decide)
 ·subst h2
  go_enter Tryz.func70, Tryz.ntmps70
  go_wp2_with (go_at_call 96; refine (CR.out _ HK.out).mono ?_; rintro e w1 ⟨rfl, hk1⟩; have HK1 := Lib.hid (below_kept HK.out hk1); have hB1 := heap_kept hk1 Hb.out; have f0 : w1.cell? ⟨w.heap.size, 0, none⟩ = some (.int .u8 3) := (by rw [cell_of_row _ _ _ _ _ _ hB1]; rfl); have f1 : w1.cell? ⟨w.heap.size, 1, none⟩ = some (.slice A1 0 c1) := (by rw [cell_of_row _ _ _ _ _ _ hB1]; rfl); have f2 : w1.cell? ⟨w.heap.size, 2, none⟩ = some (.int .i64 0) := (by rw [cell_of_row _ _ _ _ _ _ hB1]; rfl); have f3 : w1.cell? ⟨w.heap.size, 3, none⟩ = some (.int .i64 mx) := (by rw [cell_of_row _ _ _ _ _ _ hB1]; rfl); have f4 : w1.cell? ⟨w.heap.size, 4, none⟩ = some (.bool lz) := (by rw [cell_of_row _ _ _ _ _ _ hB1]; rfl); have f5 : w1.cell? ⟨w.heap.size, 5, none⟩ = some (.slice A2 un c2) := (by rw [cell_of_row _ _ _ _ _ _ hB1]; rfl); clear hk1 hB1)
  go_ret
  exact ⟨by first | rfl | (simp [*]; done) | (simp; omega), HK1.out⟩
set_option maxHeartbeats 1000000 in
theorem al_3_c (h2 : (3 : Int) = 2 ∨ sn = 0) (CR : Hid (∀ W, Kept w W → Calls Tryz.prog 96 #[.slice A1 sn c1] W fun e w' => e = .returned (.bool true) ∧ Kept W w')) :
  Calls Tryz.prog 70 #[ndV 3 A1 sn c1 0 0 true A2 un c2] w fun e w' => e = .returned (.bool (aloneF 3 sn true 0 0 true un)) ∧ Kept w w' := by
 have hK : Kept w (w.alloc (.cells #[.int .u8 3, .slice A1 sn c1, .int .i64 0, .int .i64 0, .bool true, .slice A2 un c2] 25)) := (Below.refl _ w).alloc (Nat.le_refl _) _
 have HK := Lib.hid hK
 have hb := heap_alloc_new w (.cells #[.int .u8 3, .slice A1 sn c1, .int .i64 0, .int .i64 0, .bool true, .slice A2 un c2] 25)
 have Hb := Lib.hid hb
 clear hK hb
 have Hsn : ((decide ((3 : Int) ≠ 2) && decide (0 < sn)) = false) := by (rcases h2 with h | h; exact absurd h (by decide); simp [h])
 unfold aloneF
 rw [Hsn]
 clear Hsn
 rcases h2 with h2 | h2
 ·exact absurd h2 (by decide)
 ·subst h2
  go_enter Tryz.func70, Tryz.ntmps70
  go_wp2_with (go_at_call 96; refine (CR.out _ HK.out).mono ?_; rintro e w1 ⟨rfl, hk1⟩; have HK1 := Lib.hid (below_kept HK.out hk1); have hB1 := heap_kept hk1 Hb.out; have f0 : w1.cell? ⟨w.heap.size, 0, none⟩ = some (.int .u8 3) := (by rw [cell_of_row _ _ _ _ _ _ hB1]; rfl); have f1 : w1.cell? ⟨w.heap.size, 1, none⟩ = some (.slice A1 0 c1) := (by rw [cell_of_row _ _ _ _ _ _ hB1]; rfl); have f2 : w1.cell? ⟨w.heap.size, 2, none⟩ = some (.int .i64 0) := (by rw [cell_of_row _ _ _ _ _ _ hB1]; rfl); have f3 : w1.cell? ⟨w.heap.size, 3, none⟩ = some (.int .i64 0) := (by rw [cell_of_row _ _ _ _ _ _ hB1]; rfl); have f4 : w1.cell? ⟨w.heap.size, 4, none⟩ = some (.bool true) := (by rw [cell_of_row _ _ _ _ _ _ hB1]; rfl); have f5 : w1.cell? ⟨w.heap.size, 5, none⟩ = some (.slice A2 un c2) := (by rw [cell_of_row _ _ _ _ _ _ hB1]; rfl); clear hk1 hB1)
  go_ret
  exact ⟨by first | rfl | (simp [*]; done) | (simp; omega), HK1.out⟩
set_option maxHeartbeats 1000000 in
theorem al_3_d (h4 : 2 ≤ un) (h2 : (3 : Int) = 2 ∨ sn = 0) (CR : Hid (∀ W, Kept w W → Calls Tryz.prog 96 #[.slice A1 sn c1] W fun e w' => e = .returned (.bool true) ∧ Kept W w')) :
  Calls Tryz.prog 70 #[ndV 3 A1 sn c1 0 0 false A2 un c2] w fun e w' => e = .returned (.bool (aloneF 3 sn true 0 0 false un)) ∧ Kept w w' := by
 have hK : Kept w (w.alloc (.cells #[.int .u8 3, .slice A1 sn c1, .int .i64 0, .int .i64 0, .bool false, .slice A2 un c2] 25)) := (Below.refl _ w).alloc (Nat.le_refl _) _
 have HK := Lib.hid hK
 have hb := heap_alloc_new w (.cells #[.int .u8 3, .slice A1 sn c1, .int .i64 0, .int .i64 0, .bool false, .slice A2 un c2] 25)
 have Hb := Lib.hid hb
 clear hK hb
 have h4b : (2 : Int) ≤ (un : Int) := by omega
 have Hsn : ((decide ((3 : Int) ≠ 2) && decide (0 < sn)) = false) := by (rcases h2 with h | h; exact absurd h (by decide); simp [h])
 unfold aloneF
 rw [Hsn]
 clear Hsn
 rcases h2 with h2 | h2
 ·exact absurd h2 (by decide)
 ·subst h2
  go_enter Tryz.func70, Tryz.ntmps70
  go_wp2_with (go_at_call 96; refine (CR.out _ HK.out).mono ?_; rintro e w1 ⟨rfl, hk1⟩; have HK1 := Lib.hid (below_kept HK.out hk1); have hB1 := heap_kept hk1 Hb.out; have f0 : w1.cell? ⟨w.heap.size, 0, none⟩ = some (.int .u8 3) := (by rw [cell_of_row _ _ _ _ _ _ hB1]; rfl); have f1 : w1.cell? ⟨w.heap.size, 1, none⟩ = some (.slice A1 0 c1) := (by rw [cell_of_row _ _ _ _ _ _ hB1]; rfl); have f2 : w1.cell? ⟨w.heap.size, 2, none⟩ = some (.int .i64 0) := (by rw [cell_of_row _ _ _ _ _ _ hB1]; rfl); have f3 : w1.cell? ⟨w.heap.size, 3, none⟩ = some (.int .i64 0) := (by rw [cell_of_row _ _ _ _ _ _ hB1]; rfl); have f4 : w1.cell? ⟨w.heap.size, 4, none⟩ = some (.bool false) := (by rw [cell_of_row _ _ _ _ _ _ hB1]; rfl); have f5 : w1.cell? ⟨w.heap.size, 5, none⟩ = some (.slice A2 un c2) := (by rw [cell_of_row _ _ _ _ _ _ hB1]; rfl); clear hk1 hB1)
  go_ret
  exact ⟨by first | rfl | (simp [*]; done) | (simp; omega), HK1.out⟩
set_option maxHeartbeats 1000000 in
theorem al_3_e (h4 : ¬ 2 ≤ un) (h2 : (3 : Int) = 2 ∨ sn = 0) (CR : Hid (∀ W, Kept w W → Calls Tryz.prog 96 #[.slice A1 sn c1] W fun e w' => e = .returned (.bool true) ∧ Kept W w')) :
  Calls Tryz.prog 70 #[ndV 3 A1 sn c1 0 0 false A2 un c2] w fun e w' => e = .returned (.bool (aloneF 3 sn true 0 0 false un)) ∧ Kept w w' := by
 have hK : Kept w (w.alloc (.cells #[.int .u8 3, .slice A1 sn c1, .int .i64 0, .int .i64 0, .bool false, .slice A2 un c2] 25)) := (Below.refl _ w).alloc (Nat.le_refl _) _
 have HK := Lib.hid hK
 have hb := heap_alloc_new w (.cells #[.int .u8 3, .slice A1 sn c1, .int .i64 0, .int .i64 0, .bool false, .slice A2 un c2] 25)
 have Hb := Lib.hid hb
 clear hK hb
 have h4b : ¬ (2 : Int) ≤ (un : Int) := by omega
 have Hsn : ((decide ((3 : Int) ≠ 2) && decide (0 < sn)) = false) := by (rcases h2 with h | h; exact absurd h (by decide); simp [h])
 unfold aloneF
 rw [Hsn]
 clear Hsn
 rcases h2 with h2 | h2
 ·exact absurd h2 (by decide)
 ·subst h2
  go_enter Tryz.func70, Tryz.ntmps70
  go_wp2_with (go_at_call 96; refine (CR.out _ HK.out).mono ?_; rintro e w1 ⟨rfl, hk1⟩; have HK1 := Lib.hid (below_kept HK.out hk1); have hB1 := heap_kept hk1 Hb.out; have f0 : w1.cell? ⟨w.heap.size, 0, none⟩ = some (.int .u8 3) := (by rw [cell_of_row _ _ _ _ _ _ hB1]; rfl); have f1 : w1.cell? ⟨w.heap.size, 1, none⟩ = some (.slice A1 0 c1) := (by rw [cell_of_row _ _ _ _ _ _ hB1]; rfl); have f2 : w1.cell? ⟨w.heap.size, 2, none⟩ = some (.int .i64 0) := (by rw [cell_of_row _ _ _ _ _ _ hB1]; rfl); have f3 : w1.cell? ⟨w.heap.size, 3, none⟩ = some (.int .i64 0) := (by rw [cell_of_row _ _ _ _ _ _ hB1]; rfl); have f4 : w1.cell? ⟨w.heap.size, 4, none⟩ = some (.bool false) := (by rw [cell_of_row _ _ _ _ _ _ hB1]; rfl); have f5 : w1.cell? ⟨w.heap.size, 5, none⟩ = some (.slice A2 un c2) := (by rw [cell_of_row _ _ _ _ _ _ hB1]; rfl); clear hk1 hB1)
  go_ret
  exact ⟨by first | rfl | (simp [*]; done) | (simp; omega), HK1.out⟩
set_option maxHeartbeats 1000000 in
theorem al_4_r (h2 : (4 : Int) = 2 ∨ sn = 0) (CR : Hid (∀ W, Kept w W → Calls Tryz.prog 96 #[.slice A1 sn c1] W fun e w' => e = .returned (.bool false) ∧ Kept W w')) :
  Calls Tryz.prog 70 #[ndV 4 A1 sn c1 mn mx lz A2 un c2] w fun e w' => e = .returned (.bool (aloneF 4 sn false mn mx lz un)) ∧ Kept w w' := by
 have hK : Kept w (w.alloc (.cells #[.int .u8 4, .slice A1 sn c1, .int .i64 mn, .int .i64 mx, .bool lz, .slice A2 un c2] 25)) := (Below.refl _ w).alloc (Nat.le_refl _) _
 have HK := Lib.hid hK
 have hb := heap_alloc_new w (.cells #[.int .u8 4, .slice A1 sn c1, .int .i64 mn, .int .i64 mx, .bool lz, .slice A2 un c2] 25)
 have Hb := Lib.hid hb
 clear hK hb
 have Hsn : ((decide ((4 : Int) ≠ 2) && decide (0 < sn)) = false) := by (rcases h2 with h | h; exact absurd h (by decide); simp [h])
 unfold aloneF
 rw [Hsn]
 clear Hsn
 rcases h2 with h2 | h2
 ·exact absurd h2 (by decide)
 ·subst h2
  go_enter Tryz.func70, Tryz.ntmps70
  go_wp2_with (go_at_call 96; refine (CR.out _ HK.out).mono ?_; rintro e w1 ⟨rfl, hk1⟩; have HK1 := Lib.hid (below_kept HK.out hk1); have hB1 := heap_kept hk1 Hb.out; have f0 : w1.cell? ⟨w.heap.size, 0, none⟩ = some (.int .u8 4) := (by rw [cell_of_row _ _ _ _ _ _ hB1]; rfl); have f1 : w1.cell? ⟨w.heap.size, 1, none⟩ = some (.slice A1 0 c1) := (by rw [cell_of_row _ _ _ _ _ _ hB1]; rfl); have f2 : w1.cell? ⟨w.heap.size, 2, none⟩ = some (.int .i64 mn) := (by rw [cell_of_row _ _ _ _ _ _ hB1]; rfl); have f3 : w1.cell? ⟨w.heap.size, 3, none⟩ = some (.int .i64 mx) := (by rw [cell_of_row _ _ _ _ _ _ hB1]; rfl); have f4 : w1.cell? ⟨w.heap.size, 4, none⟩ = some (.bool lz) := (by rw [cell_of_row _ _ _ _ _ _ hB1]; rfl); have f5 : w1.cell? ⟨w.heap.size, 5, none⟩ = some (.slice A2 un c2) := (by rw [cell_of_row _ _ _ _ _ _ hB1]; rfl); clear hk1 hB1)
  go_ret
  exact ⟨by first | rfl | (simp [*]; done) | (simp; omega), HK1.out⟩
set_option maxHeartbeats 1000000 in
theorem al_4_a (h3 : mn ≠ 0) (h2 : (4 : Int) = 2 ∨ sn = 0) (CR : Hid (∀ W, Kept w W → Calls Tryz.prog 96 #[.slice A1 sn c1] W fun e w' => e = .returned (.bool true) ∧ Kept W w')) :
  Calls Tryz.prog 70 #[ndV 4 A1 sn c1 mn mx lz A2 un c2] w fun e w' => e = .returned (.bool (aloneF 4 sn true mn mx lz un)) ∧ Kept w w' := by
 have hK : Kept w (w.alloc (.cells #[.int .u8 4, .slice A1 sn c1, .int .i64 mn, .int .i64 mx, .bool lz, .slice A2 un c2] 25)) := (Below.refl _ w).alloc (Nat.le_refl _) _
 have HK := Lib.hid hK
 have hb := heap_alloc_new w (.cells #[.int .u8 4, .slice A1 sn c1, .int .i64 mn, .int .i64 mx, .bool lz, .slice A2 un c2] 25)
 have Hb := Lib.hid hb
 clear hK hb
 have h3b : (mn != 0) = true := by rw [bne_iff_ne]; exact h3
 have Hsn : ((decide ((4 : Int) ≠ 2) && decide (0 < sn)) = false) := by (rcases h2 with h | h; exact absurd h (by decide); simp [h])
 unfold aloneF
 rw [Hsn]
 clear Hsn
 rcases h2 with h2 | h2
 ·exact absurd h2 (by decide)
 ·subst h2
  go_enter Tryz.func70, Tryz.ntmps70
  go_wp2_with (go_at_call 96; refine (CR.out _ HK.out).mono ?_; rintro e w1 ⟨rfl, hk1⟩; have HK1 := Lib.hid (below_kept HK.out hk1); have hB1 := heap_kept hk1 Hb.out; have f0 : w1.cell? ⟨w.heap.size, 0, none⟩ = some (.int .u8 4) := (by rw [cell_of_row _ _ _ _ _ _ hB1]; rfl); have f1 : w1.cell? ⟨w.heap.size, 1, none⟩ = some (.slice A1 0 c1) := (by rw [cell_of_row _ _ _ _ _ _ hB1]; rfl); have f2 : w1.cell? ⟨w.heap.size, 2, none⟩ = some (.int .i64 mn) := (by rw [cell_of_row _ _ _ _ _ _ hB1]; rfl); have f3 : w1.cell? ⟨w.heap.size, 3, none⟩ = some (.int .i64 mx) := (by rw [cell_of_row _ _ _ _ _ _ hB1]; rfl); have f4 : w1.cell? ⟨w.heap.size, 4, none⟩ = some (.bool lz) := (by rw [cell_of_row _ _ _ _ _ _ hB1]; rfl); have f5 : w1.cell? ⟨w.heap.size, 5, none⟩ = some (.slice A2 un c2) := (by rw [cell_of_row _ _ _ _ _ _ hB1]; rfl); clear hk1 hB1)
  go_ret
  exact ⟨by first | rfl | (simp [*]; done) | (simp; omega), HK1.out⟩
set_option maxHeartbeats 1000000 in
theorem al_4_b (h3 : mx ≠ 0) (h2 : (4 : Int) = 2 ∨ sn = 0) (CR : Hid (∀ W, Kept w W → Calls Tryz.prog 96 #[.slice A1 sn c1] W fun e w' => e = .returned (.bool true) ∧ Kept W w')) :
  Calls Tryz.prog 70 #[ndV 4 A1 sn c1 0 mx lz A2 un c2] w fun e w' => e = .returned (.bool (aloneF 4 sn true 0 mx lz un)) ∧ Kept w w' := by
 have hK : Kept w (w.alloc (.cells #[.int .u8 4, .slice A1 sn c1, .int .i64 0, .int .i64 mx, .bool lz, .slice A2 un c2] 25)) := (Below.refl _ w).alloc (Nat.le_refl _) _
 have HK := Lib.hid hK
 have hb := heap_alloc_new w (.cells #[.int .u8 4, .slice A1 sn c1, .int .i64 0, .int .i64 mx, .bool lz, .slice A2 un c2] 25)
 have Hb := Lib.hid hb
 clear hK hb
 have h3b : (mx != 0) = true := by rw [bne_iff_ne]; exact h3
 have Hsn : ((decide ((4 : Int) ≠ 2) && decide (0 < sn)) = false) := by (rcases h2 with h | h; exact absurd h (by decide); simp [h])
 unfold aloneF
 rw [Hsn]
 clear Hsn
 rcases h2 with h2 | h2
 ·exact absurd h2 (by decide)
 ·subst h2
  go_enter Tryz.func70, Tryz.ntmps70
  go_wp2_with (go_at_call 96; refine (CR.out _ HK.out).mono ?_; rintro e w1 ⟨rfl, hk1⟩; have HK1 := Lib.hid (below_kept HK.out hk1); have hB1 := heap_kept hk1 Hb.out; have f0 : w1.cell? ⟨w.heap.size, 0, none⟩ = some (.int .u8 4) := (by rw [cell_of_row _ _ _ _ _ _ hB1]; rfl); have f1 : w1.cell? ⟨w.heap.size, 1, none⟩ = some (.slice A1 0 c1) := (by rw [cell_of_row _ _ _ _ _ _ hB1]; rfl); have f2 : w1.cell? ⟨w.heap.size, 2, none⟩ = some (.int .i64 0) := (by rw [cell_of_row _ _ _ _ _ _ hB1]; rfl); have f3 : w1.cell? ⟨w.heap.size, 3, none⟩ = some (.int .i64 mx) := (by rw [cell_of_row _ _ _ _ _ _ hB1]; rfl); have f4 : w1.cell? ⟨w.heap.size, 4, none⟩ = some (.bool lz) := (by rw [cell_of_row _ _ _ _ _ _ hB1]; rfl); have f5 : w1.cell? ⟨w.heap.size, 5, none⟩ = some (.slice A2 un c2) := (by rw [cell_of_row _ _ _ _ _ _ hB1]; rfl); clear hk1 hB1)
  go_ret
  exact ⟨by first | rfl | (simp [*]; done) | (simp; omega), HK1.out⟩
set_option maxHeartbeats 1000000 in
theorem al_4_c (h2 : (4 : Int) = 2 ∨ sn = 0) (CR : Hid (∀ W, Kept w W → Calls Tryz.prog 96 #[.slice A1 sn c1] W fun e w' => e = .returned (.bool true) ∧ Kept W w')) :
  Calls Tryz.prog 70 #[ndV 4 A1 sn c1 0 0 true A2 un c2] w fun e w' => e = .returned (.bool (aloneF 4 sn true 0 0 true un)) ∧ Kept w w' := by
 have hK : Kept w (w.alloc (.cells #[.int .u8 4, .slice A1 sn c1, .int .i64 0, .int .i64 0, .bool true, .slice A2 un c2] 25)) := (Below.refl _ w).alloc (Nat.le_refl _) _
 have HK := Lib.hid hK
 have hb := heap_alloc_new w (.cells #[.int .u8 4, .slice A1 sn c1, .int .i64 0, .int .i64 0, .bool true, .slice A2 un c2] 25)
 have Hb := Lib.hid hb
 clear hK hb
 have Hsn : ((decide ((4 : Int) ≠ 2) && decide (0 < sn)) = false) := by (rcases h2 with h | h; exact absurd h (by decide); simp [h])
 unfold aloneF
 rw [Hsn]
 clear Hsn
 rcases h2 with h2 | h2
 ·exact absurd h2 (by decide)
 ·subst h2
  go_enter Tryz.func70, Tryz.ntmps70
  go_wp2_with (go_at_call 96; refine (CR.out _ HK.out).mono ?_; rintro e w1 ⟨rfl, hk1⟩; have HK1 := Lib.hid (below_kept HK.out hk1); have hB1 := heap_kept hk1 Hb.out; have f0 : w1.cell? ⟨w.heap.size, 0, none⟩ = some (.int .u8 4) := (by rw [cell_of_row _ _ _ _ _ _ hB1]; rfl); have f1 : w1.cell? ⟨w.heap.size, 1, none⟩ = some (.slice A1 0 c1) := (by rw [cell_of_row _ _ _ _ _ _ hB1]; rfl); have f2 : w1.cell? ⟨w.heap.size, 2, none⟩ = some (.int .i64 0) := (by rw [cell_of_row _ _ _ _ _ _ hB1]; rfl); have f3 : w1.cell? ⟨w.heap.size, 3, none⟩ = some (.int .i64 0) := (by rw [cell_of_row _ _ _ _ _ _ hB1]; rfl); have f4 : w1.cell? ⟨w.heap.size, 4, none⟩ = some (.bool true) := (by rw [cell_of_row _ _ _ _ _ _ hB1]; rfl); have f5 : w1.cell? ⟨w.heap.size, 5, none⟩ = some (.slice A2 un c2) := (by rw [cell_of_row _ _ _ _ _ _ hB1]; rfl); clear hk1 hB1)
  go_ret
  exact ⟨by first | rfl | (simp [*]; done) | (simp; omega), HK1.out⟩
set_option maxHeartbeats 1000000 in
theorem al_4_d (h4 : 2 ≤ un) (h2 : (4 : Int) = 2 ∨ sn = 0) (CR : Hid (∀ W, Kept w W → Calls Tryz.prog 96 #[.slice A1 sn c1] W fun e w' => e = .returned (.bool true) ∧ Kept W w')) :
  Calls Tryz.prog 70 #[ndV 4 A1 sn c1 0 0 false A2 un c2] w fun e w' => e = .returned (.bool (aloneF 4 sn true 0 0 false un)) ∧ Kept w w' := by
 have hK : Kept w (w.alloc (.cells #[.int .u8 4, .slice A1 sn c1, .int .i64 0, .int .i64 0, .bool false, .slice A2 un c2] 25)) := (Below.refl _ w).alloc (Nat.le_refl _) _
 have HK := Lib.hid hK
 have hb := heap_alloc_new w (.cells #[.int .u8 4, .slice A1 sn c1, .int .i64 0, .int .i64 0, .bool false, .slice A2 un c2] 25)
 have Hb := Lib.hid hb
 clear hK hb
 have h4b : (2 : Int) ≤ (un : Int) := by omega
 have Hsn : ((decide ((4 : Int) ≠ 2) && decide (0 < sn)) = false) := by (rcases h2 with h | h; exact absurd h (by decide); simp [h])
 unfold aloneF
 rw [Hsn]
 clear Hsn
 rcases h2 with h2 | h2
 ·exact absurd h2 (by decide)
 ·subst h2
  go_enter Tryz.func70, Tryz.ntmps70
  go_wp2_with (go_at_call 96; refine (CR.out _ HK.out).mono ?_; rintro e w1 ⟨rfl, hk1⟩; have HK1 := Lib.hid (below_kept HK.out hk1); have hB1 := heap_kept hk1 Hb.out; have f0 : w1.cell? ⟨w.heap.size, 0, none⟩ = some (.int .u8 4) := (by rw [cell_of_row _ _ _ _ _ _ hB1]; rfl); have f1 : w1.cell? ⟨w.heap.size, 1, none⟩ = some (.slice A1 0 c1) := (by rw [cell_of_row _ _ _ _ _ _ hB1]; rfl); have f2 : w1.cell? ⟨w.heap.size, 2, none⟩ = some (.int .i64 0) := (by rw [cell_of_row _ _ _ _ _ _ hB1]; rfl); have f3 : w1.cell? ⟨w.heap.size, 3, none⟩ = some (.int .i64 0) := (by rw [cell_of_row _ _ _ _ _ _ hB1]; rfl); have f4 : w1.cell? ⟨w.heap.size, 4, none⟩ = some (.bool false) := (by rw [cell_of_row _ _ _ _ _ _ hB1]; rfl); have f5 : w1.cell? ⟨w.heap.size, 5, none⟩ = some (.slice A2 un c2) := (by rw [cell_of_row _ _ _ _ _ _ hB1]; rfl); clear hk1 hB1)
  go_ret
  exact ⟨by first | rfl | (simp [*]; done) | (simp; omega), HK1.out⟩
set_option maxHeartbeats 1000000 in
theorem al_4_e (h4 : ¬ 2 ≤ un) (h2 : (4 : Int) = 2 ∨ sn = 0) (CR : Hid (∀ W, Kept w W → Calls Tryz.prog 96 #[.slice A1 sn c1] W fun e w' => e = .returned (.bool true) ∧ Kept W w')) :
  Calls Tryz.prog 70 #[ndV 4 A1 sn c1 0 0 false A2 un c2] w fun e w' => e = .returned (.bool (aloneF 4 sn true 0 0 false un)) ∧ Kept w w' := by
 have hK : Kept w (w.alloc (.cells #[.int .u8 4, .slice A1 sn c1, .int .i64 0, .int .i64 0, .bool false, .slice A2 un c2] 25)) := (Below.refl _ w).alloc (Nat.le_refl _) _
 have HK := Lib.hid hK
 have hb := heap_alloc_new w (.cells #[.int .u8 4, .slice A1 sn c1, .int .i64 0, .int .i64 0, .bool false, .slice A2 un c2] 25)
 have Hb := Lib.hid hb
 clear hK hb
 have h4b : ¬ (2 : Int) ≤ (un : Int) := by omega
 have Hsn : ((decide ((4 : Int) ≠ 2) && decide (0 < sn)) = false) := by (rcases h2 with h | h; exact absurd h (by decide); simp [h])
 unfold aloneF
 rw [Hsn]
 clear Hsn
 rcases h2 with h2 | h2
 ·exact absurd h2 (by decide)
 ·subst h2
  go_enter Tryz.func70, Tryz.ntmps70
  go_wp2_with (go_at_call 96; refine (CR.out _ HK.out).mono ?_; rintro e w1 ⟨rfl, hk1⟩; have HK1 := Lib.hid (below_kept HK.out hk1); have hB1 := heap_kept hk1 Hb.out; have f0 : w1.cell? ⟨w.heap.size, 0, none⟩ = some (.int .u8 4) := (by rw [cell_of_row _ _ _ _ _ _ hB1]; rfl); have f1 : w1.cell? ⟨w.heap.size, 1, none⟩ = some (.slice A1 0 c1) := (by rw [cell_of_row _ _ _ _ _ _ hB1]; rfl); have f2 : w1.cell? ⟨w.heap.size, 2, none⟩ = some (.int .i64 0) := (by rw [cell_of_row _ _ _ _ _ _ hB1]; rfl); have f3 : w1.cell? ⟨w.heap.size, 3, none⟩ = some (.int .i64 0) := (by rw [cell_of_row _ _ _ _ _ _ hB1]; rfl); have f4 : w1.cell? ⟨w.heap.size, 4, none⟩ = some (.bool false) := (by rw [cell_of_row _ _ _ _ _ _ hB1]; rfl); have f5 : w1.cell? ⟨w.heap.size, 5, none⟩ = some (.slice A2 un c2) := (by rw [cell_of_row _ _ _ _ _ _ hB1]; rfl); clear hk1 hB1)
  go_ret
  exact ⟨by first | rfl | (simp [*]; done) | (simp; omega), HK1.out⟩
set_option maxHeartbeats 1000000 in
theorem al_5_r (h2 : (5 : Int) = 2 ∨ sn = 0) (CR : Hid (∀ W, Kept w W → Calls Tryz.prog 96 #[.slice A1 sn c1] W fun e w' => e = .returned (.bool false) ∧ Kept W w')) :
  Calls Tryz.prog 70 #[ndV 5 A1 sn c1 mn mx lz A2 un c2] w fun e w' => e = .returned (.bool (aloneF 5 sn false mn mx lz un)) ∧ Kept w w' := by
 have hK : Kept w (w.alloc (.cells #[.int .u8 5, .slice A1 sn c1, .int .i64 mn, .int .i64 mx, .bool lz, .slice A2 un c2] 25)) := (Below.refl _ w).alloc (Nat.le_refl _) _
 have HK := Lib.hid hK
 have hb := heap_alloc_new w (.cells #[.int .u8 5, .slice A1 sn c1, .int .i64 mn, .int .i64 mx, .bool lz, .slice A2 un c2] 25)
 have Hb := Lib.hid hb
 clear hK hb
 have Hsn : ((decide ((5 : Int) ≠ 2) && decide (0 < sn)) = false) := by (rcases h2 with h | h; exact absurd h (by decide); simp [h])
 unfold aloneF
 rw [Hsn]
 clear Hsn
 rcases h2 with h2 | h2
 ·exact absurd h2 (by decide)
 ·subst h2
  go_enter Tryz.func70, Tryz.ntmps70
  go_wp2_with (go_at_call 96; refine (CR.out _ HK.out).mono ?_; rintro e w1 ⟨rfl, hk1⟩; have HK1 := Lib.hid (below_kept HK.out hk1); have hB1 := heap_kept hk1 Hb.out; have f0 : w1.cell? ⟨w.heap.size, 0, none⟩ = some (.int .u8 5) := (by rw [cell_of_row _ _ _ _ _ _ hB1]; rfl); have f1 : w1.cell? ⟨w.heap.size, 1, none⟩ = some (.slice A1 0 c1) := (by rw [cell_of_row _ _ _ _ _ _ hB1]; rfl); have f2 : w1.cell? ⟨w.heap.size, 2, none⟩ = some (.int .i64 mn) := (by rw [cell_of_row _ _ _ _ _ _ hB1]; rfl); have f3 : w1.cell? ⟨w.heap.size, 3, none⟩ = some (.int .i64 mx) := (by rw [cell_of_row _ _ _ _ _ _ hB1]; rfl); have f4 : w1.cell? ⟨w.heap.size, 4, none⟩ = some (.bool lz) := (by rw [cell_of_row _ _ _ _ _ _ hB1]; rfl); have f5 : w1.cell? ⟨w.heap.size, 5, none⟩ = some (.slice A2 un c2) := (by rw [cell_of_row _ _ _ _ _ _ hB1]; rfl); clear hk1 hB1)
  go_ret
  exact ⟨by first | rfl | (simp [*]; done) | (simp; omega), HK1.out⟩
set_option maxHeartbeats 1000000 in
theorem al_5_d (h2 : (5 : Int) = 2 ∨ sn = 0) (CR : Hid (∀ W, Kept w W → Calls Tryz.prog 96 #[.slice A1 sn c1] W fun e w' => e = .returned (.bool true) ∧ Kept W w')) :
  Calls Tryz.prog 70 #[ndV 5 A1 sn c1 mn mx lz A2 1 c2] w fun e w' => e = .returned (.bool (aloneF 5 sn true mn mx lz 1)) ∧ Kept w w' := by
 have hK : Kept w (w.alloc (.cells #[.int .u8 5, .slice A1 sn c1, .int .i64 mn, .int .i64 mx, .bool lz, .slice A2 1 c2] 25)) := (Below.refl _ w).alloc (Nat.le_refl _) _
 have HK := Lib.hid hK
 have hb := heap_alloc_new w (.cells #[.int .u8 5, .slice A1 sn c1, .int .i64 mn, .int .i64 mx, .bool lz, .slice A2 1 c2] 25)
 have Hb := Lib.hid hb
 clear hK hb
 have CT := Lib.hid (fun w => times_any mn mx w)
 have Hsn : ((decide ((5 : Int) ≠ 2) && decide (0 < sn)) = false) := by (rcases h2 with h | h; exact absurd h (by decide); simp [h])
 unfold aloneF
 rw [Hsn]
 clear Hsn
 rcases h2 with h2 | h2
 ·exact absurd h2 (by decide)
 ·subst h2
  go_enter Tryz.func70, Tryz.ntmps70
  go_wp2_with (first | (go_at_call 96; refine (CR.out _ HK.out).mono ?_; rintro e w1 ⟨rfl, hk1⟩; have HK1 := Lib.hid (below_kept HK.out hk1); have hB1 := heap_kept hk1 Hb.out; have f0 : w1.cell? ⟨w.heap.size, 0, none⟩ = some (.int .u8 5) := (by rw [cell_of_row _ _ _ _ _ _ hB1]; rfl); have f1 : w1.cell? ⟨w.heap.size, 1, none⟩ = some (.slice A1 0 c1) := (by rw [cell_of_row _ _ _ _ _ _ hB1]; rfl); have f2 : w1.cell? ⟨w.heap.size, 2, none⟩ = some (.int .i64 mn) := (by rw [cell_of_row _ _ _ _ _ _ hB1]; rfl); have f3 : w1.cell? ⟨w.heap.size, 3, none⟩ = some (.int .i64 mx) := (by rw [cell_of_row _ _ _ _ _ _ hB1]; rfl); have f4 : w1.cell? ⟨w.heap.size, 4, none⟩ = some (.bool lz) := (by rw [cell_of_row _ _ _ _ _ _ hB1]; rfl); have f5 : w1.cell? ⟨w.heap.size, 5, none⟩ = some (.slice A2 1 c2) := (by rw [cell_of_row _ _ _ _ _ _ hB1]; rfl); clear hk1 hB1) | (go_at_call 97; refine (CT.out _).mono ?_; rintro e w2 ⟨rfl, rfl⟩))
  go_ret
  exact ⟨by first | rfl | (simp [*]; done) | (simp; omega), HK1.out⟩
set_option maxHeartbeats 1000000 in
theorem al_5_e (h4 : un ≠ 1) (h2 : (5 : Int) = 2 ∨ sn = 0) (CR : Hid (∀ W, Kept w W → Calls Tryz.prog 96 #[.slice A1 sn c1] W fun e w' => e = .returned (.bool true) ∧ Kept W w')) :
  Calls Tryz.prog 70 #[ndV 5 A1 sn c1 mn mx lz A2 un c2] w fun e w' => e = .returned (.bool (aloneF 5 sn true mn mx lz un)) ∧ Kept w w' := by
 have hK : Kept w (w.alloc (.cells #[.int .u8 5, .slice A1 sn c1, .int .i64 mn, .int .i64 mx, .bool lz, .slice A2 un c2] 25)) := (Below.refl _ w).alloc (Nat.le_refl _) _
 have HK := Lib.hid hK
 have hb := heap_alloc_new w (.cells #[.int .u8 5, .slice A1 sn c1, .int .i64 mn, .int .i64 mx, .bool lz, .slice A2 un c2] 25)
 have Hb := Lib.hid hb
 clear hK hb
 have h4b : ((un : Int) == 1) = false := by rw [beq_eq_false_iff_ne]; omega
 have Hsn : ((decide ((5 : Int) ≠ 2) && decide (0 < sn)) = false) := by (rcases h2 with h | h; exact absurd h (by decide); simp [h])
 unfold aloneF
 rw [Hsn]
 clear Hsn
 rcases h2 with h2 | h2
 ·exact absurd h2 (by decide)
 ·subst h2
  go_enter Tryz.func70, Tryz.ntmps70
  go_wp2_with (go_at_call 96; refine (CR.out _ HK.out).mono ?_; rintro e w1 ⟨rfl, hk1⟩; have HK1 := Lib.hid (below_kept HK.out hk1); have hB1 := heap_kept hk1 Hb.out; have f0 : w1.cell? ⟨w.heap.size, 0, none⟩ = some (.int .u8 5) := (by rw [cell_of_row _ _ _ _ _ _ hB1]; rfl); have f1 : w1.cell? ⟨w.heap.size, 1, none⟩ = some (.slice A1 0 c1) := (by rw [cell_of_row _ _ _ _ _ _ hB1]; rfl); have f2 : w1.cell? ⟨w.heap.size, 2, none⟩ = some (.int .i64 mn) := (by rw [cell_of_row _ _ _ _ _ _ hB1]; rfl); have f3 : w1.cell? ⟨w.heap.size, 3, none⟩ = some (.int .i64 mx) := (by rw [cell_of_row _ _ _ _ _ _ hB1]; rfl); have f4 : w1.cell? ⟨w.heap.size, 4, none⟩ = some (.bool lz) := (by rw [cell_of_row _ _ _ _ _ _ hB1]; rfl); have f5 : w1.cell? ⟨w.heap.size, 5, none⟩ = some (.slice A2 un c2) := (by rw [cell_of_row _ _ _ _ _ _ hB1]; rfl); clear hk1 hB1)
  go_ret
  exact ⟨by first | rfl | (simp [*]; done) | (simp; omega), HK1.out⟩
set_option maxHeartbeats 1000000 in
theorem al_6_r (h2 : (6 : Int) = 2 ∨ sn = 0) (CR : Hid (∀ W, Kept w W → Calls Tryz.prog 96 #[.slice A1 sn c1] W fun e w' => e = .returned (.bool false) ∧ Kept W w')) :
  Calls Tryz.prog 70 #[ndV 6 A1 sn c1 mn mx lz A2 un c2] w fun e w' => e = .returned (.bool (aloneF 6 sn false mn mx lz un)) ∧ Kept w w' := by
 have hK : Kept w (w.alloc (.cells #[.int .u8 6, .slice A1 sn c1, .int .i64 mn, .int .i64 mx, .bool lz, .slice A2 un c2] 25)) := (Below.refl _ w).alloc (Nat.le_refl _) _
 have HK := Lib.hid hK
 have hb := heap_alloc_new w (.cells #[.int .u8 6, .slice A1 sn c1, .int .i64 mn, .int .i64 mx, .bool lz, .slice A2 un c2] 25)
 have Hb := Lib.hid hb
 clear hK hb
 have Hsn : ((decide ((6 : Int) ≠ 2) && decide (0 < sn)) = false) := by (rcases h2 with h | h; exact absurd h (by decide); simp [h])
 unfold aloneF
 rw [Hsn]
 clear Hsn
 rcases h2 with h2 | h2
 ·exact absurd h2 (by decide)
 ·subst h2
  go_enter Tryz.func70, Tryz.ntmps70
  go_wp2_with (go_at_call 96; refine (CR.out _ HK.out).mono ?_; rintro e w1 ⟨rfl, hk1⟩; have HK1 := Lib.hid (below_kept HK.out hk1); have hB1 := heap_kept hk1 Hb.out; have f0 : w1.cell? ⟨w.heap.size, 0, none⟩ = some (.int .u8 6) := (by rw [cell_of_row _ _ _ _ _ _ hB1]; rfl); have f1 : w1.cell? ⟨w.heap.size, 1, none⟩ = some (.slice A1 0 c1) := (by rw [cell_of_row _ _ _ _ _ _ hB1]; rfl); have f2 : w1.cell? ⟨w.heap.size, 2, none⟩ = some (.int .i64 mn) := (by rw [cell_of_row _ _ _ _ _ _ hB1]; rfl); have f3 : w1.cell? ⟨w.heap.size, 3, none⟩ = some (.int .i64 mx) := (by rw [cell_of_row _ _ _ _ _ _ hB1]; rfl); have f4 : w1.cell? ⟨w.heap.size, 4, none⟩ = some (.bool lz) := (by rw [cell_of_row _ _ _ _ _ _ hB1]; rfl); have f5 : w1.cell? ⟨w.heap.size, 5, none⟩ = some (.slice A2 un c2) := (by rw [cell_of_row _ _ _ _ _ _ hB1]; rfl); clear hk1 hB1)
  go_ret
  exact ⟨by first | rfl | (simp [*]; done) | (simp; omega), HK1.out⟩
set_option maxHeartbeats 1000000 in
theorem al_6_a (h3 : mn ≠ 0) (h2 : (6 : Int) = 2 ∨ sn = 0) (CR : Hid (∀ W, Kept w W → Calls Tryz.prog 96 #[.slice A1 sn c1] W fun e w' => e = .returned (.bool true) ∧ Kept W w')) :
  Calls Tryz.prog 70 #[ndV 6 A1 sn c1 mn mx lz A2 un c2] w fun e w' => e = .returned (.bool (aloneF 6 sn true mn mx lz un)) ∧ Kept w w' := by
 have hK : Kept w (w.alloc (.cells #[.int .u8 6, .slice A1 sn c1, .int .i64 mn, .int .i64 mx, .bool lz, .slice A2 un c2] 25)) := (Below.refl _ w).alloc (Nat.le_refl _) _
 have HK := Lib.hid hK
 have hb := heap_alloc_new w (.cells #[.int .u8 6, .slice A1 sn c1, .int .i64 mn, .int .i64 mx, .bool lz, .slice A2 un c2] 25)
 have Hb := Lib.hid hb
 clear hK hb
 have h3b : (mn != 0) = true := by rw [bne_iff_ne]; exact h3
 have Hsn : ((decide ((6 : Int) ≠ 2) && decide (0 < sn)) = false) := by (rcases h2 with h | h; exact absurd h (by decide); simp [h])
 unfold aloneF
 rw [Hsn]
 clear Hsn
 rcases h2 with h2 | h2
 ·exact absurd h2 (by decide)
 ·subst h2
  go_enter Tryz.func70, Tryz.ntmps70
  go_wp2_with (go_at_call 96; refine (CR.out _ HK.out).mono ?_; rintro e w1 ⟨rfl, hk1⟩; have HK1 := Lib.hid (below_kept HK.out hk1); have hB1 := heap_kept hk1 Hb.out; have f0 : w1.cell? ⟨w.heap.size, 0, none⟩ = some (.int .u8 6) := (by rw [cell_of_row _ _ _ _ _ _ hB1]; rfl); have f1 : w1.cell? ⟨w.heap.size, 1, none⟩ = some (.slice A1 0 c1) := (by rw [cell_of_row _ _ _ _ _ _ hB1]; rfl); have f2 : w1.cell? ⟨w.heap.size, 2, none⟩ = some (.int .i64 mn) := (by rw [cell_of_row _ _ _ _ _ _ hB1]; rfl); have f3 : w1.cell? ⟨w.heap.size, 3, none⟩ = some (.int .i64 mx) := (by rw [cell_of_row _ _ _ _ _ _ hB1]; rfl); have f4 : w1.cell? ⟨w.heap.size, 4, none⟩ = some (.bool lz) := (by rw [cell_of_row _ _ _ _ _ _ hB1]; rfl); have f5 : w1.cell? ⟨w.heap.size, 5, none⟩ = some (.slice A2 un c2) := (by rw [cell_of_row _ _ _ _ _ _ hB1]; rfl); clear hk1 hB1)
  go_ret
  exact ⟨by first | rfl | (simp [*]; done) | (simp; omega), HK1.out⟩
set_option maxHeartbeats 1000000 in
theorem al_6_b (h3 : mx ≠ 0) (h2 : (6 : Int) = 2 ∨ sn = 0) (CR : Hid (∀ W, Kept w W → Calls Tryz.prog 96 #[.slice A1 sn c1] W fun e w' => e = .returned (.bool true) ∧ Kept W w')) :
  Calls Tryz.prog 70 #[ndV 6 A1 sn c1 0 mx lz A2 un c2] w fun e w' => e = .returned (.bool (aloneF 6 sn true 0 mx lz un)) ∧ Kept w w' := by
 have hK : Kept w (w.alloc (.cells #[.int .u8 6, .slice A1 sn c1, .int .i64 0, .int .i64 mx, .bool lz, .slice A2 un c2] 25)) := (Below.refl _ w).alloc (Nat.le_refl _) _
 have HK := Lib.hid hK
 have hb := heap_alloc_new w (.cells #[.int .u8 6, .slice A1 sn c1, .int .i64 0, .int .i64 mx, .bool lz, .slice A2 un c2] 25)
 have Hb := Lib.hid hb
 clear hK hb
 have h3b : (mx != 0) = true := by rw [bne_iff_ne]; exact h3
 have Hsn : ((decide ((6 : Int) ≠ 2) && decide (0 < sn)) = false) := by (rcases h2 with h | h; exact absurd h (by decide); simp [h])
 unfold aloneF
 rw [Hsn]
 clear Hsn
 rcases h2 with h2 | h2
 ·exact absurd h2 (by decide)
 ·subst h2
  go_enter Tryz.func70, Tryz.ntmps70
  go_wp2_with (go_at_call 96; refine (CR.out _ HK.out).mono ?_; rintro e w1 ⟨rfl, hk1⟩; have HK1 := Lib.hid (below_kept HK.out hk1); have hB1 := heap_kept hk1 Hb.out; have f0 : w1.cell? ⟨w.heap.size, 0, none⟩ = some (.int .u8 6) := (by rw [cell_of_row _ _ _ _ _ _ hB1]; rfl); have f1 : w1.cell? ⟨w.heap.size, 1, none⟩ = some (.slice A1 0 c1) := (by rw [cell_of_row _ _ _ _ _ _ hB1]; rfl); have f2 : w1.cell? ⟨w.heap.size, 2, none⟩ = some (.int .i64 0) := (by rw [cell_of_row _ _ _ _ _ _ hB1]; rfl); have f3 : w1.cell? ⟨w.heap.size, 3, none⟩ = some (.int .i64 mx) := (by rw [cell_of_row _ _ _ _ _ _ hB1]; rfl); have f4 : w1.cell? ⟨w.heap.size, 4, none⟩ = some (.bool lz) := (by rw [cell_of_row _ _ _ _ _ _ hB1]; rfl); have f5 : w1.cell? ⟨w.heap.size, 5, none⟩ = some (.slice A2 un c2) := (by rw [cell_of_row _ _ _ _ _ _ hB1]; rfl); clear hk1 hB1)
  go_ret
  exact ⟨by first | rfl | (simp [*]; done) | (simp; omega), HK1.out⟩
set_option maxHeartbeats 1000000 in
theorem al_6_c (h2 : (6 : Int) = 2 ∨ sn = 0) (CR : Hid (∀ W, Kept w W → Calls Tryz.prog 96 #[.slice A1 sn c1] W fun e w' => e = .returned (.bool true) ∧ Kept W w')) :
  Calls Tryz.prog 70 #[ndV 6 A1 sn c1 0 0 true A2 un c2] w fun e w' => e = .returned (.bool (aloneF 6 sn true 0 0 true un)) ∧ Kept w w' := by
 have hK : Kept w (w.alloc (.cells #[.int .u8 6, .slice A1 sn c1, .int .i64 0, .int .i64 0, .bool true, .slice A2 un c2] 25)) := (Below.refl _ w).alloc (Nat.le_refl _) _
 have HK := Lib.hid hK
 have hb := heap_alloc_new w (.cells #[.int .u8 6, .slice A1 sn c1, .int .i64 0, .int .i64 0, .bool true, .slice A2 un c2] 25)
 have Hb := Lib.hid hb
 clear hK hb
 have Hsn : ((decide ((6 : Int) ≠ 2) && decide (0 < sn)) = false) := by (rcases h2 with h | h; exact absurd h (by decide); simp [h])
 unfold aloneF
 rw [Hsn]
 clear Hsn
 rcases h2 with h2 | h2
 ·exact absurd h2 (by decide)
 ·subst h2
  go_enter Tryz.func70, Tryz.ntmps70
  go_wp2_with (go_at_call 96; refine (CR.out _ HK.out).mono ?_; rintro e w1 ⟨rfl, hk1⟩; have HK1 := Lib.hid (below_kept HK.out hk1); have hB1 := heap_kept hk1 Hb.out; have f0 : w1.cell? ⟨w.heap.size, 0, none⟩ = some (.int .u8 6) := (by rw [cell_of_row _ _ _ _ _ _ hB1]; rfl); have f1 : w1.cell? ⟨w.heap.size, 1, none⟩ = some (.slice A1 0 c1) := (by rw [cell_of_row _ _ _ _ _ _ hB1]; rfl); have f2 : w1.cell? ⟨w.heap.size, 2, none⟩ = some (.int .i64 0) := (by rw [cell_of_row _ _ _ _ _ _ hB1]; rfl); have f3 : w1.cell? ⟨w.heap.size, 3, none⟩ = some (.int .i64 0) := (by rw [cell_of_row _ _ _ _ _ _ hB1]; rfl); have f4 : w1.cell? ⟨w.heap.size, 4, none⟩ = some (.bool true) := (by rw [cell_of_row _ _ _ _ _ _ hB1]; rfl); have f5 : w1.cell? ⟨w.heap.size, 5, none⟩ = some (.slice A2 un c2) := (by rw [cell_of_row _ _ _ _ _ _ hB1]; rfl); clear hk1 hB1)
  go_ret
  exact ⟨by first | rfl | (simp [*]; done) | (simp; omega), HK1.out⟩
set_option maxHeartbeats 1000000 in
theorem al_6_d (h2 : (6 : Int) = 2 ∨ sn = 0) (CR : Hid (∀ W, Kept w W → Calls Tryz.prog 96 #[.slice A1 sn c1] W fun e w' => e = .returned (.bool true) ∧ Kept W w')) :
  Calls Tryz.prog 70 #[ndV 6 A1 sn c1 0 0 false A2 1 c2] w fun e w' => e = .returned (.bool (aloneF 6 sn true 0 0 false 1)) ∧ Kept w w' := by
 have hK : Kept w (w.alloc (.cells #[.int .u8 6, .slice A1 sn c1, .int .i64 0, .int .i64 0, .bool false, .slice A2 1 c2] 25)) := (Below.refl _ w).alloc (Nat.le_refl _) _
 have HK := Lib.hid hK
 have hb := heap_alloc_new w (.cells #[.int .u8 6, .slice A1 sn c1, .int .i64 0, .int .i64 0, .bool false, .slice A2 1 c2] 25)
 have Hb := Lib.hid hb
 clear hK hb
 have Hsn : ((decide ((6 : Int) ≠ 2) && decide (0 < sn)) = false) := by (rcases h2 with h | h; exact absurd h (by decide); simp [h])
 unfold aloneF
 rw [Hsn]
 clear Hsn
 rcases h2 with h2 | h2
 ·exact absurd h2 (by decide)
 ·subst h2
  go_enter Tryz.func70, Tryz.ntmps70
  go_wp2_with (go_at_call 96; refine (CR.out _ HK.out).mono ?_; rintro e w1 ⟨rfl, hk1⟩; have HK1 := Lib.hid (below_kept HK.out hk1); have hB1 := heap_kept hk1 Hb.out; have f0 : w1.cell? ⟨w.heap.size, 0, none⟩ = some (.int .u8 6) := (by rw [cell_of_row _ _ _ _ _ _ hB1]; rfl); have f1 : w1.cell? ⟨w.heap.size, 1, none⟩ = some (.slice A1 0 c1) := (by rw [cell_of_row _ _ _ _ _ _ hB1]; rfl); have f2 : w1.cell? ⟨w.heap.size, 2, none⟩ = some (.int .i64 0) := (by rw [cell_of_row _ _ _ _ _ _ hB1]; rfl); have f3 : w1.cell? ⟨w.heap.size, 3, none⟩ = some (.int .i64 0) := (by rw [cell_of_row _ _ _ _ _ _ hB1]; rfl); have f4 : w1.cell? ⟨w.heap.size, 4, none⟩ = some (.bool false) := (by rw [cell_of_row _ _ _ _ _ _ hB1]; rfl); have f5 : w1.cell? ⟨w.heap.size, 5, none⟩ = some (.slice A2 1 c2) := (by rw [cell_of_row _ _ _ _ _ _ hB1]; rfl); clear hk1 hB1)
  go_ret
  exact ⟨by first | rfl | (simp [*]; done) | (simp; omega), HK1.out⟩
set_option maxHeartbeats 1000000 in
theorem al_6_e (h4 : un ≠ 1) (h2 : (6 : Int) = 2 ∨ sn = 0) (CR : Hid (∀ W, Kept w W → Calls Tryz.prog 96 #[.slice A1 sn c1] W fun e w' => e = .returned (.bool true) ∧ Kept W w')) :
  Calls Tryz.prog 70 #[ndV 6 A1 sn c1 0 0 false A2 un c2] w fun e w' => e = .returned (.bool (aloneF 6 sn true 0 0 false un)) ∧ Kept w w' := by
 have hK : Kept w (w.alloc (.cells #[.int .u8 6, .slice A1 sn c1, .int .i64 0, .int .i64 0, .bool false, .slice A2 un c2] 25)) := (Below.refl _ w).alloc (Nat.le_refl _) _
 have HK := Lib.hid hK
 have hb := heap_alloc_new w (.cells #[.int .u8 6, .slice A1 sn c1, .int .i64 0, .int .i64 0, .bool false, .slice A2 un c2] 25)
 have Hb := Lib.hid hb
 clear hK hb
 have h4b : ((un : Int) == 1) = false := by rw [beq_eq_false_iff_ne]; omega
 have Hsn : ((decide ((6 : Int) ≠ 2) && decide (0 < sn)) = false) := by (rcases h2 with h | h; exact absurd h (by decide); simp [h])
 unfold aloneF
 rw [Hsn]
 clear Hsn
 rcases h2 with h2 | h2
 ·exact absurd h2 (by decide)
 ·subst h2
  go_enter Tryz.func70, Tryz.ntmps70
  go_wp2_with (go_at_call 96; refine (CR.out _ HK.out).mono ?_; rintro e w1 ⟨rfl, hk1⟩; have HK1 := Lib.hid (below_kept HK.out hk1); have hB1 := heap_kept hk1 Hb.out; have f0 : w1.cell? ⟨w.heap.size, 0, none⟩ = some (.int .u8 6) := (by rw [cell_of_row _ _ _ _ _ _ hB1]; rfl); have f1 : w1.cell? ⟨w.heap.size, 1, none⟩ = some (.slice A1 0 c1) := (by rw [cell_of_row _ _ _ _ _ _ hB1]; rfl); have f2 : w1.cell? ⟨w.heap.size, 2, none⟩ = some (.int .i64 0) := (by rw [cell_of_row _ _ _ _ _ _ hB1]; rfl); have f3 : w1.cell? ⟨w.heap.size, 3, none⟩ = some (.int .i64 0) := (by rw [cell_of_row _ _ _ _ _ _ hB1]; rfl); have f4 : w1.cell? ⟨w.heap.size, 4, none⟩ = some (.bool false) := (by rw [cell_of_row _ _ _ _ _ _ hB1]; rfl); have f5 : w1.cell? ⟨w.heap.size, 5, none⟩ = some (.slice A2 un c2) := (by rw [cell_of_row _ _ _ _ _ _ hB1]; rfl); clear hk1 hB1)
  go_ret
  exact ⟨by first | rfl | (simp [*]; done) | (simp; omega), HK1.out⟩
set_option maxHeartbeats 1000000 in
theorem al_o_r (ho : k ≠ 1 ∧ k ≠ 2 ∧ k ≠ 3 ∧ k ≠ 4 ∧ k ≠ 5 ∧ k ≠ 6) (h2 : (k : Int) = 2 ∨ sn = 0) (CR : Hid (∀ W, Kept w W → Calls Tryz.prog 96 #[.slice A1 sn c1] W fun e w' => e = .returned (.bool false) ∧ Kept W w')) :
  Calls Tryz.prog 70 #[ndV k A1 sn c1 mn mx lz A2 un c2] w fun e w' => e = .returned (.bool (aloneF k sn false mn mx lz un)) ∧ Kept w w' := by
 have hK : Kept w (w.alloc (.cells #[.int .u8 k, .slice A1 sn c1, .int .i64 mn, .int .i64 mx, .bool lz, .slice A2 un c2] 25)) := (Below.refl _ w).alloc (Nat.le_refl _) _
 have HK := Lib.hid hK
 have hb := heap_alloc_new w (.cells #[.int .u8 k, .slice A1 sn c1, .int .i64 mn, .int .i64 mx, .bool lz, .slice A2 un c2] 25)
 have Hb := Lib.hid hb
 clear hK hb
 have o1 : (k == 1) = false := by rw [beq_eq_false_iff_ne]; omega
 have p1 : (k != 1) = true := by rw [bne_iff_ne]; omega
 have o2 : (k == 2) = false := by rw [beq_eq_false_iff_ne]; omega
 have p2 : (k != 2) = true := by rw [bne_iff_ne]; omega
 have o3 : (k == 3) = false := by rw [beq_eq_false_iff_ne]; omega
 have p3 : (k != 3) = true := by rw [bne_iff_ne]; omega
 have o4 : (k == 4) = false := by rw [beq_eq_false_iff_ne]; omega
 have p4 : (k != 4) = true := by rw [bne_iff_ne]; omega
 have o5 : (k == 5) = false := by rw [beq_eq_false_iff_ne]; omega
 have p5 : (k != 5) = true := by rw [bne_iff_ne]; omega
 have o6 : (k == 6) = false := by rw [beq_eq_false_iff_ne]; omega
 have p6 : (k != 6) = true := by rw [bne_iff_ne]; omega
 have Hsn : ((decide ((k : Int) ≠ 2) && decide (0 < sn)) = false) := by (rcases h2 with h | h; exact absurd h ho.2.1; simp [h])
 unfold aloneF
 rw [Hsn]
 clear Hsn
 rcases h2 with h2 | h2
 ·exact absurd h2 ho.2.1
 ·subst h2
  go_enter Tryz.func70, Tryz.ntmps70
  go_wp2_with (go_at_call 96; refine (CR.out _ HK.out).mono ?_; rintro e w1 ⟨rfl, hk1⟩; have HK1 := Lib.hid (below_kept HK.out hk1); have hB1 := heap_kept hk1 Hb.out; have f0 : w1.cell? ⟨w.heap.size, 0, none⟩ = some (.int .u8 k) := (by rw [cell_of_row _ _ _ _ _ _ hB1]; rfl); have f1 : w1.cell? ⟨w.heap.size, 1, none⟩ = some (.slice A1 0 c1) := (by rw [cell_of_row _ _ _ _ _ _ hB1]; rfl); have f2 : w1.cell? ⟨w.heap.size, 2, none⟩ = some (.int .i64 mn) := (by rw [cell_of_row _ _ _ _ _ _ hB1]; rfl); have f3 : w1.cell? ⟨w.heap.size, 3, none⟩ = some (.int .i64 mx) := (by rw [cell_of_row _ _ _ _ _ _ hB1]; rfl); have f4 : w1.cell? ⟨w.heap.size, 4, none⟩ = some (.bool lz) := (by rw [cell_of_row _ _ _ _ _ _ hB1]; rfl); have f5 : w1.cell? ⟨w.heap.size, 5, none⟩ = some (.slice A2 un c2) := (by rw [cell_of_row _ _ _ _ _ _ hB1]; rfl); clear hk1 hB1)
  go_ret
  exact ⟨by first | rfl | (simp [*]; done) | (simp; omega), HK1.out⟩
set_option maxHeartbeats 1000000 in
theorem al_o_a (ho : k ≠ 1 ∧ k ≠ 2 ∧ k ≠ 3 ∧ k ≠ 4 ∧ k ≠ 5 ∧ k ≠ 6) (h3 : mn ≠ 0) (h2 : (k : Int) = 2 ∨ sn = 0) (CR : Hid (∀ W, Kept w W → Calls Tryz.prog 96 #[.slice A1 sn c1] W fun e w' => e = .returned (.bool true) ∧ Kept W w')) :
  Calls Tryz.prog 70 #[ndV k A1 sn c1 mn mx lz A2 un c2] w fun e w' => e = .returned (.bool (aloneF k sn true mn mx lz un)) ∧ Kept w w' := by
 have hK : Kept w (w.alloc (.cells #[.int .u8 k, .slice A1 sn c1, .int .i64 mn, .int .i64 mx, .bool lz, .slice A2 un c2] 25)) := (Below.refl _ w).alloc (Nat.le_refl _) _
 have HK := Lib.hid hK
 have hb := heap_alloc_new w (.cells #[.int .u8 k, .slice A1 sn c1, .int .i64 mn, .int .i64 mx, .bool lz, .slice A2 un c2] 25)
 have Hb := Lib.hid hb
 clear hK hb
 have o1 : (k == 1) = false := by rw [beq_eq_false_iff_ne]; omega
 have p1 : (k != 1) = true := by rw [bne_iff_ne]; omega
 have o2 : (k == 2) = false := by rw [beq_eq_false_iff_ne]; omega
 have p2 : (k != 2) = true := by rw [bne_iff_ne]; omega
 have o3 : (k == 3) = false := by rw [beq_eq_false_iff_ne]; omega
 have p3 : (k != 3) = true := by rw [bne_iff_ne]; omega
 have o4 : (k == 4) = false := by rw [beq_eq_false_iff_ne]; omega
 have p4 : (k != 4) = true := by rw [bne_iff_ne]; omega
 have o5 : (k == 5) = false := by rw [beq_eq_false_iff_ne]; omega
 have p5 : (k != 5) = true := by rw [bne_iff_ne]; omega
 have o6 : (k == 6) = false := by rw [beq_eq_false_iff_ne]; omega
 have p6 : (k != 6) = true := by rw [bne_iff_ne]; omega
 have h3b : (mn != 0) = true := by rw [bne_iff_ne]; exact h3
 have Hsn : ((decide ((k : Int) ≠ 2) && decide (0 < sn)) = false) := by (rcases h2 with h | h; exact absurd h ho.2.1; simp [h])
 unfold aloneF
 rw [Hsn]
 clear Hsn
 rcases h2 with h2 | h2
 ·exact absurd h2 ho.2.1
 ·subst h2
  go_enter Tryz.func70, Tryz.ntmps70
  go_wp2_with (go_at_call 96; refine (CR.out _ HK.out).mono ?_; rintro e w1 ⟨rfl, hk1⟩; have HK1 := Lib.hid (below_kept HK.out hk1); have hB1 := heap_kept hk1 Hb.out; have f0 : w1.cell? ⟨w.heap.size, 0, none⟩ = some (.int .u8 k) := (by rw [cell_of_row _ _ _ _ _ _ hB1]; rfl); have f1 : w1.cell? ⟨w.heap.size, 1, none⟩ = some (.slice A1 0 c1) := (by rw [cell_of_row _ _ _ _ _ _ hB1]; rfl); have f2 : w1.cell? ⟨w.heap.size, 2, none⟩ = some (.int .i64 mn) := (by rw [cell_of_row _ _ _ _ _ _ hB1]; rfl); have f3 : w1.cell? ⟨w.heap.size, 3, none⟩ = some (.int .i64 mx) := (by rw [cell_of_row _ _ _ _ _ _ hB1]; rfl); have f4 : w1.cell? ⟨w.heap.size, 4, none⟩ = some (.bool lz) := (by rw [cell_of_row _ _ _ _ _ _ hB1]; rfl); have f5 : w1.cell? ⟨w.heap.size, 5, none⟩ = some (.slice A2 un c2) := (by rw [cell_of_row _ _ _ _ _ _ hB1]; rfl); clear hk1 hB1)
  go_ret
  exact ⟨by first | rfl | (simp [*]; done) | (simp; omega), HK1.out⟩
set_option maxHeartbeats 1000000 in
theorem al_o_b (ho : k ≠ 1 ∧ k ≠ 2 ∧ k ≠ 3 ∧ k ≠ 4 ∧ k ≠ 5 ∧ k ≠ 6) (h3 : mx ≠ 0) (h2 : (k : Int) = 2 ∨ sn = 0) (CR : Hid (∀ W, Kept w W → Calls Tryz.prog 96 #[.slice A1 sn c1] W fun e w' => e = .returned (.bool true) ∧ Kept W w')) :
  Calls Tryz.prog 70 #[ndV k A1 sn c1 0 mx lz A2 un c2] w fun e w' => e = .returned (.bool (aloneF k sn true 0 mx lz un)) ∧ Kept w w' := by
 have hK : Kept w (w.alloc (.cells #[.int .u8 k, .slice A1 sn c1, .int .i64 0, .int .i64 mx, .bool lz, .slice A2 un c2] 25)) := (Below.refl _ w).alloc (Nat.le_refl _) _
 have HK := Lib.hid hK
 have hb := heap_alloc_new w (.cells #[.int .u8 k, .slice A1 sn c1, .int .i64 0, .int .i64 mx, .bool lz, .slice A2 un c2] 25)
 have Hb := Lib.hid hb
 clear hK hb
 have o1 : (k == 1) = false := by rw [beq_eq_false_iff_ne]; omega
 have p1 : (k != 1) = true := by rw [bne_iff_ne]; omega
 have o2 : (k == 2) = false := by rw [beq_eq_false_iff_ne]; omega
 have p2 : (k != 2) = true := by rw [bne_iff_ne]; omega
 have o3 : (k == 3) = false := by rw [beq_eq_false_iff_ne]; omega
 have p3 : (k != 3) = true := by rw [bne_iff_ne]; omega
 have o4 : (k == 4) = false := by rw [beq_eq_false_iff_ne]; omega
 have p4 : (k != 4) = true := by rw [bne_iff_ne]; omega
 have o5 : (k == 5) = false := by rw [beq_eq_false_iff_ne]; omega
 have p5 : (k != 5) = true := by rw [bne_iff_ne]; omega
 have o6 : (k == 6) = false := by rw [beq_eq_false_iff_ne]; omega
 have p6 : (k != 6) = true := by rw [bne_iff_ne]; omega
 have h3b : (mx != 0) = true := by rw [bne_iff_ne]; exact h3
 have Hsn : ((decide ((k : Int) ≠ 2) && decide (0 < sn)) = false) := by (rcases h2 with h | h; exact absurd h ho.2.1; simp [h])
 unfold aloneF
 rw [Hsn]
 clear Hsn
 rcases h2 with h2 | h2
 ·exact absurd h2 ho.2.1
 ·subst h2
  go_enter Tryz.func70, Tryz.ntmps70
  go_wp2_with (go_at_call 96; refine (CR.out _ HK.out).mono ?_; rintro e w1 ⟨rfl, hk1⟩; have HK1 := Lib.hid (below_kept HK.out hk1); have hB1 := heap_kept hk1 Hb.out; have f0 : w1.cell? ⟨w.heap.size, 0, none⟩ = some (.int .u8 k) := (by rw [cell_of_row _ _ _ _ _ _ hB1]; rfl); have f1 : w1.cell? ⟨w.heap.size, 1, none⟩ = some (.slice A1 0 c1) := (by rw [cell_of_row _ _ _ _ _ _ hB1]; rfl); have f2 : w1.cell? ⟨w.heap.size, 2, none⟩ = some (.int .i64 0) := (by rw [cell_of_row _ _ _ _ _ _ hB1]; rfl); have f3 : w1.cell? ⟨w.heap.size, 3, none⟩ = some (.int .i64 mx) := (by rw [cell_of_row _ _ _ _ _ _ hB1]; rfl); have f4 : w1.cell? ⟨w.heap.size, 4, none⟩ = some (.bool lz) := (by rw [cell_of_row _ _ _ _ _ _ hB1]; rfl); have f5 : w1.cell? ⟨w.heap.size, 5, none⟩ = some (.slice A2 un c2) := (by rw [cell_of_row _ _ _ _ _ _ hB1]; rfl); clear hk1 hB1)
  go_ret
  exact ⟨by first | rfl | (simp [*]; done) | (simp; omega), HK1.out⟩
set_option maxHeartbeats 1000000 in
theorem al_o_c (ho : k ≠ 1 ∧ k ≠ 2 ∧ k ≠ 3 ∧ k ≠ 4 ∧ k ≠ 5 ∧ k ≠ 6) (h2 : (k : Int) = 2 ∨ sn = 0) (CR : Hid (∀ W, Kept w W → Calls Tryz.prog 96 #[.slice A1 sn c1] W fun e w' => e = .returned (.bool true) ∧ Kept W w')) :
  Calls Tryz.prog 70 #[ndV k A1 sn c1 0 0 true A2 un c2] w fun e w' => e = .returned (.bool (aloneF k sn true 0 0 true un)) ∧ Kept w w' := by
 have hK : Kept w (w.alloc (.cells #[.int .u8 k, .slice A1 sn c1, .int .i64 0, .int .i64 0, .bool true, .slice A2 un c2] 25)) := (Below.refl _ w).alloc (Nat.le_refl _) _
 have HK := Lib.hid hK
 have hb := heap_alloc_new w (.cells #[.int .u8 k, .slice A1 sn c1, .int .i64 0, .int .i64 0, .bool true, .slice A2 un c2] 25)
 have Hb := Lib.hid hb
 clear hK hb
 have o1 : (k == 1) = false := by rw [beq_eq_false_iff_ne]; omega
 have p1 : (k != 1) = true := by rw [bne_iff_ne]; omega
 have o2 : (k == 2) = false := by rw [beq_eq_false_iff_ne]; omega
 have p2 : (k != 2) = true := by rw [bne_iff_ne]; omega
 have o3 : (k == 3) = false := by rw [beq_eq_false_iff_ne]; omega
 have p3 : (k != 3) = true := by rw [bne_iff_ne]; omega
 have o4 : (k == 4) = false := by rw [beq_eq_false_iff_ne]; omega
 have p4 : (k != 4) = true := by rw [bne_iff_ne]; omega
 have o5 : (k == 5) = false := by rw [beq_eq_false_iff_ne]; omega
 have p5 : (k != 5) = true := by rw [bne_iff_ne]; omega
 have o6 : (k == 6) = false := by rw [beq_eq_false_iff_ne]; omega
 have p6 : (k != 6) = true := by rw [bne_iff_ne]; omega
 have Hsn : ((decide ((k : Int) ≠ 2) && decide (0 < sn)) = false) := by (rcases h2 with h | h; exact absurd h ho.2.1; simp [h])
 unfold aloneF
 rw [Hsn]
 clear Hsn
 rcases h2 with h2 | h2
 ·exact absurd h2 ho.2.1
 ·subst h2
  go_enter Tryz.func70, Tryz.ntmps70
  go_wp2_with (go_at_call 96; refine (CR.out _ HK.out).mono ?_; rintro e w1 ⟨rfl, hk1⟩; have HK1 := Lib.hid (below_kept HK.out hk1); have hB1 := heap_kept hk1 Hb.out; have f0 : w1.cell? ⟨w.heap.size, 0, none⟩ = some (.int .u8 k) := (by rw [cell_of_row _ _ _ _ _ _ hB1]; rfl); have f1 : w1.cell? ⟨w.heap.size, 1, none⟩ = some (.slice A1 0 c1) := (by rw [cell_of_row _ _ _ _ _ _ hB1]; rfl); have f2 : w1.cell? ⟨w.heap.size, 2, none⟩ = some (.int .i64 0) := (by rw [cell_of_row _ _ _ _ _ _ hB1]; rfl); have f3 : w1.cell? ⟨w.heap.size, 3, none⟩ = some (.int .i64 0) := (by rw [cell_of_row _ _ _ _ _ _ hB1]; rfl); have f4 : w1.cell? ⟨w.heap.size, 4, none⟩ = some (.bool true) := (by rw [cell_of_row _ _ _ _ _ _ hB1]; rfl); have f5 : w1.cell? ⟨w.heap.size, 5, none⟩ = some (.slice A2 un c2) := (by rw [cell_of_row _ _ _ _ _ _ hB1]; rfl); clear hk1 hB1)
  go_ret
  exact ⟨by first | rfl | (simp [*]; done) | (simp; omega), HK1.out⟩
set_option maxHeartbeats 1000000 in
theorem al_o_d (ho : k ≠ 1 ∧ k ≠ 2 ∧ k ≠ 3 ∧ k ≠ 4 ∧ k ≠ 5 ∧ k ≠ 6) (h2 : (k : Int) = 2 ∨ sn = 0) (CR : Hid (∀ W, Kept w W → Calls Tryz.prog 96 #[.slice A1 sn c1] W fun e w' => e = .returned (.bool true) ∧ Kept W w')) :
  Calls Tryz.prog 70 #[ndV k A1 sn c1 0 0 false A2 un c2] w fun e w' => e = .returned (.bool (aloneF k sn true 0 0 false un)) ∧ Kept w w' := by
 have hK : Kept w (w.alloc (.cells #[.int .u8 k, .slice A1 sn c1, .int .i64 0, .int .i64 0, .bool false, .slice A2 un c2] 25)) := (Below.refl _ w).alloc (Nat.le_refl _) _
 have HK := Lib.hid hK
 have hb := heap_alloc_new w (.cells #[.int .u8 k, .slice A1 sn c1, .int .i64 0, .int .i64 0, .bool false, .slice A2 un c2] 25)
 have Hb := Lib.hid hb
 clear hK hb
 have o1 : (k == 1) = false := by rw [beq_eq_false_iff_ne]; omega
 have p1 : (k != 1) = true := by rw [bne_iff_ne]; omega
 have o2 : (k == 2) = false := by rw [beq_eq_false_iff_ne]; omega
 have p2 : (k != 2) = true := by rw [bne_iff_ne]; omega
 have o3 : (k == 3) = false := by rw [beq_eq_false_iff_ne]; omega
 have p3 : (k != 3) = true := by rw [bne_iff_ne]; omega
 have o4 : (k == 4) = false := by rw [beq_eq_false_iff_ne]; omega
 have p4 : (k != 4) = true := by rw [bne_iff_ne]; omega
 have o5 : (k == 5) = false := by rw [beq_eq_false_iff_ne]; omega
 have p5 : (k != 5) = true := by rw [bne_iff_ne]; omega
 have o6 : (k == 6) = false := by rw [beq_eq_false_iff_ne]; omega
 have p6 : (k != 6) = true := by rw [bne_iff_ne]; omega
 have Hsn : ((decide ((k : Int) ≠ 2) && decide (0 < sn)) = false) := by (rcases h2 with h | h; exact absurd h ho.2.1; simp [h])
 unfold aloneF
 rw [Hsn]
 clear Hsn
 rcases h2 with h2 | h2
 ·exact absurd h2 ho.2.1
 ·subst h2
  go_enter Tryz.func70, Tryz.ntmps70
  go_wp2_with (go_at_call 96; refine (CR.out _ HK.out).mono ?_; rintro e w1 ⟨rfl, hk1⟩; have HK1 := Lib.hid (below_kept HK.out hk1); have hB1 := heap_kept hk1 Hb.out; have f0 : w1.cell? ⟨w.heap.size, 0, none⟩ = some (.int .u8 k) := (by rw [cell_of_row _ _ _ _ _ _ hB1]; rfl); have f1 : w1.cell? ⟨w.heap.size, 1, none⟩ = some (.slice A1 0 c1) := (by rw [cell_of_row _ _ _ _ _ _ hB1]; rfl); have f2 : w1.cell? ⟨w.heap.size, 2, none⟩ = some (.int .i64 0) := (by rw [cell_of_row _ _ _ _ _ _ hB1]; rfl); have f3 : w1.cell? ⟨w.heap.size, 3, none⟩ = some (.int .i64 0) := (by rw [cell_of_row _ _ _ _ _ _ hB1]; rfl); have f4 : w1.cell? ⟨w.heap.size, 4, none⟩ = some (.bool false) := (by rw [cell_of_row _ _ _ _ _ _ hB1]; rfl); have f5 : w1.cell? ⟨w.heap.size, 5, none⟩ = some (.slice A2 un c2) := (by rw [cell_of_row _ _ _ _ _ _ hB1]; rfl); clear hk1 hB1)
  go_ret
  exact ⟨by first | rfl | (simp [*]; done) | (simp; omega), HK1.out⟩
theorem alone_rt (rt : Bool) (h2 : k = 2 ∨ sn = 0) (CR : Hid (∀ W, Kept w W → Calls Tryz.prog 96 #[.slice A1 sn c1] W fun e w' => e = .returned (.bool rt) ∧ Kept W w')) :
  Calls Tryz.prog 70 #[ndV k A1 sn c1 mn mx lz A2 un c2] w fun e w' => e = .returned (.bool (aloneF k sn rt mn mx lz un)) ∧ Kept w w' := by
 by_cases k1 : k = 1
 ·subst k1
  cases rt
  ·apply al_1_r <;> assumption
  ·by_cases a : mn = 0
   ·subst a
    by_cases b : mx = 0
    ·subst b
     cases lz
     ·by_cases c : un = 0
      ·subst c; apply al_1_d <;> assumption
      ·apply al_1_e <;> assumption
     ·apply al_1_c <;> assumption
    ·apply al_1_b <;> assumption
   ·apply al_1_a <;> assumption
 by_cases k2 : k = 2
 ·subst k2
  cases rt
  ·apply al_2_r <;> assumption
  ·by_cases a : mn = 0
   ·subst a
    by_cases b : mx = 0
    ·subst b
     cases lz
     ·by_cases c : un = 0
      ·subst c; apply al_2_d <;> assumption
      ·apply al_2_e <;> assumption
     ·apply al_2_c <;> assumption
    ·apply al_2_b <;> assumption
   ·apply al_2_a <;> assumption
 by_cases k3 : k = 3
 ·subst k3
  cases rt
  ·apply al_3_r <;> assumption
  ·by_cases a : mn = 0
   ·subst a
    by_cases b : mx = 0
    ·subst b
     cases lz
     ·by_cases c : 2 ≤ un
      ·apply al_3_d <;> assumption
      ·apply al_3_e <;> assumption
     ·apply al_3_c <;> assumption
    ·apply al_3_b <;> assumption
   ·apply al_3_a <;> assumption
 by_cases k4 : k = 4
 ·subst k4
  cases rt
  ·apply al_4_r <;> assumption
  ·by_cases a : mn = 0
   ·subst a
    by_cases b : mx = 0
    ·subst b
     cases lz
     ·by_cases c : 2 ≤ un
      ·apply al_4_d <;> assumption
      ·apply al_4_e <;> assumption
     ·apply al_4_c <;> assumption
    ·apply al_4_b <;> assumption
   ·apply al_4_a <;> assumption
 by_cases k6 : k = 6
 ·subst k6
  cases rt
  ·apply al_6_r <;> assumption
  ·by_cases a : mn = 0
   ·subst a
    by_cases b : mx = 0
    ·subst b
     cases lz
     ·by_cases c : un = 1
      ·subst c; apply al_6_d <;> assumption
      ·apply al_6_e <;> assumption
     ·apply al_6_c <;> assumption
    ·apply al_6_b <;> assumption
   ·apply al_6_a <;> assumption
 by_cases k5 : k = 5
 ·subst k5
  cases rt
  ·apply al_5_r <;> assumption
  ·by_cases c : un = 1
   ·subst c; apply al_5_d <;> assumption
   ·apply al_5_e <;> assumption
 have ho : k ≠ 1 ∧ k ≠ 2 ∧ k ≠ 3 ∧ k ≠ 4 ∧ k ≠ 5 ∧ k ≠ 6 := ⟨k1, k2, k3, k4, k5, k6⟩
 cases rt
 ·apply al_o_r <;> assumption
 ·by_cases a : mn = 0
  ·subst a
   by_cases b : mx = 0
   ·subst b
    cases lz
    ·apply al_o_d <;> assumption
    ·apply al_o_c <;> assumption
   ·apply al_o_b <;> assumption
  ·apply al_o_a <;> assumption
/-- ALONE: whether a node is right alone. -/
theorem alone_any (set : List Rng) (hL : set.length ≤ 4611686018427387904) (hr : RdR w w.heap.size A1 set) :
  Calls Tryz.prog 70 #[ndV k A1 set.length c1 mn mx lz A2 un c2] w fun e w' => e = .returned (.bool (aloneF k set.length (rgtR 0 set) mn mx lz un)) ∧ Kept w w' := by
 by_cases h : k ≠ 2 ∧ 0 < set.length
 ·have e : aloneF k set.length (rgtR 0 set) mn mx lz un = false := by unfold aloneF; rw [if_pos (by simp [h.1, h.2])]
  rw [e]
  exact alone_no1 k A1 set.length c1 mn mx lz A2 un c2 w h.1 h.2
 ·exact alone_rt k A1 set.length c1 mn mx lz A2 un c2 w _ (by omega) (fun W hW => cright_any A1 c1 set hL W (rd_kept hW hr))
end
end Go.Proofs.YtmgkdmbifecekaaGreatDoor
