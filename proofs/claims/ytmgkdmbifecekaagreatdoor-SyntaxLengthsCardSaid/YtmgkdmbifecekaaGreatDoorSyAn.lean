/-
 Package syntax: what parts say together (and).
-/
import Derived.Test.YtmgkdmbifecekaaGreatDoorMlal
import Derived.Test.YtmgkdmbifecekaaGreatDoorMlai
import Derived.Deep.RegionHeld3
import Derived.Deep.CutBlock
import Derived.Deep.DeepCutAuto
set_option linter.all false
set_option linter.unusedSimpArgs false
set_option linter.unusedVariables false
set_option linter.unusedSectionVars false
namespace Go.Proofs.YtmgkdmbifecekaaGreatDoor
open Go.RowKit Go.Shelf
set_option maxRecDepth 10000 in
set_option maxHeartbeats 4000000 in
theorem and_no (d1 g1 l1 m1 : Int) (e1 o1 : Bool) (d2 g2 l2 m2 : Int) (e2 o2 : Bool) (kind : Int) (hg1 : 0 ≤ g1 ∧ g1 ≤ 1073741824) (hl1 : 0 ≤ l1 ∧ l1 ≤ 1073741824) (hg2 : 0 ≤ g2 ∧ g2 ≤ 1073741824) (hl2 : 0 ≤ l2 ∧ l2 ≤ 1073741824) (hkind : kind ≠ 4) (w : World) : Calls Tryz.prog 72 #[fctV ⟨d1, g1, l1, m1, e1, o1⟩, fctV ⟨d2, g2, l2, m2, e2, o2⟩, .int .u8 kind] w fun e w' => e = .returned (.agg #[.int .i64 (max d1 d2), .int .i64 (capI (IntKind.i64.wrap (g1 + g2))), .int .i64 (capI (IntKind.i64.wrap (l1 + l2))), .int .i64 (capI (IntKind.i64.wrap (m1 + m2))), .bool (e1 || e2), .bool (o1 || o2)]) ∧ Kept w w' := by
 obtain ⟨hg1, hg1'⟩ := hg1
 obtain ⟨hl1, hl1'⟩ := hl1
 obtain ⟨hg2, hg2'⟩ := hg2
 obtain ⟨hl2, hl2'⟩ := hl2
 have CC := Lib.hid capped_any
 unfold fctV
 dsimp only
 go_enter Tryz.func72, Tryz.ntmps72
 go_upto_region 1 with fail
 obtain ⟨W0, hW0⟩ : ∃ x, x = ((w.alloc (.cells #[.int .i64 d1, .int .i64 g1, .int .i64 l1, .int .i64 m1, .bool e1, .bool o1] 98)).alloc (.cells #[.int .i64 d2, .int .i64 g2, .int .i64 l2, .int .i64 m2, .bool e2, .bool o2] 98)).alloc (.cells #[.int .i64 0, .int .i64 0, .int .i64 0, .int .i64 0, .bool false, .bool false] 98) := ⟨_, rfl⟩
 rw [← hW0]
 have hA : W0.heap[w.heap.size]? = some (.cells #[.int .i64 d1, .int .i64 g1, .int .i64 l1, .int .i64 m1, .bool e1, .bool o1] 98 (0, 0)) := by rw [hW0]; exact (Below.heap_alloc _ _ _ (by simp; omega)).trans ((Below.heap_alloc _ _ _ (by simp)).trans (heap_alloc_new w _))
 have hB : W0.heap[w.heap.size + 1]? = some (.cells #[.int .i64 d2, .int .i64 g2, .int .i64 l2, .int .i64 m2, .bool e2, .bool o2] 98 (0, 0)) := by
  have := heap_alloc_new (w.alloc (.cells #[.int .i64 d1, .int .i64 g1, .int .i64 l1, .int .i64 m1, .bool e1, .bool o1] 98)) (.cells #[.int .i64 d2, .int .i64 g2, .int .i64 l2, .int .i64 m2, .bool e2, .bool o2] 98)
  rw [World.size_alloc] at this
  rw [hW0]
  exact (Below.heap_alloc _ _ _ (by simp)).trans this
 have hC : W0.heap[w.heap.size + 1 + 1]? = some (.cells #[.int .i64 0, .int .i64 0, .int .i64 0, .int .i64 0, .bool false, .bool false] 98 (0, 0)) := by
  have := heap_alloc_new ((w.alloc (.cells #[.int .i64 d1, .int .i64 g1, .int .i64 l1, .int .i64 m1, .bool e1, .bool o1] 98)).alloc (.cells #[.int .i64 d2, .int .i64 g2, .int .i64 l2, .int .i64 m2, .bool e2, .bool o2] 98)) (.cells #[.int .i64 0, .int .i64 0, .int .i64 0, .int .i64 0, .bool false, .bool false] 98)
  rw [World.size_alloc, World.size_alloc] at this
  rw [hW0]
  exact this
 have hK0 : Kept w W0 := by rw [hW0]; exact (((Below.refl _ w).alloc (Nat.le_refl _) _).alloc (by simp) _).alloc (by simp; omega) _
 obtain ⟨bA, hbA⟩ : ∃ b, b = w.heap.size := ⟨_, rfl⟩
 obtain ⟨bB, hbB⟩ : ∃ b, b = w.heap.size + 1 := ⟨_, rfl⟩
 obtain ⟨bC, hbC⟩ : ∃ b, b = w.heap.size + 1 + 1 := ⟨_, rfl⟩
 rw [← hbA] at hA
 rw [← hbB] at hB
 rw [← hbC] at hC
 rw [← hbC, ← hbB, ← hbA]
 have HA := Lib.hid hA
 have HB := Lib.hid hB
 have HC := Lib.hid hC
 have HK0 := Lib.hid hK0
 have hbAw : w.heap.size ≤ bA := by omega
 have hbBw : w.heap.size ≤ bB := by omega
 have hbCw : w.heap.size ≤ bC := by omega
 clear hW0 hA hB hC hK0 hbA hbB hbC
 have hk4 : (kind == 4) = false := by simp [hkind]
 have Hk : Hid (∀ W, Below W0.heap.size W0 W → (W.cell? ⟨bA, 0, none⟩ = some (.int .i64 d1) ∧ W.cell? ⟨bA, 1, none⟩ = some (.int .i64 g1) ∧ W.cell? ⟨bA, 2, none⟩ = some (.int .i64 l1) ∧ W.cell? ⟨bA, 3, none⟩ = some (.int .i64 m1) ∧ W.cell? ⟨bA, 4, none⟩ = some (.bool e1) ∧ W.cell? ⟨bA, 5, none⟩ = some (.bool o1) ∧ W.cell? ⟨bB, 0, none⟩ = some (.int .i64 d2) ∧ W.cell? ⟨bB, 1, none⟩ = some (.int .i64 g2) ∧ W.cell? ⟨bB, 2, none⟩ = some (.int .i64 l2) ∧ W.cell? ⟨bB, 3, none⟩ = some (.int .i64 m2) ∧ W.cell? ⟨bB, 4, none⟩ = some (.bool e2) ∧ W.cell? ⟨bB, 5, none⟩ = some (.bool o2)) ∧ Below W0.heap.size W0 W) := by
  refine fun W h => ⟨⟨?_, ?_, ?_, ?_, ?_, ?_, ?_, ?_, ?_, ?_, ?_, ?_⟩, h⟩ <;> first | (rw [cell_of_row _ _ _ _ _ _ (heap_kept h HA.out)]; rfl) | (rw [cell_of_row _ _ _ _ _ _ (heap_kept h HB.out)]; rfl)
 have hb0 := Below.refl W0.heap.size W0
 cases e1 <;> cases o1
 case false.false =>
  refine wp_region_held_drew (S := (fun W => (W.cell? ⟨bA, 0, none⟩ = some (.int .i64 d1) ∧ W.cell? ⟨bA, 1, none⟩ = some (.int .i64 g1) ∧ W.cell? ⟨bA, 2, none⟩ = some (.int .i64 l1) ∧ W.cell? ⟨bA, 3, none⟩ = some (.int .i64 m1) ∧ W.cell? ⟨bA, 4, none⟩ = some (.bool false) ∧ W.cell? ⟨bA, 5, none⟩ = some (.bool false) ∧ W.cell? ⟨bB, 0, none⟩ = some (.int .i64 d2) ∧ W.cell? ⟨bB, 1, none⟩ = some (.int .i64 g2) ∧ W.cell? ⟨bB, 2, none⟩ = some (.int .i64 l2) ∧ W.cell? ⟨bB, 3, none⟩ = some (.int .i64 m2) ∧ W.cell? ⟨bB, 4, none⟩ = some (.bool e2) ∧ W.cell? ⟨bB, 5, none⟩ = some (.bool o2)) ∧ Below W0.heap.size W0 W)) (by kernel_rfl) ?_ (fun hHeld => ?_)
  ·exact Hk.out _ (below_drew0 hb0)
  refine tkC 0 (oi := ⟨some 8, _, _, _, _, _⟩) (v := ?_) rfl (by kernel_rfl) (fun _ _ _ h => h) (by rfl) ?_ hHeld ?_
  rotate_left
  ·(intro w hSw; obtain ⟨⟨c0, c1, c2, c3, c4, c5, c6, c7, c8, c9, c10, c11⟩, hb⟩ := hSw; refine .inl ?_; go_simp; (try with_reducible rfl))
  try simp only [pU1, pU2, pU3, pU4]
  refine tkC 1 (oi := ⟨some 9, _, _, _, _, _⟩) (v := ?_) rfl (by kernel_rfl) (fun _ _ _ h => h) (by rfl) ?_ hHeld ?_
  rotate_left
  ·(intro w hSw; obtain ⟨⟨c0, c1, c2, c3, c4, c5, c6, c7, c8, c9, c10, c11⟩, hb⟩ := hSw; refine .inl ?_; go_simp; (try with_reducible rfl))
  try simp only [pU1, pU2, pU3, pU4]
  refine tkC 2 (oi := ⟨some 10, _, _, _, _, _⟩) (v := ?_) rfl (by kernel_rfl) (fun _ _ _ h => h) (by rfl) ?_ hHeld ?_
  rotate_left
  ·(intro w hSw; obtain ⟨⟨c0, c1, c2, c3, c4, c5, c6, c7, c8, c9, c10, c11⟩, hb⟩ := hSw; refine .inl ?_; go_simp; (try with_reducible rfl))
  try simp only [pU1, pU2, pU3, pU4]
  refine tkC 3 (oi := ⟨some 11, _, _, _, _, _⟩) (v := ?_) rfl (by kernel_rfl) (fun _ _ _ h => h) (by rfl) ?_ hHeld ?_
  rotate_left
  ·(intro w hSw; obtain ⟨⟨c0, c1, c2, c3, c4, c5, c6, c7, c8, c9, c10, c11⟩, hb⟩ := hSw; refine .inl ?_; go_simp; (try with_reducible rfl))
  try simp only [pU1, pU2, pU3, pU4]
  refine tkC 4 (oi := ⟨some 12, _, _, _, _, _⟩) (v := ?_) rfl (by kernel_rfl) (fun _ _ _ h => h) (by rfl) ?_ hHeld ?_
  rotate_left
  ·(intro w hSw; obtain ⟨⟨c0, c1, c2, c3, c4, c5, c6, c7, c8, c9, c10, c11⟩, hb⟩ := hSw; refine .inl ?_; go_simp; (try with_reducible rfl))
  try simp only [pU1, pU2, pU3, pU4]
  refine tkC 5 (oi := ⟨some 13, _, _, _, _, _⟩) (v := ?_) rfl (by kernel_rfl) (fun _ _ _ h => h) (by rfl) ?_ hHeld ?_
  rotate_left
  ·(intro w hSw; obtain ⟨⟨c0, c1, c2, c3, c4, c5, c6, c7, c8, c9, c10, c11⟩, hb⟩ := hSw; refine .inl ?_; go_simp; (try with_reducible rfl))
  try simp only [pU1, pU2, pU3, pU4]
  refine tkC 6 (oi := ⟨some 14, _, _, _, _, _⟩) (v := ?_) rfl (by kernel_rfl) (fun _ _ _ h => h) (by rfl) ?_ hHeld ?_
  rotate_left
  ·(intro w hSw; obtain ⟨⟨c0, c1, c2, c3, c4, c5, c6, c7, c8, c9, c10, c11⟩, hb⟩ := hSw; refine .inl ?_; go_simp; (try with_reducible rfl))
  try simp only [pU1, pU2, pU3, pU4]
  refine tkC 7 (oi := ⟨some 15, _, _, _, _, _⟩) (v := ?_) rfl (by kernel_rfl) (fun _ _ _ h => h) (by rfl) ?_ hHeld ?_
  rotate_left
  ·(intro w hSw; obtain ⟨⟨c0, c1, c2, c3, c4, c5, c6, c7, c8, c9, c10, c11⟩, hb⟩ := hSw; refine .inl ?_; go_simp; (try with_reducible rfl))
  try simp only [pU1, pU2, pU3, pU4]
  refine tkC 8 (oi := ⟨some 16, _, _, _, _, _⟩) (v := ?_) rfl (by kernel_rfl) (fun _ _ _ h => h) (by rfl) ?_ hHeld ?_
  rotate_left
  ·(intro w hSw; obtain ⟨⟨c0, c1, c2, c3, c4, c5, c6, c7, c8, c9, c10, c11⟩, hb⟩ := hSw; refine .inl ?_; go_simp; (try with_reducible rfl))
  try simp only [pU1, pU2, pU3, pU4]
  refine tkC 9 (oi := ⟨some 17, _, _, _, _, _⟩) (v := ?_) rfl (by kernel_rfl) (fun _ _ _ h => h) (by rfl) ?_ hHeld ?_
  rotate_left
  ·(intro w hSw; obtain ⟨⟨c0, c1, c2, c3, c4, c5, c6, c7, c8, c9, c10, c11⟩, hb⟩ := hSw; refine .inl ?_; go_simp; (try with_reducible rfl))
  try simp only [pU1, pU2, pU3, pU4]
  refine tkC 10 (oi := ⟨some 18, _, _, _, _, _⟩) (v := ?_) rfl (by kernel_rfl) (fun _ _ _ h => h) (by rfl) ?_ hHeld ?_
  rotate_left
  ·intro w hSw
   apply enters
   ·go_simp
    exact ⟨rfl, rfl⟩
   ·exact CC.out _ _
  try simp only [pU1, pU2, pU3, pU4]
  refine tkC 11 (oi := ⟨some 19, _, _, _, _, _⟩) (v := ?_) rfl (by kernel_rfl) (fun _ _ _ h => h) (by rfl) ?_ hHeld ?_
  rotate_left
  ·(intro w hSw; obtain ⟨⟨c0, c1, c2, c3, c4, c5, c6, c7, c8, c9, c10, c11⟩, hb⟩ := hSw; refine .inl ?_; go_simp; (try with_reducible rfl))
  try simp only [pU1, pU2, pU3, pU4]
  refine tkC 12 (oi := ⟨some 20, _, _, _, _, _⟩) (v := ?_) rfl (by kernel_rfl) (fun _ _ _ h => h) (by rfl) ?_ hHeld ?_
  rotate_left
  ·(intro w hSw; obtain ⟨⟨c0, c1, c2, c3, c4, c5, c6, c7, c8, c9, c10, c11⟩, hb⟩ := hSw; refine .inl ?_; go_simp; (try with_reducible rfl))
  try simp only [pU1, pU2, pU3, pU4]
  refine tkC 13 (oi := ⟨some 21, _, _, _, _, _⟩) (v := ?_) rfl (by kernel_rfl) (fun _ _ _ h => h) (by rfl) ?_ hHeld ?_
  rotate_left
  ·(intro w hSw; obtain ⟨⟨c0, c1, c2, c3, c4, c5, c6, c7, c8, c9, c10, c11⟩, hb⟩ := hSw; refine .inl ?_; go_simp; (try with_reducible rfl))
  try simp only [pU1, pU2, pU3, pU4]
  refine tkC 14 (oi := ⟨some 22, _, _, _, _, _⟩) (v := ?_) rfl (by kernel_rfl) (fun _ _ _ h => h) (by rfl) ?_ hHeld ?_
  rotate_left
  ·(intro w hSw; obtain ⟨⟨c0, c1, c2, c3, c4, c5, c6, c7, c8, c9, c10, c11⟩, hb⟩ := hSw; refine .inl ?_; go_simp; (try with_reducible rfl))
  try simp only [pU1, pU2, pU3, pU4]
  refine tkC 15 (oi := ⟨some 23, _, _, _, _, _⟩) (v := ?_) rfl (by kernel_rfl) (fun _ _ _ h => h) (by rfl) ?_ hHeld ?_
  rotate_left
  ·(intro w hSw; obtain ⟨⟨c0, c1, c2, c3, c4, c5, c6, c7, c8, c9, c10, c11⟩, hb⟩ := hSw; refine .inl ?_; go_simp; (try with_reducible rfl))
  try simp only [pU1, pU2, pU3, pU4]
  refine tkC 16 (oi := ⟨some 24, _, _, _, _, _⟩) (v := ?_) rfl (by kernel_rfl) (fun _ _ _ h => h) (by rfl) ?_ hHeld ?_
  rotate_left
  ·intro w hSw
   apply enters
   ·go_simp
    exact ⟨rfl, rfl⟩
   ·exact CC.out _ _
  try simp only [pU1, pU2, pU3, pU4]
  refine tkC 17 (oi := ⟨some 25, _, _, _, _, _⟩) (v := ?_) rfl (by kernel_rfl) (fun _ _ _ h => h) (by rfl) ?_ hHeld ?_
  rotate_left
  ·(intro w hSw; obtain ⟨⟨c0, c1, c2, c3, c4, c5, c6, c7, c8, c9, c10, c11⟩, hb⟩ := hSw; refine .inl ?_; go_simp; (try with_reducible rfl))
  try simp only [pU1, pU2, pU3, pU4]
  refine tkC 18 (oi := ⟨some 26, _, _, _, _, _⟩) (v := ?_) rfl (by kernel_rfl) (fun _ _ _ h => h) (by rfl) ?_ hHeld ?_
  rotate_left
  ·(intro w hSw; obtain ⟨⟨c0, c1, c2, c3, c4, c5, c6, c7, c8, c9, c10, c11⟩, hb⟩ := hSw; refine .inl ?_; go_simp; (try with_reducible rfl))
  try simp only [pU1, pU2, pU3, pU4]
  refine tkC 19 (oi := ⟨some 27, _, _, _, _, _⟩) (v := ?_) rfl (by kernel_rfl) (fun _ _ _ h => h) (by rfl) ?_ hHeld ?_
  rotate_left
  ·(intro w hSw; obtain ⟨⟨c0, c1, c2, c3, c4, c5, c6, c7, c8, c9, c10, c11⟩, hb⟩ := hSw; refine .inl ?_; go_simp; (try with_reducible rfl))
  try simp only [pU1, pU2, pU3, pU4]
  refine tkC 20 (oi := ⟨some 28, _, _, _, _, _⟩) (v := ?_) rfl (by kernel_rfl) (fun _ _ _ h => h) (by rfl) ?_ hHeld ?_
  rotate_left
  ·(intro w hSw; obtain ⟨⟨c0, c1, c2, c3, c4, c5, c6, c7, c8, c9, c10, c11⟩, hb⟩ := hSw; refine .inl ?_; go_simp; (try with_reducible rfl))
  try simp only [pU1, pU2, pU3, pU4]
  refine tkC 21 (oi := ⟨some 29, _, _, _, _, _⟩) (v := ?_) rfl (by kernel_rfl) (fun _ _ _ h => h) (by rfl) ?_ hHeld ?_
  rotate_left
  ·(intro w hSw; obtain ⟨⟨c0, c1, c2, c3, c4, c5, c6, c7, c8, c9, c10, c11⟩, hb⟩ := hSw; refine .inl ?_; go_simp; (try with_reducible rfl))
  try simp only [pU1, pU2, pU3, pU4]
  refine tkC 22 (oi := ⟨some 30, _, _, _, _, _⟩) (v := ?_) rfl (by kernel_rfl) (fun _ _ _ h => h) (by rfl) ?_ hHeld ?_
  rotate_left
  ·intro w hSw
   apply enters
   ·go_simp
    exact ⟨rfl, rfl⟩
   ·exact CC.out _ _
  try simp only [pU1, pU2, pU3, pU4]
  refine tkC 23 (oi := ⟨some 31, _, _, _, _, _⟩) (v := ?_) rfl (by kernel_rfl) (fun _ _ _ h => h) (by rfl) ?_ hHeld ?_
  rotate_left
  ·(intro w hSw; obtain ⟨⟨c0, c1, c2, c3, c4, c5, c6, c7, c8, c9, c10, c11⟩, hb⟩ := hSw; refine .inl ?_; go_simp; (try with_reducible rfl))
  try simp only [pU1, pU2, pU3, pU4]
  refine tkC 24 (oi := ⟨some 32, _, _, _, _, _⟩) (v := ?_) rfl (by kernel_rfl) (fun _ _ _ h => h) (by rfl) ?_ hHeld ?_
  rotate_left
  ·(intro w hSw; obtain ⟨⟨c0, c1, c2, c3, c4, c5, c6, c7, c8, c9, c10, c11⟩, hb⟩ := hSw; refine .inl ?_; go_simp; (try with_reducible rfl))
  try simp only [pU1, pU2, pU3, pU4]
  refine tkC 25 (oi := ⟨some 33, _, _, _, _, _⟩) (v := ?_) rfl (by kernel_rfl) (fun _ _ _ h => h) (by rfl) ?_ hHeld ?_
  rotate_left
  ·(intro w hSw; obtain ⟨⟨c0, c1, c2, c3, c4, c5, c6, c7, c8, c9, c10, c11⟩, hb⟩ := hSw; refine .inl ?_; go_simp; (try with_reducible rfl))
  try simp only [pU1, pU2, pU3, pU4]
  refine tkC 26 (oi := ⟨some 34, _, _, _, _, _⟩) (v := ?_) rfl (by kernel_rfl) (fun _ _ _ h => h) (by rfl) ?_ hHeld ?_
  rotate_left
  ·(intro w hSw; obtain ⟨⟨c0, c1, c2, c3, c4, c5, c6, c7, c8, c9, c10, c11⟩, hb⟩ := hSw; refine .inl ?_; go_simp; (try with_reducible rfl))
  try simp only [pU1, pU2, pU3, pU4]
  refine tkC 27 (oi := ⟨some 35, _, _, _, _, _⟩) (v := ?_) rfl (by kernel_rfl) (fun _ _ _ h => h) (by rfl) ?_ hHeld ?_
  rotate_left
  ·(intro w hSw; obtain ⟨⟨c0, c1, c2, c3, c4, c5, c6, c7, c8, c9, c10, c11⟩, hb⟩ := hSw; refine .inl ?_; go_simp; (try with_reducible rfl))
  try simp only [pU1, pU2, pU3, pU4]
  refine tkC 28 (oi := ⟨some 36, _, _, _, _, _⟩) (v := ?_) rfl (by kernel_rfl) (fun _ _ _ h => h) (by rfl) ?_ hHeld ?_
  rotate_left
  ·(intro w hSw; obtain ⟨⟨c0, c1, c2, c3, c4, c5, c6, c7, c8, c9, c10, c11⟩, hb⟩ := hSw; refine .inl ?_; go_simp; (try with_reducible rfl))
  try simp only [pU1, pU2, pU3, pU4]
  refine tkC 29 (oi := ⟨some 37, _, _, _, _, _⟩) (v := ?_) rfl (by kernel_rfl) (fun _ _ _ h => h) (by rfl) ?_ hHeld ?_
  rotate_left
  ·(intro w hSw; obtain ⟨⟨c0, c1, c2, c3, c4, c5, c6, c7, c8, c9, c10, c11⟩, hb⟩ := hSw; refine .inl ?_; go_simp; (try with_reducible rfl))
  try simp only [pU1, pU2, pU3, pU4]
  refine tkC 30 (oi := ⟨some 38, _, _, _, _, _⟩) (v := ?_) rfl (by kernel_rfl) (fun _ _ _ h => h) (by rfl) ?_ hHeld ?_
  rotate_left
  ·(intro w hSw; obtain ⟨⟨c0, c1, c2, c3, c4, c5, c6, c7, c8, c9, c10, c11⟩, hb⟩ := hSw; refine .inl ?_; go_simp; (try with_reducible rfl))
  try simp only [pU1, pU2, pU3, pU4]
  refine tkC 31 (oi := ⟨some 39, _, _, _, _, _⟩) (v := ?_) rfl (by kernel_rfl) (fun _ _ _ h => h) (by rfl) ?_ hHeld ?_
  rotate_left
  ·(intro w hSw; obtain ⟨⟨c0, c1, c2, c3, c4, c5, c6, c7, c8, c9, c10, c11⟩, hb⟩ := hSw; refine .inl ?_; go_simp; (try with_reducible rfl))
  try simp only [pU1, pU2, pU3, pU4]
  refine tkC 32 (oi := ⟨some 40, _, _, _, _, _⟩) (v := ?_) rfl (by kernel_rfl) (fun _ _ _ h => h) (by rfl) ?_ hHeld ?_
  rotate_left
  ·(intro w hSw; obtain ⟨⟨c0, c1, c2, c3, c4, c5, c6, c7, c8, c9, c10, c11⟩, hb⟩ := hSw; refine .inl ?_; go_simp; (try with_reducible rfl))
  try simp only [pU1, pU2, pU3, pU4]
  refine tkC 33 (oi := ⟨some 41, _, _, _, _, _⟩) (v := ?_) rfl (by kernel_rfl) (fun _ _ _ h => h) (by rfl) ?_ hHeld ?_
  rotate_left
  ·(intro w hSw; obtain ⟨⟨c0, c1, c2, c3, c4, c5, c6, c7, c8, c9, c10, c11⟩, hb⟩ := hSw; refine .inl ?_; go_simp; (try with_reducible rfl))
  try simp only [pU1, pU2, pU3, pU4]
  refine tkC 34 (oi := ⟨some 42, _, _, _, _, _⟩) (v := ?_) rfl (by kernel_rfl) (fun _ _ _ h => h) (by rfl) ?_ hHeld ?_
  rotate_left
  ·(intro w hSw; obtain ⟨⟨c0, c1, c2, c3, c4, c5, c6, c7, c8, c9, c10, c11⟩, hb⟩ := hSw; refine .inl ?_; go_simp; (try with_reducible rfl))
  try simp only [pU1, pU2, pU3, pU4]
  refine tkC 35 (oi := ⟨some 43, _, _, _, _, _⟩) (v := ?_) rfl (by kernel_rfl) (fun _ _ _ h => h) (by rfl) ?_ hHeld ?_
  rotate_left
  ·(intro w hSw; obtain ⟨⟨c0, c1, c2, c3, c4, c5, c6, c7, c8, c9, c10, c11⟩, hb⟩ := hSw; refine .inl ?_; go_simp; (try with_reducible rfl))
  try simp only [pU1, pU2, pU3, pU4]
  refine wpAnyH_ready (rs := [36]) (by kernel_rfl) (by simp) ?_
  refine AllReadyH.cons (o := ⟨some 7, _, _, _, _, _⟩) rfl (fun K hK => ?_) AllReadyH.nil
  go_simp
  refine hK.out _ _ (Hk.out _ (below_alloc0 (below_drew0 hb0) _)) (fun hHeld => ?_)
  clear hK
  try simp only [pU1, pU2, pU3, pU4]
  refine wpAnyH_ready (rs := [37]) (by kernel_rfl) (by simp) ?_
  refine AllReadyH.cons (o := ⟨none, _, _, _, _, _⟩) rfl (fun K hK => ?_) AllReadyH.nil
  go_simp
  refine hK.out _ _ (Hk.out _ (below_drew0 (below_alloc0 hb0 _))) (fun hHeld => ?_)
  clear hK
  try simp only [pU1, pU2, pU3, pU4]
  refine wpAnyH_done (by kernel_rfl) ?_ _
  obtain ⟨wx, hwx⟩ : ∃ x, x = (W0.alloc (.cells #[.int .i64 (max d1 d2), .int .i64 (capI (IntKind.i64.wrap (g1 + g2))), .int .i64 (capI (IntKind.i64.wrap (l1 + l2))), .int .i64 (capI (IntKind.i64.wrap (m1 + m2))), .bool e2, .bool o2] 98)).drew := ⟨_, rfl⟩
  rw [← hwx]
  have HE : Hid (wx.heap[W0.heap.size]? = some (.cells #[.int .i64 (max d1 d2), .int .i64 (capI (IntKind.i64.wrap (g1 + g2))), .int .i64 (capI (IntKind.i64.wrap (l1 + l2))), .int .i64 (capI (IntKind.i64.wrap (m1 + m2))), .bool e2, .bool o2] 98 (0, 0))) := by rw [hwx]; exact heap_drew0 (heap_alloc_new W0 _)
  have HX : Hid (Kept W0 wx) := by rw [hwx]; exact below_drew0 (below_alloc0 hb0 _)
  have HC1 : Hid (wx.heap[bC]? = some (.cells #[.int .i64 0, .int .i64 0, .int .i64 0, .int .i64 0, .bool false, .bool false] 98 (0, 0))) := heap_kept HX.out HC.out
  obtain ⟨b7, hb7⟩ : ∃ b, b = W0.heap.size := ⟨_, rfl⟩
  rw [← hb7] at HE ⊢
  have hb7w : W0.heap.size ≤ b7 := by omega
  have hbC7 : bC ≠ b7 := by have := heap_lt HC.out; omega
  clear hwx hb7 hHeld HC
  go_wp2_with (first | ((refine wpList_load_row ?c0 98 (.tmp 7) ?c1 b7 ?c2 98 #[.int .i64 (max d1 d2), .int .i64 (capI (IntKind.i64.wrap (g1 + g2))), .int .i64 (capI (IntKind.i64.wrap (l1 + l2))), .int .i64 (capI (IntKind.i64.wrap (m1 + m2))), .bool e2, .bool o2] (0, 0) _ HE.out Tryz.underlying98 ?c3 sizeFc ?_); (case c0 => with_reducible rfl); (case c1 => with_reducible rfl); (case c2 => rfl); (case c3 => rfl)) | ((refine wpList_store_row ?c0 98 (.tmp 6) (.tmp 58) ?c1 bC #[.int .i64 (max d1 d2), .int .i64 (capI (IntKind.i64.wrap (g1 + g2))), .int .i64 (capI (IntKind.i64.wrap (l1 + l2))), .int .i64 (capI (IntKind.i64.wrap (m1 + m2))), .bool e2, .bool o2] ?c2 ?c3 _ _ HC1.out ?c4 ?c5 ?c6 ?_); (case c0 => with_reducible rfl); (case c1 => with_reducible rfl); (case c2 => rfl); (case c3 => rfl); (case c4 => exact sizeFc); (case c5 => rfl); (case c6 => simp [Value.oneCell'])))
  refine bodyPost_ret (results_cell_row Tryz.results72 _ _ bC _ #[.int .i64 (max d1 d2), .int .i64 (capI (IntKind.i64.wrap (g1 + g2))), .int .i64 (capI (IntKind.i64.wrap (l1 + l2))), .int .i64 (capI (IntKind.i64.wrap (m1 + m2))), .bool e2, .bool o2] (0, 0) _ rfl (setRow_heap _ _ _ _ _ _ HC1.out) Tryz.underlying98 rfl sizeFc) rfl ⟨rfl, ?_⟩
  exact below_setRow (HK0.out.trans (HX.out.mono HK0.out.size)) hbCw _
 case false.true =>
  refine wp_region_held_drew (S := (fun W => (W.cell? ⟨bA, 0, none⟩ = some (.int .i64 d1) ∧ W.cell? ⟨bA, 1, none⟩ = some (.int .i64 g1) ∧ W.cell? ⟨bA, 2, none⟩ = some (.int .i64 l1) ∧ W.cell? ⟨bA, 3, none⟩ = some (.int .i64 m1) ∧ W.cell? ⟨bA, 4, none⟩ = some (.bool false) ∧ W.cell? ⟨bA, 5, none⟩ = some (.bool true) ∧ W.cell? ⟨bB, 0, none⟩ = some (.int .i64 d2) ∧ W.cell? ⟨bB, 1, none⟩ = some (.int .i64 g2) ∧ W.cell? ⟨bB, 2, none⟩ = some (.int .i64 l2) ∧ W.cell? ⟨bB, 3, none⟩ = some (.int .i64 m2) ∧ W.cell? ⟨bB, 4, none⟩ = some (.bool e2) ∧ W.cell? ⟨bB, 5, none⟩ = some (.bool o2)) ∧ Below W0.heap.size W0 W)) (by kernel_rfl) ?_ (fun hHeld => ?_)
  ·exact Hk.out _ (below_drew0 hb0)
  refine tkC 0 (oi := ⟨some 8, _, _, _, _, _⟩) (v := ?_) rfl (by kernel_rfl) (fun _ _ _ h => h) (by rfl) ?_ hHeld ?_
  rotate_left
  ·(intro w hSw; obtain ⟨⟨c0, c1, c2, c3, c4, c5, c6, c7, c8, c9, c10, c11⟩, hb⟩ := hSw; refine .inl ?_; go_simp; (try with_reducible rfl))
  try simp only [pU1, pU2, pU3, pU4]
  refine tkC 1 (oi := ⟨some 9, _, _, _, _, _⟩) (v := ?_) rfl (by kernel_rfl) (fun _ _ _ h => h) (by rfl) ?_ hHeld ?_
  rotate_left
  ·(intro w hSw; obtain ⟨⟨c0, c1, c2, c3, c4, c5, c6, c7, c8, c9, c10, c11⟩, hb⟩ := hSw; refine .inl ?_; go_simp; (try with_reducible rfl))
  try simp only [pU1, pU2, pU3, pU4]
  refine tkC 2 (oi := ⟨some 10, _, _, _, _, _⟩) (v := ?_) rfl (by kernel_rfl) (fun _ _ _ h => h) (by rfl) ?_ hHeld ?_
  rotate_left
  ·(intro w hSw; obtain ⟨⟨c0, c1, c2, c3, c4, c5, c6, c7, c8, c9, c10, c11⟩, hb⟩ := hSw; refine .inl ?_; go_simp; (try with_reducible rfl))
  try simp only [pU1, pU2, pU3, pU4]
  refine tkC 3 (oi := ⟨some 11, _, _, _, _, _⟩) (v := ?_) rfl (by kernel_rfl) (fun _ _ _ h => h) (by rfl) ?_ hHeld ?_
  rotate_left
  ·(intro w hSw; obtain ⟨⟨c0, c1, c2, c3, c4, c5, c6, c7, c8, c9, c10, c11⟩, hb⟩ := hSw; refine .inl ?_; go_simp; (try with_reducible rfl))
  try simp only [pU1, pU2, pU3, pU4]
  refine tkC 4 (oi := ⟨some 12, _, _, _, _, _⟩) (v := ?_) rfl (by kernel_rfl) (fun _ _ _ h => h) (by rfl) ?_ hHeld ?_
  rotate_left
  ·(intro w hSw; obtain ⟨⟨c0, c1, c2, c3, c4, c5, c6, c7, c8, c9, c10, c11⟩, hb⟩ := hSw; refine .inl ?_; go_simp; (try with_reducible rfl))
  try simp only [pU1, pU2, pU3, pU4]
  refine tkC 5 (oi := ⟨some 13, _, _, _, _, _⟩) (v := ?_) rfl (by kernel_rfl) (fun _ _ _ h => h) (by rfl) ?_ hHeld ?_
  rotate_left
  ·(intro w hSw; obtain ⟨⟨c0, c1, c2, c3, c4, c5, c6, c7, c8, c9, c10, c11⟩, hb⟩ := hSw; refine .inl ?_; go_simp; (try with_reducible rfl))
  try simp only [pU1, pU2, pU3, pU4]
  refine tkC 6 (oi := ⟨some 14, _, _, _, _, _⟩) (v := ?_) rfl (by kernel_rfl) (fun _ _ _ h => h) (by rfl) ?_ hHeld ?_
  rotate_left
  ·(intro w hSw; obtain ⟨⟨c0, c1, c2, c3, c4, c5, c6, c7, c8, c9, c10, c11⟩, hb⟩ := hSw; refine .inl ?_; go_simp; (try with_reducible rfl))
  try simp only [pU1, pU2, pU3, pU4]
  refine tkC 7 (oi := ⟨some 15, _, _, _, _, _⟩) (v := ?_) rfl (by kernel_rfl) (fun _ _ _ h => h) (by rfl) ?_ hHeld ?_
  rotate_left
  ·(intro w hSw; obtain ⟨⟨c0, c1, c2, c3, c4, c5, c6, c7, c8, c9, c10, c11⟩, hb⟩ := hSw; refine .inl ?_; go_simp; (try with_reducible rfl))
  try simp only [pU1, pU2, pU3, pU4]
  refine tkC 8 (oi := ⟨some 16, _, _, _, _, _⟩) (v := ?_) rfl (by kernel_rfl) (fun _ _ _ h => h) (by rfl) ?_ hHeld ?_
  rotate_left
  ·(intro w hSw; obtain ⟨⟨c0, c1, c2, c3, c4, c5, c6, c7, c8, c9, c10, c11⟩, hb⟩ := hSw; refine .inl ?_; go_simp; (try with_reducible rfl))
  try simp only [pU1, pU2, pU3, pU4]
  refine tkC 9 (oi := ⟨some 17, _, _, _, _, _⟩) (v := ?_) rfl (by kernel_rfl) (fun _ _ _ h => h) (by rfl) ?_ hHeld ?_
  rotate_left
  ·(intro w hSw; obtain ⟨⟨c0, c1, c2, c3, c4, c5, c6, c7, c8, c9, c10, c11⟩, hb⟩ := hSw; refine .inl ?_; go_simp; (try with_reducible rfl))
  try simp only [pU1, pU2, pU3, pU4]
  refine tkC 10 (oi := ⟨some 18, _, _, _, _, _⟩) (v := ?_) rfl (by kernel_rfl) (fun _ _ _ h => h) (by rfl) ?_ hHeld ?_
  rotate_left
  ·intro w hSw
   apply enters
   ·go_simp
    exact ⟨rfl, rfl⟩
   ·exact CC.out _ _
  try simp only [pU1, pU2, pU3, pU4]
  refine tkC 11 (oi := ⟨some 19, _, _, _, _, _⟩) (v := ?_) rfl (by kernel_rfl) (fun _ _ _ h => h) (by rfl) ?_ hHeld ?_
  rotate_left
  ·(intro w hSw; obtain ⟨⟨c0, c1, c2, c3, c4, c5, c6, c7, c8, c9, c10, c11⟩, hb⟩ := hSw; refine .inl ?_; go_simp; (try with_reducible rfl))
  try simp only [pU1, pU2, pU3, pU4]
  refine tkC 12 (oi := ⟨some 20, _, _, _, _, _⟩) (v := ?_) rfl (by kernel_rfl) (fun _ _ _ h => h) (by rfl) ?_ hHeld ?_
  rotate_left
  ·(intro w hSw; obtain ⟨⟨c0, c1, c2, c3, c4, c5, c6, c7, c8, c9, c10, c11⟩, hb⟩ := hSw; refine .inl ?_; go_simp; (try with_reducible rfl))
  try simp only [pU1, pU2, pU3, pU4]
  refine tkC 13 (oi := ⟨some 21, _, _, _, _, _⟩) (v := ?_) rfl (by kernel_rfl) (fun _ _ _ h => h) (by rfl) ?_ hHeld ?_
  rotate_left
  ·(intro w hSw; obtain ⟨⟨c0, c1, c2, c3, c4, c5, c6, c7, c8, c9, c10, c11⟩, hb⟩ := hSw; refine .inl ?_; go_simp; (try with_reducible rfl))
  try simp only [pU1, pU2, pU3, pU4]
  refine tkC 14 (oi := ⟨some 22, _, _, _, _, _⟩) (v := ?_) rfl (by kernel_rfl) (fun _ _ _ h => h) (by rfl) ?_ hHeld ?_
  rotate_left
  ·(intro w hSw; obtain ⟨⟨c0, c1, c2, c3, c4, c5, c6, c7, c8, c9, c10, c11⟩, hb⟩ := hSw; refine .inl ?_; go_simp; (try with_reducible rfl))
  try simp only [pU1, pU2, pU3, pU4]
  refine tkC 15 (oi := ⟨some 23, _, _, _, _, _⟩) (v := ?_) rfl (by kernel_rfl) (fun _ _ _ h => h) (by rfl) ?_ hHeld ?_
  rotate_left
  ·(intro w hSw; obtain ⟨⟨c0, c1, c2, c3, c4, c5, c6, c7, c8, c9, c10, c11⟩, hb⟩ := hSw; refine .inl ?_; go_simp; (try with_reducible rfl))
  try simp only [pU1, pU2, pU3, pU4]
  refine tkC 16 (oi := ⟨some 24, _, _, _, _, _⟩) (v := ?_) rfl (by kernel_rfl) (fun _ _ _ h => h) (by rfl) ?_ hHeld ?_
  rotate_left
  ·intro w hSw
   apply enters
   ·go_simp
    exact ⟨rfl, rfl⟩
   ·exact CC.out _ _
  try simp only [pU1, pU2, pU3, pU4]
  refine tkC 17 (oi := ⟨some 25, _, _, _, _, _⟩) (v := ?_) rfl (by kernel_rfl) (fun _ _ _ h => h) (by rfl) ?_ hHeld ?_
  rotate_left
  ·(intro w hSw; obtain ⟨⟨c0, c1, c2, c3, c4, c5, c6, c7, c8, c9, c10, c11⟩, hb⟩ := hSw; refine .inl ?_; go_simp; (try with_reducible rfl))
  try simp only [pU1, pU2, pU3, pU4]
  refine tkC 18 (oi := ⟨some 26, _, _, _, _, _⟩) (v := ?_) rfl (by kernel_rfl) (fun _ _ _ h => h) (by rfl) ?_ hHeld ?_
  rotate_left
  ·(intro w hSw; obtain ⟨⟨c0, c1, c2, c3, c4, c5, c6, c7, c8, c9, c10, c11⟩, hb⟩ := hSw; refine .inl ?_; go_simp; (try with_reducible rfl))
  try simp only [pU1, pU2, pU3, pU4]
  refine tkC 19 (oi := ⟨some 27, _, _, _, _, _⟩) (v := ?_) rfl (by kernel_rfl) (fun _ _ _ h => h) (by rfl) ?_ hHeld ?_
  rotate_left
  ·(intro w hSw; obtain ⟨⟨c0, c1, c2, c3, c4, c5, c6, c7, c8, c9, c10, c11⟩, hb⟩ := hSw; refine .inl ?_; go_simp; (try with_reducible rfl))
  try simp only [pU1, pU2, pU3, pU4]
  refine tkC 20 (oi := ⟨some 28, _, _, _, _, _⟩) (v := ?_) rfl (by kernel_rfl) (fun _ _ _ h => h) (by rfl) ?_ hHeld ?_
  rotate_left
  ·(intro w hSw; obtain ⟨⟨c0, c1, c2, c3, c4, c5, c6, c7, c8, c9, c10, c11⟩, hb⟩ := hSw; refine .inl ?_; go_simp; (try with_reducible rfl))
  try simp only [pU1, pU2, pU3, pU4]
  refine tkC 21 (oi := ⟨some 29, _, _, _, _, _⟩) (v := ?_) rfl (by kernel_rfl) (fun _ _ _ h => h) (by rfl) ?_ hHeld ?_
  rotate_left
  ·(intro w hSw; obtain ⟨⟨c0, c1, c2, c3, c4, c5, c6, c7, c8, c9, c10, c11⟩, hb⟩ := hSw; refine .inl ?_; go_simp; (try with_reducible rfl))
  try simp only [pU1, pU2, pU3, pU4]
  refine tkC 22 (oi := ⟨some 30, _, _, _, _, _⟩) (v := ?_) rfl (by kernel_rfl) (fun _ _ _ h => h) (by rfl) ?_ hHeld ?_
  rotate_left
  ·intro w hSw
   apply enters
   ·go_simp
    exact ⟨rfl, rfl⟩
   ·exact CC.out _ _
  try simp only [pU1, pU2, pU3, pU4]
  refine tkC 23 (oi := ⟨some 31, _, _, _, _, _⟩) (v := ?_) rfl (by kernel_rfl) (fun _ _ _ h => h) (by rfl) ?_ hHeld ?_
  rotate_left
  ·(intro w hSw; obtain ⟨⟨c0, c1, c2, c3, c4, c5, c6, c7, c8, c9, c10, c11⟩, hb⟩ := hSw; refine .inl ?_; go_simp; (try with_reducible rfl))
  try simp only [pU1, pU2, pU3, pU4]
  refine tkC 24 (oi := ⟨some 32, _, _, _, _, _⟩) (v := ?_) rfl (by kernel_rfl) (fun _ _ _ h => h) (by rfl) ?_ hHeld ?_
  rotate_left
  ·(intro w hSw; obtain ⟨⟨c0, c1, c2, c3, c4, c5, c6, c7, c8, c9, c10, c11⟩, hb⟩ := hSw; refine .inl ?_; go_simp; (try with_reducible rfl))
  try simp only [pU1, pU2, pU3, pU4]
  refine tkC 25 (oi := ⟨some 33, _, _, _, _, _⟩) (v := ?_) rfl (by kernel_rfl) (fun _ _ _ h => h) (by rfl) ?_ hHeld ?_
  rotate_left
  ·(intro w hSw; obtain ⟨⟨c0, c1, c2, c3, c4, c5, c6, c7, c8, c9, c10, c11⟩, hb⟩ := hSw; refine .inl ?_; go_simp; (try with_reducible rfl))
  try simp only [pU1, pU2, pU3, pU4]
  refine tkC 26 (oi := ⟨some 34, _, _, _, _, _⟩) (v := ?_) rfl (by kernel_rfl) (fun _ _ _ h => h) (by rfl) ?_ hHeld ?_
  rotate_left
  ·(intro w hSw; obtain ⟨⟨c0, c1, c2, c3, c4, c5, c6, c7, c8, c9, c10, c11⟩, hb⟩ := hSw; refine .inl ?_; go_simp; (try with_reducible rfl))
  try simp only [pU1, pU2, pU3, pU4]
  refine tkC 27 (oi := ⟨some 35, _, _, _, _, _⟩) (v := ?_) rfl (by kernel_rfl) (fun _ _ _ h => h) (by rfl) ?_ hHeld ?_
  rotate_left
  ·(intro w hSw; obtain ⟨⟨c0, c1, c2, c3, c4, c5, c6, c7, c8, c9, c10, c11⟩, hb⟩ := hSw; refine .inl ?_; go_simp; (try with_reducible rfl))
  try simp only [pU1, pU2, pU3, pU4]
  refine tkC 28 (oi := ⟨some 36, _, _, _, _, _⟩) (v := ?_) rfl (by kernel_rfl) (fun _ _ _ h => h) (by rfl) ?_ hHeld ?_
  rotate_left
  ·(intro w hSw; obtain ⟨⟨c0, c1, c2, c3, c4, c5, c6, c7, c8, c9, c10, c11⟩, hb⟩ := hSw; refine .inl ?_; go_simp; (try with_reducible rfl))
  try simp only [pU1, pU2, pU3, pU4]
  refine tkC 29 (oi := ⟨some 37, _, _, _, _, _⟩) (v := ?_) rfl (by kernel_rfl) (fun _ _ _ h => h) (by rfl) ?_ hHeld ?_
  rotate_left
  ·(intro w hSw; obtain ⟨⟨c0, c1, c2, c3, c4, c5, c6, c7, c8, c9, c10, c11⟩, hb⟩ := hSw; refine .inl ?_; go_simp; (try with_reducible rfl))
  try simp only [pU1, pU2, pU3, pU4]
  refine tkC 30 (oi := ⟨some 38, _, _, _, _, _⟩) (v := ?_) rfl (by kernel_rfl) (fun _ _ _ h => h) (by rfl) ?_ hHeld ?_
  rotate_left
  ·(intro w hSw; obtain ⟨⟨c0, c1, c2, c3, c4, c5, c6, c7, c8, c9, c10, c11⟩, hb⟩ := hSw; refine .inl ?_; go_simp; (try with_reducible rfl))
  try simp only [pU1, pU2, pU3, pU4]
  refine tkC 31 (oi := ⟨some 39, _, _, _, _, _⟩) (v := ?_) rfl (by kernel_rfl) (fun _ _ _ h => h) (by rfl) ?_ hHeld ?_
  rotate_left
  ·(intro w hSw; obtain ⟨⟨c0, c1, c2, c3, c4, c5, c6, c7, c8, c9, c10, c11⟩, hb⟩ := hSw; refine .inl ?_; go_simp; (try with_reducible rfl))
  try simp only [pU1, pU2, pU3, pU4]
  refine wpAnyH_takeC (i := 32) (oi := ⟨some 40, _, _, _, _, _⟩) rfl (by kernel_rfl) (by kernel_rfl) (by kernel_rfl) (fun _ _ _ h => h) (Or.inr ⟨by rfl, rfl⟩) hHeld ?_
  try simp only [pU1, pU2, pU3, pU4]
  refine wpAnyH_takeC (i := 33) (oi := ⟨some 41, _, _, _, _, _⟩) rfl (by kernel_rfl) (by kernel_rfl) (by kernel_rfl) (fun _ _ _ h => h) (Or.inr ⟨by rfl, rfl⟩) hHeld ?_
  try simp only [pU1, pU2, pU3, pU4]
  refine tkC 34 (oi := ⟨some 42, _, _, _, _, _⟩) (v := ?_) rfl (by kernel_rfl) (fun _ _ _ h => h) (by rfl) ?_ hHeld ?_
  rotate_left
  ·(intro w hSw; obtain ⟨⟨c0, c1, c2, c3, c4, c5, c6, c7, c8, c9, c10, c11⟩, hb⟩ := hSw; refine .inl ?_; go_simp; (try with_reducible rfl))
  try simp only [pU1, pU2, pU3, pU4]
  refine tkC 35 (oi := ⟨some 43, _, _, _, _, _⟩) (v := ?_) rfl (by kernel_rfl) (fun _ _ _ h => h) (by rfl) ?_ hHeld ?_
  rotate_left
  ·(intro w hSw; obtain ⟨⟨c0, c1, c2, c3, c4, c5, c6, c7, c8, c9, c10, c11⟩, hb⟩ := hSw; refine .inl ?_; go_simp; (try with_reducible rfl))
  try simp only [pU1, pU2, pU3, pU4]
  refine wpAnyH_ready (rs := [36]) (by kernel_rfl) (by simp) ?_
  refine AllReadyH.cons (o := ⟨some 7, _, _, _, _, _⟩) rfl (fun K hK => ?_) AllReadyH.nil
  go_simp
  refine hK.out _ _ (Hk.out _ (below_alloc0 (below_drew0 hb0) _)) (fun hHeld => ?_)
  clear hK
  try simp only [pU1, pU2, pU3, pU4]
  refine wpAnyH_ready (rs := [37]) (by kernel_rfl) (by simp) ?_
  refine AllReadyH.cons (o := ⟨none, _, _, _, _, _⟩) rfl (fun K hK => ?_) AllReadyH.nil
  go_simp
  refine hK.out _ _ (Hk.out _ (below_drew0 (below_alloc0 hb0 _))) (fun hHeld => ?_)
  clear hK
  try simp only [pU1, pU2, pU3, pU4]
  refine wpAnyH_done (by kernel_rfl) ?_ _
  obtain ⟨wx, hwx⟩ : ∃ x, x = (W0.alloc (.cells #[.int .i64 (max d1 d2), .int .i64 (capI (IntKind.i64.wrap (g1 + g2))), .int .i64 (capI (IntKind.i64.wrap (l1 + l2))), .int .i64 (capI (IntKind.i64.wrap (m1 + m2))), .bool e2, .bool true] 98)).drew := ⟨_, rfl⟩
  rw [← hwx]
  have HE : Hid (wx.heap[W0.heap.size]? = some (.cells #[.int .i64 (max d1 d2), .int .i64 (capI (IntKind.i64.wrap (g1 + g2))), .int .i64 (capI (IntKind.i64.wrap (l1 + l2))), .int .i64 (capI (IntKind.i64.wrap (m1 + m2))), .bool e2, .bool true] 98 (0, 0))) := by rw [hwx]; exact heap_drew0 (heap_alloc_new W0 _)
  have HX : Hid (Kept W0 wx) := by rw [hwx]; exact below_drew0 (below_alloc0 hb0 _)
  have HC1 : Hid (wx.heap[bC]? = some (.cells #[.int .i64 0, .int .i64 0, .int .i64 0, .int .i64 0, .bool false, .bool false] 98 (0, 0))) := heap_kept HX.out HC.out
  obtain ⟨b7, hb7⟩ : ∃ b, b = W0.heap.size := ⟨_, rfl⟩
  rw [← hb7] at HE ⊢
  have hb7w : W0.heap.size ≤ b7 := by omega
  have hbC7 : bC ≠ b7 := by have := heap_lt HC.out; omega
  clear hwx hb7 hHeld HC
  go_wp2_with (first | ((refine wpList_load_row ?c0 98 (.tmp 7) ?c1 b7 ?c2 98 #[.int .i64 (max d1 d2), .int .i64 (capI (IntKind.i64.wrap (g1 + g2))), .int .i64 (capI (IntKind.i64.wrap (l1 + l2))), .int .i64 (capI (IntKind.i64.wrap (m1 + m2))), .bool e2, .bool true] (0, 0) _ HE.out Tryz.underlying98 ?c3 sizeFc ?_); (case c0 => with_reducible rfl); (case c1 => with_reducible rfl); (case c2 => rfl); (case c3 => rfl)) | ((refine wpList_store_row ?c0 98 (.tmp 6) (.tmp 58) ?c1 bC #[.int .i64 (max d1 d2), .int .i64 (capI (IntKind.i64.wrap (g1 + g2))), .int .i64 (capI (IntKind.i64.wrap (l1 + l2))), .int .i64 (capI (IntKind.i64.wrap (m1 + m2))), .bool e2, .bool true] ?c2 ?c3 _ _ HC1.out ?c4 ?c5 ?c6 ?_); (case c0 => with_reducible rfl); (case c1 => with_reducible rfl); (case c2 => rfl); (case c3 => rfl); (case c4 => exact sizeFc); (case c5 => rfl); (case c6 => simp [Value.oneCell'])))
  refine bodyPost_ret (results_cell_row Tryz.results72 _ _ bC _ #[.int .i64 (max d1 d2), .int .i64 (capI (IntKind.i64.wrap (g1 + g2))), .int .i64 (capI (IntKind.i64.wrap (l1 + l2))), .int .i64 (capI (IntKind.i64.wrap (m1 + m2))), .bool e2, .bool true] (0, 0) _ rfl (setRow_heap _ _ _ _ _ _ HC1.out) Tryz.underlying98 rfl sizeFc) rfl ⟨rfl, ?_⟩
  exact below_setRow (HK0.out.trans (HX.out.mono HK0.out.size)) hbCw _
 case true.false =>
  refine wp_region_held_drew (S := (fun W => (W.cell? ⟨bA, 0, none⟩ = some (.int .i64 d1) ∧ W.cell? ⟨bA, 1, none⟩ = some (.int .i64 g1) ∧ W.cell? ⟨bA, 2, none⟩ = some (.int .i64 l1) ∧ W.cell? ⟨bA, 3, none⟩ = some (.int .i64 m1) ∧ W.cell? ⟨bA, 4, none⟩ = some (.bool true) ∧ W.cell? ⟨bA, 5, none⟩ = some (.bool false) ∧ W.cell? ⟨bB, 0, none⟩ = some (.int .i64 d2) ∧ W.cell? ⟨bB, 1, none⟩ = some (.int .i64 g2) ∧ W.cell? ⟨bB, 2, none⟩ = some (.int .i64 l2) ∧ W.cell? ⟨bB, 3, none⟩ = some (.int .i64 m2) ∧ W.cell? ⟨bB, 4, none⟩ = some (.bool e2) ∧ W.cell? ⟨bB, 5, none⟩ = some (.bool o2)) ∧ Below W0.heap.size W0 W)) (by kernel_rfl) ?_ (fun hHeld => ?_)
  ·exact Hk.out _ (below_drew0 hb0)
  refine tkC 0 (oi := ⟨some 8, _, _, _, _, _⟩) (v := ?_) rfl (by kernel_rfl) (fun _ _ _ h => h) (by rfl) ?_ hHeld ?_
  rotate_left
  ·(intro w hSw; obtain ⟨⟨c0, c1, c2, c3, c4, c5, c6, c7, c8, c9, c10, c11⟩, hb⟩ := hSw; refine .inl ?_; go_simp; (try with_reducible rfl))
  try simp only [pU1, pU2, pU3, pU4]
  refine tkC 1 (oi := ⟨some 9, _, _, _, _, _⟩) (v := ?_) rfl (by kernel_rfl) (fun _ _ _ h => h) (by rfl) ?_ hHeld ?_
  rotate_left
  ·(intro w hSw; obtain ⟨⟨c0, c1, c2, c3, c4, c5, c6, c7, c8, c9, c10, c11⟩, hb⟩ := hSw; refine .inl ?_; go_simp; (try with_reducible rfl))
  try simp only [pU1, pU2, pU3, pU4]
  refine tkC 2 (oi := ⟨some 10, _, _, _, _, _⟩) (v := ?_) rfl (by kernel_rfl) (fun _ _ _ h => h) (by rfl) ?_ hHeld ?_
  rotate_left
  ·(intro w hSw; obtain ⟨⟨c0, c1, c2, c3, c4, c5, c6, c7, c8, c9, c10, c11⟩, hb⟩ := hSw; refine .inl ?_; go_simp; (try with_reducible rfl))
  try simp only [pU1, pU2, pU3, pU4]
  refine tkC 3 (oi := ⟨some 11, _, _, _, _, _⟩) (v := ?_) rfl (by kernel_rfl) (fun _ _ _ h => h) (by rfl) ?_ hHeld ?_
  rotate_left
  ·(intro w hSw; obtain ⟨⟨c0, c1, c2, c3, c4, c5, c6, c7, c8, c9, c10, c11⟩, hb⟩ := hSw; refine .inl ?_; go_simp; (try with_reducible rfl))
  try simp only [pU1, pU2, pU3, pU4]
  refine tkC 4 (oi := ⟨some 12, _, _, _, _, _⟩) (v := ?_) rfl (by kernel_rfl) (fun _ _ _ h => h) (by rfl) ?_ hHeld ?_
  rotate_left
  ·(intro w hSw; obtain ⟨⟨c0, c1, c2, c3, c4, c5, c6, c7, c8, c9, c10, c11⟩, hb⟩ := hSw; refine .inl ?_; go_simp; (try with_reducible rfl))
  try simp only [pU1, pU2, pU3, pU4]
  refine tkC 5 (oi := ⟨some 13, _, _, _, _, _⟩) (v := ?_) rfl (by kernel_rfl) (fun _ _ _ h => h) (by rfl) ?_ hHeld ?_
  rotate_left
  ·(intro w hSw; obtain ⟨⟨c0, c1, c2, c3, c4, c5, c6, c7, c8, c9, c10, c11⟩, hb⟩ := hSw; refine .inl ?_; go_simp; (try with_reducible rfl))
  try simp only [pU1, pU2, pU3, pU4]
  refine tkC 6 (oi := ⟨some 14, _, _, _, _, _⟩) (v := ?_) rfl (by kernel_rfl) (fun _ _ _ h => h) (by rfl) ?_ hHeld ?_
  rotate_left
  ·(intro w hSw; obtain ⟨⟨c0, c1, c2, c3, c4, c5, c6, c7, c8, c9, c10, c11⟩, hb⟩ := hSw; refine .inl ?_; go_simp; (try with_reducible rfl))
  try simp only [pU1, pU2, pU3, pU4]
  refine tkC 7 (oi := ⟨some 15, _, _, _, _, _⟩) (v := ?_) rfl (by kernel_rfl) (fun _ _ _ h => h) (by rfl) ?_ hHeld ?_
  rotate_left
  ·(intro w hSw; obtain ⟨⟨c0, c1, c2, c3, c4, c5, c6, c7, c8, c9, c10, c11⟩, hb⟩ := hSw; refine .inl ?_; go_simp; (try with_reducible rfl))
  try simp only [pU1, pU2, pU3, pU4]
  refine tkC 8 (oi := ⟨some 16, _, _, _, _, _⟩) (v := ?_) rfl (by kernel_rfl) (fun _ _ _ h => h) (by rfl) ?_ hHeld ?_
  rotate_left
  ·(intro w hSw; obtain ⟨⟨c0, c1, c2, c3, c4, c5, c6, c7, c8, c9, c10, c11⟩, hb⟩ := hSw; refine .inl ?_; go_simp; (try with_reducible rfl))
  try simp only [pU1, pU2, pU3, pU4]
  refine tkC 9 (oi := ⟨some 17, _, _, _, _, _⟩) (v := ?_) rfl (by kernel_rfl) (fun _ _ _ h => h) (by rfl) ?_ hHeld ?_
  rotate_left
  ·(intro w hSw; obtain ⟨⟨c0, c1, c2, c3, c4, c5, c6, c7, c8, c9, c10, c11⟩, hb⟩ := hSw; refine .inl ?_; go_simp; (try with_reducible rfl))
  try simp only [pU1, pU2, pU3, pU4]
  refine tkC 10 (oi := ⟨some 18, _, _, _, _, _⟩) (v := ?_) rfl (by kernel_rfl) (fun _ _ _ h => h) (by rfl) ?_ hHeld ?_
  rotate_left
  ·intro w hSw
   apply enters
   ·go_simp
    exact ⟨rfl, rfl⟩
   ·exact CC.out _ _
  try simp only [pU1, pU2, pU3, pU4]
  refine tkC 11 (oi := ⟨some 19, _, _, _, _, _⟩) (v := ?_) rfl (by kernel_rfl) (fun _ _ _ h => h) (by rfl) ?_ hHeld ?_
  rotate_left
  ·(intro w hSw; obtain ⟨⟨c0, c1, c2, c3, c4, c5, c6, c7, c8, c9, c10, c11⟩, hb⟩ := hSw; refine .inl ?_; go_simp; (try with_reducible rfl))
  try simp only [pU1, pU2, pU3, pU4]
  refine tkC 12 (oi := ⟨some 20, _, _, _, _, _⟩) (v := ?_) rfl (by kernel_rfl) (fun _ _ _ h => h) (by rfl) ?_ hHeld ?_
  rotate_left
  ·(intro w hSw; obtain ⟨⟨c0, c1, c2, c3, c4, c5, c6, c7, c8, c9, c10, c11⟩, hb⟩ := hSw; refine .inl ?_; go_simp; (try with_reducible rfl))
  try simp only [pU1, pU2, pU3, pU4]
  refine tkC 13 (oi := ⟨some 21, _, _, _, _, _⟩) (v := ?_) rfl (by kernel_rfl) (fun _ _ _ h => h) (by rfl) ?_ hHeld ?_
  rotate_left
  ·(intro w hSw; obtain ⟨⟨c0, c1, c2, c3, c4, c5, c6, c7, c8, c9, c10, c11⟩, hb⟩ := hSw; refine .inl ?_; go_simp; (try with_reducible rfl))
  try simp only [pU1, pU2, pU3, pU4]
  refine tkC 14 (oi := ⟨some 22, _, _, _, _, _⟩) (v := ?_) rfl (by kernel_rfl) (fun _ _ _ h => h) (by rfl) ?_ hHeld ?_
  rotate_left
  ·(intro w hSw; obtain ⟨⟨c0, c1, c2, c3, c4, c5, c6, c7, c8, c9, c10, c11⟩, hb⟩ := hSw; refine .inl ?_; go_simp; (try with_reducible rfl))
  try simp only [pU1, pU2, pU3, pU4]
  refine tkC 15 (oi := ⟨some 23, _, _, _, _, _⟩) (v := ?_) rfl (by kernel_rfl) (fun _ _ _ h => h) (by rfl) ?_ hHeld ?_
  rotate_left
  ·(intro w hSw; obtain ⟨⟨c0, c1, c2, c3, c4, c5, c6, c7, c8, c9, c10, c11⟩, hb⟩ := hSw; refine .inl ?_; go_simp; (try with_reducible rfl))
  try simp only [pU1, pU2, pU3, pU4]
  refine tkC 16 (oi := ⟨some 24, _, _, _, _, _⟩) (v := ?_) rfl (by kernel_rfl) (fun _ _ _ h => h) (by rfl) ?_ hHeld ?_
  rotate_left
  ·intro w hSw
   apply enters
   ·go_simp
    exact ⟨rfl, rfl⟩
   ·exact CC.out _ _
  try simp only [pU1, pU2, pU3, pU4]
  refine tkC 17 (oi := ⟨some 25, _, _, _, _, _⟩) (v := ?_) rfl (by kernel_rfl) (fun _ _ _ h => h) (by rfl) ?_ hHeld ?_
  rotate_left
  ·(intro w hSw; obtain ⟨⟨c0, c1, c2, c3, c4, c5, c6, c7, c8, c9, c10, c11⟩, hb⟩ := hSw; refine .inl ?_; go_simp; (try with_reducible rfl))
  try simp only [pU1, pU2, pU3, pU4]
  refine tkC 18 (oi := ⟨some 26, _, _, _, _, _⟩) (v := ?_) rfl (by kernel_rfl) (fun _ _ _ h => h) (by rfl) ?_ hHeld ?_
  rotate_left
  ·(intro w hSw; obtain ⟨⟨c0, c1, c2, c3, c4, c5, c6, c7, c8, c9, c10, c11⟩, hb⟩ := hSw; refine .inl ?_; go_simp; (try with_reducible rfl))
  try simp only [pU1, pU2, pU3, pU4]
  refine tkC 19 (oi := ⟨some 27, _, _, _, _, _⟩) (v := ?_) rfl (by kernel_rfl) (fun _ _ _ h => h) (by rfl) ?_ hHeld ?_
  rotate_left
  ·(intro w hSw; obtain ⟨⟨c0, c1, c2, c3, c4, c5, c6, c7, c8, c9, c10, c11⟩, hb⟩ := hSw; refine .inl ?_; go_simp; (try with_reducible rfl))
  try simp only [pU1, pU2, pU3, pU4]
  refine tkC 20 (oi := ⟨some 28, _, _, _, _, _⟩) (v := ?_) rfl (by kernel_rfl) (fun _ _ _ h => h) (by rfl) ?_ hHeld ?_
  rotate_left
  ·(intro w hSw; obtain ⟨⟨c0, c1, c2, c3, c4, c5, c6, c7, c8, c9, c10, c11⟩, hb⟩ := hSw; refine .inl ?_; go_simp; (try with_reducible rfl))
  try simp only [pU1, pU2, pU3, pU4]
  refine tkC 21 (oi := ⟨some 29, _, _, _, _, _⟩) (v := ?_) rfl (by kernel_rfl) (fun _ _ _ h => h) (by rfl) ?_ hHeld ?_
  rotate_left
  ·(intro w hSw; obtain ⟨⟨c0, c1, c2, c3, c4, c5, c6, c7, c8, c9, c10, c11⟩, hb⟩ := hSw; refine .inl ?_; go_simp; (try with_reducible rfl))
  try simp only [pU1, pU2, pU3, pU4]
  refine tkC 22 (oi := ⟨some 30, _, _, _, _, _⟩) (v := ?_) rfl (by kernel_rfl) (fun _ _ _ h => h) (by rfl) ?_ hHeld ?_
  rotate_left
  ·intro w hSw
   apply enters
   ·go_simp
    exact ⟨rfl, rfl⟩
   ·exact CC.out _ _
  try simp only [pU1, pU2, pU3, pU4]
  refine tkC 23 (oi := ⟨some 31, _, _, _, _, _⟩) (v := ?_) rfl (by kernel_rfl) (fun _ _ _ h => h) (by rfl) ?_ hHeld ?_
  rotate_left
  ·(intro w hSw; obtain ⟨⟨c0, c1, c2, c3, c4, c5, c6, c7, c8, c9, c10, c11⟩, hb⟩ := hSw; refine .inl ?_; go_simp; (try with_reducible rfl))
  try simp only [pU1, pU2, pU3, pU4]
  refine tkC 24 (oi := ⟨some 32, _, _, _, _, _⟩) (v := ?_) rfl (by kernel_rfl) (fun _ _ _ h => h) (by rfl) ?_ hHeld ?_
  rotate_left
  ·(intro w hSw; obtain ⟨⟨c0, c1, c2, c3, c4, c5, c6, c7, c8, c9, c10, c11⟩, hb⟩ := hSw; refine .inl ?_; go_simp; (try with_reducible rfl))
  try simp only [pU1, pU2, pU3, pU4]
  refine tkC 25 (oi := ⟨some 33, _, _, _, _, _⟩) (v := ?_) rfl (by kernel_rfl) (fun _ _ _ h => h) (by rfl) ?_ hHeld ?_
  rotate_left
  ·(intro w hSw; obtain ⟨⟨c0, c1, c2, c3, c4, c5, c6, c7, c8, c9, c10, c11⟩, hb⟩ := hSw; refine .inl ?_; go_simp; (try with_reducible rfl))
  try simp only [pU1, pU2, pU3, pU4]
  refine wpAnyH_takeC (i := 26) (oi := ⟨some 34, _, _, _, _, _⟩) rfl (by kernel_rfl) (by kernel_rfl) (by kernel_rfl) (fun _ _ _ h => h) (Or.inr ⟨by rfl, rfl⟩) hHeld ?_
  try simp only [pU1, pU2, pU3, pU4]
  refine wpAnyH_takeC (i := 27) (oi := ⟨some 35, _, _, _, _, _⟩) rfl (by kernel_rfl) (by kernel_rfl) (by kernel_rfl) (fun _ _ _ h => h) (Or.inr ⟨by rfl, rfl⟩) hHeld ?_
  try simp only [pU1, pU2, pU3, pU4]
  refine tkC 28 (oi := ⟨some 36, _, _, _, _, _⟩) (v := ?_) rfl (by kernel_rfl) (fun _ _ _ h => h) (by rfl) ?_ hHeld ?_
  rotate_left
  ·(intro w hSw; obtain ⟨⟨c0, c1, c2, c3, c4, c5, c6, c7, c8, c9, c10, c11⟩, hb⟩ := hSw; refine .inl ?_; go_simp; (try with_reducible rfl))
  try simp only [pU1, pU2, pU3, pU4]
  refine tkC 29 (oi := ⟨some 37, _, _, _, _, _⟩) (v := ?_) rfl (by kernel_rfl) (fun _ _ _ h => h) (by rfl) ?_ hHeld ?_
  rotate_left
  ·(intro w hSw; obtain ⟨⟨c0, c1, c2, c3, c4, c5, c6, c7, c8, c9, c10, c11⟩, hb⟩ := hSw; refine .inl ?_; go_simp; (try with_reducible rfl))
  try simp only [pU1, pU2, pU3, pU4]
  refine tkC 30 (oi := ⟨some 38, _, _, _, _, _⟩) (v := ?_) rfl (by kernel_rfl) (fun _ _ _ h => h) (by rfl) ?_ hHeld ?_
  rotate_left
  ·(intro w hSw; obtain ⟨⟨c0, c1, c2, c3, c4, c5, c6, c7, c8, c9, c10, c11⟩, hb⟩ := hSw; refine .inl ?_; go_simp; (try with_reducible rfl))
  try simp only [pU1, pU2, pU3, pU4]
  refine tkC 31 (oi := ⟨some 39, _, _, _, _, _⟩) (v := ?_) rfl (by kernel_rfl) (fun _ _ _ h => h) (by rfl) ?_ hHeld ?_
  rotate_left
  ·(intro w hSw; obtain ⟨⟨c0, c1, c2, c3, c4, c5, c6, c7, c8, c9, c10, c11⟩, hb⟩ := hSw; refine .inl ?_; go_simp; (try with_reducible rfl))
  try simp only [pU1, pU2, pU3, pU4]
  refine tkC 32 (oi := ⟨some 40, _, _, _, _, _⟩) (v := ?_) rfl (by kernel_rfl) (fun _ _ _ h => h) (by rfl) ?_ hHeld ?_
  rotate_left
  ·(intro w hSw; obtain ⟨⟨c0, c1, c2, c3, c4, c5, c6, c7, c8, c9, c10, c11⟩, hb⟩ := hSw; refine .inl ?_; go_simp; (try with_reducible rfl))
  try simp only [pU1, pU2, pU3, pU4]
  refine tkC 33 (oi := ⟨some 41, _, _, _, _, _⟩) (v := ?_) rfl (by kernel_rfl) (fun _ _ _ h => h) (by rfl) ?_ hHeld ?_
  rotate_left
  ·(intro w hSw; obtain ⟨⟨c0, c1, c2, c3, c4, c5, c6, c7, c8, c9, c10, c11⟩, hb⟩ := hSw; refine .inl ?_; go_simp; (try with_reducible rfl))
  try simp only [pU1, pU2, pU3, pU4]
  refine tkC 34 (oi := ⟨some 42, _, _, _, _, _⟩) (v := ?_) rfl (by kernel_rfl) (fun _ _ _ h => h) (by rfl) ?_ hHeld ?_
  rotate_left
  ·(intro w hSw; obtain ⟨⟨c0, c1, c2, c3, c4, c5, c6, c7, c8, c9, c10, c11⟩, hb⟩ := hSw; refine .inl ?_; go_simp; (try with_reducible rfl))
  try simp only [pU1, pU2, pU3, pU4]
  refine tkC 35 (oi := ⟨some 43, _, _, _, _, _⟩) (v := ?_) rfl (by kernel_rfl) (fun _ _ _ h => h) (by rfl) ?_ hHeld ?_
  rotate_left
  ·(intro w hSw; obtain ⟨⟨c0, c1, c2, c3, c4, c5, c6, c7, c8, c9, c10, c11⟩, hb⟩ := hSw; refine .inl ?_; go_simp; (try with_reducible rfl))
  try simp only [pU1, pU2, pU3, pU4]
  refine wpAnyH_ready (rs := [36]) (by kernel_rfl) (by simp) ?_
  refine AllReadyH.cons (o := ⟨some 7, _, _, _, _, _⟩) rfl (fun K hK => ?_) AllReadyH.nil
  go_simp
  refine hK.out _ _ (Hk.out _ (below_alloc0 (below_drew0 hb0) _)) (fun hHeld => ?_)
  clear hK
  try simp only [pU1, pU2, pU3, pU4]
  refine wpAnyH_ready (rs := [37]) (by kernel_rfl) (by simp) ?_
  refine AllReadyH.cons (o := ⟨none, _, _, _, _, _⟩) rfl (fun K hK => ?_) AllReadyH.nil
  go_simp
  refine hK.out _ _ (Hk.out _ (below_drew0 (below_alloc0 hb0 _))) (fun hHeld => ?_)
  clear hK
  try simp only [pU1, pU2, pU3, pU4]
  refine wpAnyH_done (by kernel_rfl) ?_ _
  obtain ⟨wx, hwx⟩ : ∃ x, x = (W0.alloc (.cells #[.int .i64 (max d1 d2), .int .i64 (capI (IntKind.i64.wrap (g1 + g2))), .int .i64 (capI (IntKind.i64.wrap (l1 + l2))), .int .i64 (capI (IntKind.i64.wrap (m1 + m2))), .bool true, .bool o2] 98)).drew := ⟨_, rfl⟩
  rw [← hwx]
  have HE : Hid (wx.heap[W0.heap.size]? = some (.cells #[.int .i64 (max d1 d2), .int .i64 (capI (IntKind.i64.wrap (g1 + g2))), .int .i64 (capI (IntKind.i64.wrap (l1 + l2))), .int .i64 (capI (IntKind.i64.wrap (m1 + m2))), .bool true, .bool o2] 98 (0, 0))) := by rw [hwx]; exact heap_drew0 (heap_alloc_new W0 _)
  have HX : Hid (Kept W0 wx) := by rw [hwx]; exact below_drew0 (below_alloc0 hb0 _)
  have HC1 : Hid (wx.heap[bC]? = some (.cells #[.int .i64 0, .int .i64 0, .int .i64 0, .int .i64 0, .bool false, .bool false] 98 (0, 0))) := heap_kept HX.out HC.out
  obtain ⟨b7, hb7⟩ : ∃ b, b = W0.heap.size := ⟨_, rfl⟩
  rw [← hb7] at HE ⊢
  have hb7w : W0.heap.size ≤ b7 := by omega
  have hbC7 : bC ≠ b7 := by have := heap_lt HC.out; omega
  clear hwx hb7 hHeld HC
  go_wp2_with (first | ((refine wpList_load_row ?c0 98 (.tmp 7) ?c1 b7 ?c2 98 #[.int .i64 (max d1 d2), .int .i64 (capI (IntKind.i64.wrap (g1 + g2))), .int .i64 (capI (IntKind.i64.wrap (l1 + l2))), .int .i64 (capI (IntKind.i64.wrap (m1 + m2))), .bool true, .bool o2] (0, 0) _ HE.out Tryz.underlying98 ?c3 sizeFc ?_); (case c0 => with_reducible rfl); (case c1 => with_reducible rfl); (case c2 => rfl); (case c3 => rfl)) | ((refine wpList_store_row ?c0 98 (.tmp 6) (.tmp 58) ?c1 bC #[.int .i64 (max d1 d2), .int .i64 (capI (IntKind.i64.wrap (g1 + g2))), .int .i64 (capI (IntKind.i64.wrap (l1 + l2))), .int .i64 (capI (IntKind.i64.wrap (m1 + m2))), .bool true, .bool o2] ?c2 ?c3 _ _ HC1.out ?c4 ?c5 ?c6 ?_); (case c0 => with_reducible rfl); (case c1 => with_reducible rfl); (case c2 => rfl); (case c3 => rfl); (case c4 => exact sizeFc); (case c5 => rfl); (case c6 => simp [Value.oneCell'])))
  refine bodyPost_ret (results_cell_row Tryz.results72 _ _ bC _ #[.int .i64 (max d1 d2), .int .i64 (capI (IntKind.i64.wrap (g1 + g2))), .int .i64 (capI (IntKind.i64.wrap (l1 + l2))), .int .i64 (capI (IntKind.i64.wrap (m1 + m2))), .bool true, .bool o2] (0, 0) _ rfl (setRow_heap _ _ _ _ _ _ HC1.out) Tryz.underlying98 rfl sizeFc) rfl ⟨rfl, ?_⟩
  exact below_setRow (HK0.out.trans (HX.out.mono HK0.out.size)) hbCw _
 case true.true =>
  refine wp_region_held_drew (S := (fun W => (W.cell? ⟨bA, 0, none⟩ = some (.int .i64 d1) ∧ W.cell? ⟨bA, 1, none⟩ = some (.int .i64 g1) ∧ W.cell? ⟨bA, 2, none⟩ = some (.int .i64 l1) ∧ W.cell? ⟨bA, 3, none⟩ = some (.int .i64 m1) ∧ W.cell? ⟨bA, 4, none⟩ = some (.bool true) ∧ W.cell? ⟨bA, 5, none⟩ = some (.bool true) ∧ W.cell? ⟨bB, 0, none⟩ = some (.int .i64 d2) ∧ W.cell? ⟨bB, 1, none⟩ = some (.int .i64 g2) ∧ W.cell? ⟨bB, 2, none⟩ = some (.int .i64 l2) ∧ W.cell? ⟨bB, 3, none⟩ = some (.int .i64 m2) ∧ W.cell? ⟨bB, 4, none⟩ = some (.bool e2) ∧ W.cell? ⟨bB, 5, none⟩ = some (.bool o2)) ∧ Below W0.heap.size W0 W)) (by kernel_rfl) ?_ (fun hHeld => ?_)
  ·exact Hk.out _ (below_drew0 hb0)
  refine tkC 0 (oi := ⟨some 8, _, _, _, _, _⟩) (v := ?_) rfl (by kernel_rfl) (fun _ _ _ h => h) (by rfl) ?_ hHeld ?_
  rotate_left
  ·(intro w hSw; obtain ⟨⟨c0, c1, c2, c3, c4, c5, c6, c7, c8, c9, c10, c11⟩, hb⟩ := hSw; refine .inl ?_; go_simp; (try with_reducible rfl))
  try simp only [pU1, pU2, pU3, pU4]
  refine tkC 1 (oi := ⟨some 9, _, _, _, _, _⟩) (v := ?_) rfl (by kernel_rfl) (fun _ _ _ h => h) (by rfl) ?_ hHeld ?_
  rotate_left
  ·(intro w hSw; obtain ⟨⟨c0, c1, c2, c3, c4, c5, c6, c7, c8, c9, c10, c11⟩, hb⟩ := hSw; refine .inl ?_; go_simp; (try with_reducible rfl))
  try simp only [pU1, pU2, pU3, pU4]
  refine tkC 2 (oi := ⟨some 10, _, _, _, _, _⟩) (v := ?_) rfl (by kernel_rfl) (fun _ _ _ h => h) (by rfl) ?_ hHeld ?_
  rotate_left
  ·(intro w hSw; obtain ⟨⟨c0, c1, c2, c3, c4, c5, c6, c7, c8, c9, c10, c11⟩, hb⟩ := hSw; refine .inl ?_; go_simp; (try with_reducible rfl))
  try simp only [pU1, pU2, pU3, pU4]
  refine tkC 3 (oi := ⟨some 11, _, _, _, _, _⟩) (v := ?_) rfl (by kernel_rfl) (fun _ _ _ h => h) (by rfl) ?_ hHeld ?_
  rotate_left
  ·(intro w hSw; obtain ⟨⟨c0, c1, c2, c3, c4, c5, c6, c7, c8, c9, c10, c11⟩, hb⟩ := hSw; refine .inl ?_; go_simp; (try with_reducible rfl))
  try simp only [pU1, pU2, pU3, pU4]
  refine tkC 4 (oi := ⟨some 12, _, _, _, _, _⟩) (v := ?_) rfl (by kernel_rfl) (fun _ _ _ h => h) (by rfl) ?_ hHeld ?_
  rotate_left
  ·(intro w hSw; obtain ⟨⟨c0, c1, c2, c3, c4, c5, c6, c7, c8, c9, c10, c11⟩, hb⟩ := hSw; refine .inl ?_; go_simp; (try with_reducible rfl))
  try simp only [pU1, pU2, pU3, pU4]
  refine tkC 5 (oi := ⟨some 13, _, _, _, _, _⟩) (v := ?_) rfl (by kernel_rfl) (fun _ _ _ h => h) (by rfl) ?_ hHeld ?_
  rotate_left
  ·(intro w hSw; obtain ⟨⟨c0, c1, c2, c3, c4, c5, c6, c7, c8, c9, c10, c11⟩, hb⟩ := hSw; refine .inl ?_; go_simp; (try with_reducible rfl))
  try simp only [pU1, pU2, pU3, pU4]
  refine tkC 6 (oi := ⟨some 14, _, _, _, _, _⟩) (v := ?_) rfl (by kernel_rfl) (fun _ _ _ h => h) (by rfl) ?_ hHeld ?_
  rotate_left
  ·(intro w hSw; obtain ⟨⟨c0, c1, c2, c3, c4, c5, c6, c7, c8, c9, c10, c11⟩, hb⟩ := hSw; refine .inl ?_; go_simp; (try with_reducible rfl))
  try simp only [pU1, pU2, pU3, pU4]
  refine tkC 7 (oi := ⟨some 15, _, _, _, _, _⟩) (v := ?_) rfl (by kernel_rfl) (fun _ _ _ h => h) (by rfl) ?_ hHeld ?_
  rotate_left
  ·(intro w hSw; obtain ⟨⟨c0, c1, c2, c3, c4, c5, c6, c7, c8, c9, c10, c11⟩, hb⟩ := hSw; refine .inl ?_; go_simp; (try with_reducible rfl))
  try simp only [pU1, pU2, pU3, pU4]
  refine tkC 8 (oi := ⟨some 16, _, _, _, _, _⟩) (v := ?_) rfl (by kernel_rfl) (fun _ _ _ h => h) (by rfl) ?_ hHeld ?_
  rotate_left
  ·(intro w hSw; obtain ⟨⟨c0, c1, c2, c3, c4, c5, c6, c7, c8, c9, c10, c11⟩, hb⟩ := hSw; refine .inl ?_; go_simp; (try with_reducible rfl))
  try simp only [pU1, pU2, pU3, pU4]
  refine tkC 9 (oi := ⟨some 17, _, _, _, _, _⟩) (v := ?_) rfl (by kernel_rfl) (fun _ _ _ h => h) (by rfl) ?_ hHeld ?_
  rotate_left
  ·(intro w hSw; obtain ⟨⟨c0, c1, c2, c3, c4, c5, c6, c7, c8, c9, c10, c11⟩, hb⟩ := hSw; refine .inl ?_; go_simp; (try with_reducible rfl))
  try simp only [pU1, pU2, pU3, pU4]
  refine tkC 10 (oi := ⟨some 18, _, _, _, _, _⟩) (v := ?_) rfl (by kernel_rfl) (fun _ _ _ h => h) (by rfl) ?_ hHeld ?_
  rotate_left
  ·intro w hSw
   apply enters
   ·go_simp
    exact ⟨rfl, rfl⟩
   ·exact CC.out _ _
  try simp only [pU1, pU2, pU3, pU4]
  refine tkC 11 (oi := ⟨some 19, _, _, _, _, _⟩) (v := ?_) rfl (by kernel_rfl) (fun _ _ _ h => h) (by rfl) ?_ hHeld ?_
  rotate_left
  ·(intro w hSw; obtain ⟨⟨c0, c1, c2, c3, c4, c5, c6, c7, c8, c9, c10, c11⟩, hb⟩ := hSw; refine .inl ?_; go_simp; (try with_reducible rfl))
  try simp only [pU1, pU2, pU3, pU4]
  refine tkC 12 (oi := ⟨some 20, _, _, _, _, _⟩) (v := ?_) rfl (by kernel_rfl) (fun _ _ _ h => h) (by rfl) ?_ hHeld ?_
  rotate_left
  ·(intro w hSw; obtain ⟨⟨c0, c1, c2, c3, c4, c5, c6, c7, c8, c9, c10, c11⟩, hb⟩ := hSw; refine .inl ?_; go_simp; (try with_reducible rfl))
  try simp only [pU1, pU2, pU3, pU4]
  refine tkC 13 (oi := ⟨some 21, _, _, _, _, _⟩) (v := ?_) rfl (by kernel_rfl) (fun _ _ _ h => h) (by rfl) ?_ hHeld ?_
  rotate_left
  ·(intro w hSw; obtain ⟨⟨c0, c1, c2, c3, c4, c5, c6, c7, c8, c9, c10, c11⟩, hb⟩ := hSw; refine .inl ?_; go_simp; (try with_reducible rfl))
  try simp only [pU1, pU2, pU3, pU4]
  refine tkC 14 (oi := ⟨some 22, _, _, _, _, _⟩) (v := ?_) rfl (by kernel_rfl) (fun _ _ _ h => h) (by rfl) ?_ hHeld ?_
  rotate_left
  ·(intro w hSw; obtain ⟨⟨c0, c1, c2, c3, c4, c5, c6, c7, c8, c9, c10, c11⟩, hb⟩ := hSw; refine .inl ?_; go_simp; (try with_reducible rfl))
  try simp only [pU1, pU2, pU3, pU4]
  refine tkC 15 (oi := ⟨some 23, _, _, _, _, _⟩) (v := ?_) rfl (by kernel_rfl) (fun _ _ _ h => h) (by rfl) ?_ hHeld ?_
  rotate_left
  ·(intro w hSw; obtain ⟨⟨c0, c1, c2, c3, c4, c5, c6, c7, c8, c9, c10, c11⟩, hb⟩ := hSw; refine .inl ?_; go_simp; (try with_reducible rfl))
  try simp only [pU1, pU2, pU3, pU4]
  refine tkC 16 (oi := ⟨some 24, _, _, _, _, _⟩) (v := ?_) rfl (by kernel_rfl) (fun _ _ _ h => h) (by rfl) ?_ hHeld ?_
  rotate_left
  ·intro w hSw
   apply enters
   ·go_simp
    exact ⟨rfl, rfl⟩
   ·exact CC.out _ _
  try simp only [pU1, pU2, pU3, pU4]
  refine tkC 17 (oi := ⟨some 25, _, _, _, _, _⟩) (v := ?_) rfl (by kernel_rfl) (fun _ _ _ h => h) (by rfl) ?_ hHeld ?_
  rotate_left
  ·(intro w hSw; obtain ⟨⟨c0, c1, c2, c3, c4, c5, c6, c7, c8, c9, c10, c11⟩, hb⟩ := hSw; refine .inl ?_; go_simp; (try with_reducible rfl))
  try simp only [pU1, pU2, pU3, pU4]
  refine tkC 18 (oi := ⟨some 26, _, _, _, _, _⟩) (v := ?_) rfl (by kernel_rfl) (fun _ _ _ h => h) (by rfl) ?_ hHeld ?_
  rotate_left
  ·(intro w hSw; obtain ⟨⟨c0, c1, c2, c3, c4, c5, c6, c7, c8, c9, c10, c11⟩, hb⟩ := hSw; refine .inl ?_; go_simp; (try with_reducible rfl))
  try simp only [pU1, pU2, pU3, pU4]
  refine tkC 19 (oi := ⟨some 27, _, _, _, _, _⟩) (v := ?_) rfl (by kernel_rfl) (fun _ _ _ h => h) (by rfl) ?_ hHeld ?_
  rotate_left
  ·(intro w hSw; obtain ⟨⟨c0, c1, c2, c3, c4, c5, c6, c7, c8, c9, c10, c11⟩, hb⟩ := hSw; refine .inl ?_; go_simp; (try with_reducible rfl))
  try simp only [pU1, pU2, pU3, pU4]
  refine tkC 20 (oi := ⟨some 28, _, _, _, _, _⟩) (v := ?_) rfl (by kernel_rfl) (fun _ _ _ h => h) (by rfl) ?_ hHeld ?_
  rotate_left
  ·(intro w hSw; obtain ⟨⟨c0, c1, c2, c3, c4, c5, c6, c7, c8, c9, c10, c11⟩, hb⟩ := hSw; refine .inl ?_; go_simp; (try with_reducible rfl))
  try simp only [pU1, pU2, pU3, pU4]
  refine tkC 21 (oi := ⟨some 29, _, _, _, _, _⟩) (v := ?_) rfl (by kernel_rfl) (fun _ _ _ h => h) (by rfl) ?_ hHeld ?_
  rotate_left
  ·(intro w hSw; obtain ⟨⟨c0, c1, c2, c3, c4, c5, c6, c7, c8, c9, c10, c11⟩, hb⟩ := hSw; refine .inl ?_; go_simp; (try with_reducible rfl))
  try simp only [pU1, pU2, pU3, pU4]
  refine tkC 22 (oi := ⟨some 30, _, _, _, _, _⟩) (v := ?_) rfl (by kernel_rfl) (fun _ _ _ h => h) (by rfl) ?_ hHeld ?_
  rotate_left
  ·intro w hSw
   apply enters
   ·go_simp
    exact ⟨rfl, rfl⟩
   ·exact CC.out _ _
  try simp only [pU1, pU2, pU3, pU4]
  refine tkC 23 (oi := ⟨some 31, _, _, _, _, _⟩) (v := ?_) rfl (by kernel_rfl) (fun _ _ _ h => h) (by rfl) ?_ hHeld ?_
  rotate_left
  ·(intro w hSw; obtain ⟨⟨c0, c1, c2, c3, c4, c5, c6, c7, c8, c9, c10, c11⟩, hb⟩ := hSw; refine .inl ?_; go_simp; (try with_reducible rfl))
  try simp only [pU1, pU2, pU3, pU4]
  refine tkC 24 (oi := ⟨some 32, _, _, _, _, _⟩) (v := ?_) rfl (by kernel_rfl) (fun _ _ _ h => h) (by rfl) ?_ hHeld ?_
  rotate_left
  ·(intro w hSw; obtain ⟨⟨c0, c1, c2, c3, c4, c5, c6, c7, c8, c9, c10, c11⟩, hb⟩ := hSw; refine .inl ?_; go_simp; (try with_reducible rfl))
  try simp only [pU1, pU2, pU3, pU4]
  refine tkC 25 (oi := ⟨some 33, _, _, _, _, _⟩) (v := ?_) rfl (by kernel_rfl) (fun _ _ _ h => h) (by rfl) ?_ hHeld ?_
  rotate_left
  ·(intro w hSw; obtain ⟨⟨c0, c1, c2, c3, c4, c5, c6, c7, c8, c9, c10, c11⟩, hb⟩ := hSw; refine .inl ?_; go_simp; (try with_reducible rfl))
  try simp only [pU1, pU2, pU3, pU4]
  refine wpAnyH_takeC (i := 26) (oi := ⟨some 34, _, _, _, _, _⟩) rfl (by kernel_rfl) (by kernel_rfl) (by kernel_rfl) (fun _ _ _ h => h) (Or.inr ⟨by rfl, rfl⟩) hHeld ?_
  try simp only [pU1, pU2, pU3, pU4]
  refine wpAnyH_takeC (i := 27) (oi := ⟨some 35, _, _, _, _, _⟩) rfl (by kernel_rfl) (by kernel_rfl) (by kernel_rfl) (fun _ _ _ h => h) (Or.inr ⟨by rfl, rfl⟩) hHeld ?_
  try simp only [pU1, pU2, pU3, pU4]
  refine tkC 28 (oi := ⟨some 36, _, _, _, _, _⟩) (v := ?_) rfl (by kernel_rfl) (fun _ _ _ h => h) (by rfl) ?_ hHeld ?_
  rotate_left
  ·(intro w hSw; obtain ⟨⟨c0, c1, c2, c3, c4, c5, c6, c7, c8, c9, c10, c11⟩, hb⟩ := hSw; refine .inl ?_; go_simp; (try with_reducible rfl))
  try simp only [pU1, pU2, pU3, pU4]
  refine tkC 29 (oi := ⟨some 37, _, _, _, _, _⟩) (v := ?_) rfl (by kernel_rfl) (fun _ _ _ h => h) (by rfl) ?_ hHeld ?_
  rotate_left
  ·(intro w hSw; obtain ⟨⟨c0, c1, c2, c3, c4, c5, c6, c7, c8, c9, c10, c11⟩, hb⟩ := hSw; refine .inl ?_; go_simp; (try with_reducible rfl))
  try simp only [pU1, pU2, pU3, pU4]
  refine tkC 30 (oi := ⟨some 38, _, _, _, _, _⟩) (v := ?_) rfl (by kernel_rfl) (fun _ _ _ h => h) (by rfl) ?_ hHeld ?_
  rotate_left
  ·(intro w hSw; obtain ⟨⟨c0, c1, c2, c3, c4, c5, c6, c7, c8, c9, c10, c11⟩, hb⟩ := hSw; refine .inl ?_; go_simp; (try with_reducible rfl))
  try simp only [pU1, pU2, pU3, pU4]
  refine tkC 31 (oi := ⟨some 39, _, _, _, _, _⟩) (v := ?_) rfl (by kernel_rfl) (fun _ _ _ h => h) (by rfl) ?_ hHeld ?_
  rotate_left
  ·(intro w hSw; obtain ⟨⟨c0, c1, c2, c3, c4, c5, c6, c7, c8, c9, c10, c11⟩, hb⟩ := hSw; refine .inl ?_; go_simp; (try with_reducible rfl))
  try simp only [pU1, pU2, pU3, pU4]
  refine wpAnyH_takeC (i := 32) (oi := ⟨some 40, _, _, _, _, _⟩) rfl (by kernel_rfl) (by kernel_rfl) (by kernel_rfl) (fun _ _ _ h => h) (Or.inr ⟨by rfl, rfl⟩) hHeld ?_
  try simp only [pU1, pU2, pU3, pU4]
  refine wpAnyH_takeC (i := 33) (oi := ⟨some 41, _, _, _, _, _⟩) rfl (by kernel_rfl) (by kernel_rfl) (by kernel_rfl) (fun _ _ _ h => h) (Or.inr ⟨by rfl, rfl⟩) hHeld ?_
  try simp only [pU1, pU2, pU3, pU4]
  refine tkC 34 (oi := ⟨some 42, _, _, _, _, _⟩) (v := ?_) rfl (by kernel_rfl) (fun _ _ _ h => h) (by rfl) ?_ hHeld ?_
  rotate_left
  ·(intro w hSw; obtain ⟨⟨c0, c1, c2, c3, c4, c5, c6, c7, c8, c9, c10, c11⟩, hb⟩ := hSw; refine .inl ?_; go_simp; (try with_reducible rfl))
  try simp only [pU1, pU2, pU3, pU4]
  refine tkC 35 (oi := ⟨some 43, _, _, _, _, _⟩) (v := ?_) rfl (by kernel_rfl) (fun _ _ _ h => h) (by rfl) ?_ hHeld ?_
  rotate_left
  ·(intro w hSw; obtain ⟨⟨c0, c1, c2, c3, c4, c5, c6, c7, c8, c9, c10, c11⟩, hb⟩ := hSw; refine .inl ?_; go_simp; (try with_reducible rfl))
  try simp only [pU1, pU2, pU3, pU4]
  refine wpAnyH_ready (rs := [36]) (by kernel_rfl) (by simp) ?_
  refine AllReadyH.cons (o := ⟨some 7, _, _, _, _, _⟩) rfl (fun K hK => ?_) AllReadyH.nil
  go_simp
  refine hK.out _ _ (Hk.out _ (below_alloc0 (below_drew0 hb0) _)) (fun hHeld => ?_)
  clear hK
  try simp only [pU1, pU2, pU3, pU4]
  refine wpAnyH_ready (rs := [37]) (by kernel_rfl) (by simp) ?_
  refine AllReadyH.cons (o := ⟨none, _, _, _, _, _⟩) rfl (fun K hK => ?_) AllReadyH.nil
  go_simp
  refine hK.out _ _ (Hk.out _ (below_drew0 (below_alloc0 hb0 _))) (fun hHeld => ?_)
  clear hK
  try simp only [pU1, pU2, pU3, pU4]
  refine wpAnyH_done (by kernel_rfl) ?_ _
  obtain ⟨wx, hwx⟩ : ∃ x, x = (W0.alloc (.cells #[.int .i64 (max d1 d2), .int .i64 (capI (IntKind.i64.wrap (g1 + g2))), .int .i64 (capI (IntKind.i64.wrap (l1 + l2))), .int .i64 (capI (IntKind.i64.wrap (m1 + m2))), .bool true, .bool true] 98)).drew := ⟨_, rfl⟩
  rw [← hwx]
  have HE : Hid (wx.heap[W0.heap.size]? = some (.cells #[.int .i64 (max d1 d2), .int .i64 (capI (IntKind.i64.wrap (g1 + g2))), .int .i64 (capI (IntKind.i64.wrap (l1 + l2))), .int .i64 (capI (IntKind.i64.wrap (m1 + m2))), .bool true, .bool true] 98 (0, 0))) := by rw [hwx]; exact heap_drew0 (heap_alloc_new W0 _)
  have HX : Hid (Kept W0 wx) := by rw [hwx]; exact below_drew0 (below_alloc0 hb0 _)
  have HC1 : Hid (wx.heap[bC]? = some (.cells #[.int .i64 0, .int .i64 0, .int .i64 0, .int .i64 0, .bool false, .bool false] 98 (0, 0))) := heap_kept HX.out HC.out
  obtain ⟨b7, hb7⟩ : ∃ b, b = W0.heap.size := ⟨_, rfl⟩
  rw [← hb7] at HE ⊢
  have hb7w : W0.heap.size ≤ b7 := by omega
  have hbC7 : bC ≠ b7 := by have := heap_lt HC.out; omega
  clear hwx hb7 hHeld HC
  go_wp2_with (first | ((refine wpList_load_row ?c0 98 (.tmp 7) ?c1 b7 ?c2 98 #[.int .i64 (max d1 d2), .int .i64 (capI (IntKind.i64.wrap (g1 + g2))), .int .i64 (capI (IntKind.i64.wrap (l1 + l2))), .int .i64 (capI (IntKind.i64.wrap (m1 + m2))), .bool true, .bool true] (0, 0) _ HE.out Tryz.underlying98 ?c3 sizeFc ?_); (case c0 => with_reducible rfl); (case c1 => with_reducible rfl); (case c2 => rfl); (case c3 => rfl)) | ((refine wpList_store_row ?c0 98 (.tmp 6) (.tmp 58) ?c1 bC #[.int .i64 (max d1 d2), .int .i64 (capI (IntKind.i64.wrap (g1 + g2))), .int .i64 (capI (IntKind.i64.wrap (l1 + l2))), .int .i64 (capI (IntKind.i64.wrap (m1 + m2))), .bool true, .bool true] ?c2 ?c3 _ _ HC1.out ?c4 ?c5 ?c6 ?_); (case c0 => with_reducible rfl); (case c1 => with_reducible rfl); (case c2 => rfl); (case c3 => rfl); (case c4 => exact sizeFc); (case c5 => rfl); (case c6 => simp [Value.oneCell'])))
  refine bodyPost_ret (results_cell_row Tryz.results72 _ _ bC _ #[.int .i64 (max d1 d2), .int .i64 (capI (IntKind.i64.wrap (g1 + g2))), .int .i64 (capI (IntKind.i64.wrap (l1 + l2))), .int .i64 (capI (IntKind.i64.wrap (m1 + m2))), .bool true, .bool true] (0, 0) _ rfl (setRow_heap _ _ _ _ _ _ HC1.out) Tryz.underlying98 rfl sizeFc) rfl ⟨rfl, ?_⟩
  exact below_setRow (HK0.out.trans (HX.out.mono HK0.out.size)) hbCw _
end Go.Proofs.YtmgkdmbifecekaaGreatDoor
