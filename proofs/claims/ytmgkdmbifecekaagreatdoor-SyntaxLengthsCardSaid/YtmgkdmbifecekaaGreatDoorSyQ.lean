/-
 Package syntax: what a repetition says.
-/
import Derived.Test.YtmgkdmbifecekaaGreatDoorMlal
import Derived.Deep.RegionHeld3
import Derived.Deep.CutBlock
import Derived.Deep.DeepCutAuto
set_option linter.all false
set_option linter.unusedSimpArgs false
set_option linter.unusedVariables false
set_option linter.unusedSectionVars false
namespace Go.Proofs.YtmgkdmbifecekaaGreatDoor
open Go.RowKit Go.Shelf
theorem cell_setCell_other (w : World) (g i : Nat) (v : Value) {p : Addr} (h : g ≠ p.block) : (w.setCell ⟨g, i, none⟩ v).cell? p = w.cell? p := by
 unfold World.cell? World.setCell
 simp [Array.getElem?_modify, h]
theorem heap_set_out (w : World) (g i : Nat) (v : Value) {b : Nat} (h : g ≠ b) : (w.setCell ⟨g, i, none⟩ v).heap[b]? = w.heap[b]? := by
 unfold World.setCell
 simp [Array.getElem?_modify, h]
section
variable (d g l m : Int) (en : Bool) (A1 : Option Addr) (sn c1 : Nat) (mn mx : Int) (lz : Bool) (A2 : Option Addr) (un c2 : Nat) (w : World)
set_option maxRecDepth 20000 in
set_option maxHeartbeats 2000000 in
theorem rep_a1 (hd : 0 ≤ d ∧ d ≤ 1000000) (hx : mx = -1) : Calls Tryz.prog 71 #[fctV ⟨d, g, l, m, en, true⟩, ndV 5 A1 sn c1 mn mx lz A2 un c2] w fun e w' => e = .returned (.agg #[.int .i64 (d + 1), .int .i64 g, .int .i64 (capI (IntKind.i64.wrap (mn * l))), .int .i64 (capI (IntKind.i64.wrap (mx * m))), .bool true, .bool true]) ∧ Kept w w' := by
 obtain ⟨hd1, hd2⟩ := hd
 have x1 : (mx == -1) = true := by simp [hx]
 clear hx
 have CC := Lib.hid capped_any
 unfold fctV
 dsimp only
 go_enter Tryz.func71, Tryz.ntmps71
 go_upto_region 10 with fail
 obtain ⟨W0, hW0⟩ : ∃ x, x = ((w.alloc (.cells #[.int .i64 (d + 1), .int .i64 g, .int .i64 l, .int .i64 m, .bool true, .bool true] 98)).alloc (.cells #[.int .u8 5, .slice A1 sn c1, .int .i64 mn, .int .i64 mx, .bool lz, .slice A2 un c2] 25)).alloc (.cells #[.int .i64 0, .int .i64 0, .int .i64 0, .int .i64 0, .bool false, .bool false] 98) := ⟨_, rfl⟩
 rw [← hW0]
 have hA : W0.heap[w.heap.size]? = some (.cells #[.int .i64 (d + 1), .int .i64 g, .int .i64 l, .int .i64 m, .bool true, .bool true] 98 (0, 0)) := by rw [hW0]; exact (Below.heap_alloc _ _ _ (by simp; omega)).trans ((Below.heap_alloc _ _ _ (by simp)).trans (heap_alloc_new w _))
 have hB : W0.heap[w.heap.size + 1]? = some (.cells #[.int .u8 5, .slice A1 sn c1, .int .i64 mn, .int .i64 mx, .bool lz, .slice A2 un c2] 25 (0, 0)) := by
  have := heap_alloc_new (w.alloc (.cells #[.int .i64 (d + 1), .int .i64 g, .int .i64 l, .int .i64 m, .bool true, .bool true] 98)) (.cells #[.int .u8 5, .slice A1 sn c1, .int .i64 mn, .int .i64 mx, .bool lz, .slice A2 un c2] 25)
  rw [World.size_alloc] at this
  rw [hW0]
  exact (Below.heap_alloc _ _ _ (by simp)).trans this
 have HC : Hid (W0.heap[w.heap.size + 1 + 1]? = some (.cells #[.int .i64 0, .int .i64 0, .int .i64 0, .int .i64 0, .bool false, .bool false] 98 (0, 0))) := by rw [hW0]; exact alloc_new2 _ _ _ _
 have HK0 : Hid (Kept w W0) := by rw [hW0]; exact (((Below.refl _ w).alloc (Nat.le_refl _) _).alloc (by simp) _).alloc (by simp; omega) _
 have HA := Lib.hid hA
 have k0 : W0.cell? ⟨w.heap.size, 2, none⟩ = some (.int .i64 l) := by rw [cell_of_row _ _ _ _ _ _ hA]; rfl
 have k1 : W0.cell? ⟨w.heap.size, 3, none⟩ = some (.int .i64 m) := by rw [cell_of_row _ _ _ _ _ _ hA]; rfl
 have k2 : W0.cell? ⟨w.heap.size + 1, 2, none⟩ = some (.int .i64 mn) := by rw [cell_of_row _ _ _ _ _ _ hB]; rfl
 have k3 : W0.cell? ⟨w.heap.size + 1, 3, none⟩ = some (.int .i64 mx) := by rw [cell_of_row _ _ _ _ _ _ hB]; rfl
 have k4 : ∀ j, W0.frozen? ⟨w.heap.size, j, none⟩ = false := fun j => by simp [World.frozen?, show W0.heap[w.heap.size]? = _ from hA]
 obtain ⟨bA, hbA⟩ : ∃ b, b = w.heap.size := ⟨_, rfl⟩
 obtain ⟨bB, hbB⟩ : ∃ b, b = w.heap.size + 1 := ⟨_, rfl⟩
 obtain ⟨bC, hbC⟩ : ∃ b, b = w.heap.size + 1 + 1 := ⟨_, rfl⟩
 have hAC : bA ≠ bC := by omega
 have hAB : bA ≠ bB := by omega
 have hBlt : bB < W0.heap.size := by rw [hbB]; exact heap_lt hB
 have hwA : w.heap.size ≤ bA := by omega
 have hwC : w.heap.size ≤ bC := by omega
 rw [← hbC] at HC
 rw [← hbA] at HA k0 k1 k4
 rw [← hbB] at k2 k3
 rw [← hbC, ← hbB, ← hbA]
 clear hW0 hA hB hbA hbB hbC
 have hb0 := Below.refl W0.heap.size W0
 have hbB : bB < W0.heap.size := hBlt
 have HS : Hid (∀ x y, (((W0.setCell ⟨bA, 2, none⟩ x).setCell ⟨bA, 3, none⟩ y).cell? ⟨bB, 2, none⟩ = some (.int .i64 mn) ∧ ((W0.setCell ⟨bA, 2, none⟩ x).setCell ⟨bA, 3, none⟩ y).cell? ⟨bB, 3, none⟩ = some (.int .i64 mx)) ∧ w.heap.size ≤ ((W0.setCell ⟨bA, 2, none⟩ x).setCell ⟨bA, 3, none⟩ y).heap.size) := fun x y => ⟨⟨(cell_setCell_other _ _ _ _ (by exact hAB)).trans ((cell_setCell_other _ _ _ _ (by exact hAB)).trans k2), (cell_setCell_other _ _ _ _ (by exact hAB)).trans ((cell_setCell_other _ _ _ _ (by exact hAB)).trans k3)⟩, by simp; exact HK0.out.size⟩
 have HS1 : Hid (∀ x, ((W0.setCell ⟨bA, 2, none⟩ x).cell? ⟨bB, 2, none⟩ = some (.int .i64 mn) ∧ (W0.setCell ⟨bA, 2, none⟩ x).cell? ⟨bB, 3, none⟩ = some (.int .i64 mx)) ∧ w.heap.size ≤ (W0.setCell ⟨bA, 2, none⟩ x).heap.size) := fun x => ⟨⟨(cell_setCell_other _ _ _ _ (by exact hAB)).trans k2, (cell_setCell_other _ _ _ _ (by exact hAB)).trans k3⟩, by simp; exact HK0.out.size⟩
 refine wp_region_held_drew (S := (fun W => (W.cell? ⟨bB, 2, none⟩ = some (.int .i64 mn) ∧ W.cell? ⟨bB, 3, none⟩ = some (.int .i64 mx)) ∧ w.heap.size ≤ W.heap.size)) (by kernel_rfl) ?_ (fun hHeld => ?_)
 ·exact ⟨⟨k2, k3⟩, HK0.out.size⟩
 refine tkC 0 (oi := ⟨some 55, _, _, _, _, _⟩) (v := ?_) rfl (by kernel_rfl) (fun _ _ _ h => h) (by rfl) ?_ hHeld ?_
 rotate_left
 ·(intro w hSw; obtain ⟨⟨c0, c1⟩, hb⟩ := hSw; refine .inl ?_; go_simp; (try with_reducible rfl))
 try simp only [pU1, pU2, pU3, pU4]
 refine tkC 1 (oi := ⟨some 56, _, _, _, _, _⟩) (v := ?_) rfl (by kernel_rfl) (fun _ _ _ h => h) (by rfl) ?_ hHeld ?_
 rotate_left
 ·(intro w hSw; obtain ⟨⟨c0, c1⟩, hb⟩ := hSw; refine .inl ?_; go_simp; (try with_reducible rfl))
 try simp only [pU1, pU2, pU3, pU4]
 refine tkC 2 (oi := ⟨some 57, _, _, _, _, _⟩) (v := ?_) rfl (by kernel_rfl) (fun _ _ _ h => h) (by rfl) ?_ hHeld ?_
 rotate_left
 ·(intro w hSw; obtain ⟨⟨c0, c1⟩, hb⟩ := hSw; refine .inl ?_; go_simp; (try with_reducible rfl))
 try simp only [pU1, pU2, pU3, pU4]
 refine tkC 6 (oi := ⟨some 61, _, _, _, _, _⟩) (v := ?_) rfl (by kernel_rfl) (fun _ _ _ h => h) (by rfl) ?_ hHeld ?_
 rotate_left
 ·(intro w hSw; obtain ⟨⟨c0, c1⟩, hb⟩ := hSw; refine .inl ?_; go_simp; (try with_reducible rfl))
 try simp only [pU1, pU2, pU3, pU4]
 refine tkC 7 (oi := ⟨some 62, _, _, _, _, _⟩) (v := ?_) rfl (by kernel_rfl) (fun _ _ _ h => h) (by rfl) ?_ hHeld ?_
 rotate_left
 ·(intro w hSw; obtain ⟨⟨c0, c1⟩, hb⟩ := hSw; refine .inl ?_; go_simp; (try with_reducible rfl))
 try simp only [pU1, pU2, pU3, pU4]
 refine tkC 8 (oi := ⟨some 63, _, _, _, _, _⟩) (v := ?_) rfl (by kernel_rfl) (fun _ _ _ h => h) (by rfl) ?_ hHeld ?_
 rotate_left
 ·(intro w hSw; obtain ⟨⟨c0, c1⟩, hb⟩ := hSw; refine .inl ?_; go_simp; (try with_reducible rfl))
 try simp only [pU1, pU2, pU3, pU4]
 refine wpAnyH_ready (rs := [3, 9]) (by kernel_rfl) (by simp) ?_
 refine AllReadyH.cons (o := ⟨some 58, _, _, _, _, _⟩) rfl (fun K hK => ?_) (AllReadyH.cons (o := ⟨some 64, _, _, _, _, _⟩) rfl (fun K hK => ?_) (AllReadyH.nil))
 ·
  go_simp
  refine hK.out _ _ hHeld (fun hHeld => ?_)
  clear hK
  try simp only [pU1, pU2, pU3, pU4]
  refine tkC 4 (oi := ⟨some 59, _, _, _, _, _⟩) (v := ?_) rfl (by kernel_rfl) (fun _ _ _ h => h) (by rfl) ?_ hHeld ?_
  rotate_left
  ·(intro w hSw; obtain ⟨⟨c0, c1⟩, hb⟩ := hSw; refine .inl ?_; go_simp; (try with_reducible rfl))
  try simp only [pU1, pU2, pU3, pU4]
  refine tkC 5 (oi := ⟨some 60, _, _, _, _, _⟩) (v := ?_) rfl (by kernel_rfl) (fun _ _ _ h => h) (by rfl) ?_ hHeld ?_
  rotate_left
  ·intro w hSw
   apply enters
   ·go_simp
    exact ⟨rfl, rfl⟩
   ·exact CC.out _ _
  try simp only [pU1, pU2, pU3, pU4]
  refine wpAnyH_ready (rs := [9]) (by kernel_rfl) (by simp) ?_
  refine AllReadyH.cons (o := ⟨some 64, _, _, _, _, _⟩) rfl (fun K hK => ?_) (AllReadyH.nil)
  go_simp
  refine hK.out _ _ hHeld (fun hHeld => ?_)
  clear hK
  try simp only [pU1, pU2, pU3, pU4]
  refine tkC 10 (oi := ⟨some 65, _, _, _, _, _⟩) (v := ?_) rfl (by kernel_rfl) (fun _ _ _ h => h) (by rfl) ?_ hHeld ?_
  rotate_left
  ·(intro w hSw; obtain ⟨⟨c0, c1⟩, hb⟩ := hSw; refine .inl ?_; go_simp; (try with_reducible rfl))
  try simp only [pU1, pU2, pU3, pU4]
  refine tkC 11 (oi := ⟨some 66, _, _, _, _, _⟩) (v := ?_) rfl (by kernel_rfl) (fun _ _ _ h => h) (by rfl) ?_ hHeld ?_
  rotate_left
  ·intro w hSw
   apply enters
   ·go_simp
    exact ⟨rfl, rfl⟩
   ·exact CC.out _ _
  try simp only [pU1, pU2, pU3, pU4]
  refine tkC 12 (oi := ⟨some 67, _, _, _, _, _⟩) (v := ?_) rfl (by kernel_rfl) (fun _ _ _ h => h) (by rfl) ?_ hHeld ?_
  rotate_left
  ·(intro w hSw; obtain ⟨⟨c0, c1⟩, hb⟩ := hSw; refine .inl ?_; go_simp; (try with_reducible rfl))
  try simp only [pU1, pU2, pU3, pU4]
  refine wpAnyH_ready (rs := [13]) (by kernel_rfl) (by simp) ?_
  refine AllReadyH.cons (o := ⟨none, _, _, _, _, _⟩) rfl (fun K hK => ?_) (AllReadyH.nil)
  go_simp
  refine hK.out _ _ (HS1.out _) (fun hHeld => ?_)
  clear hK
  try simp only [pU1, pU2, pU3, pU4]
  refine tkC 14 (oi := ⟨some 68, _, _, _, _, _⟩) (v := ?_) rfl (by kernel_rfl) (fun _ _ _ h => h) (by rfl) ?_ hHeld ?_
  rotate_left
  ·(intro w hSw; obtain ⟨⟨c0, c1⟩, hb⟩ := hSw; refine .inl ?_; go_simp; (try with_reducible rfl))
  try simp only [pU1, pU2, pU3, pU4]
  refine wpAnyH_ready (rs := [15]) (by kernel_rfl) (by simp) ?_
  refine AllReadyH.cons (o := ⟨none, _, _, _, _, _⟩) rfl (fun K hK => ?_) (AllReadyH.nil)
  go_simp
  refine hK.out _ _ (HS.out _ _) (fun hHeld => ?_)
  clear hK
  try simp only [pU1, pU2, pU3, pU4]
  refine wpAnyH_done (by kernel_rfl) ?_ _
  have HE2 : Hid ((((W0.setCell ⟨bA, 2, none⟩ (.int .i64 (capI (IntKind.i64.wrap (mn * l))))).setCell ⟨bA, 3, none⟩ (.int .i64 (capI (IntKind.i64.wrap (mx * m))))).drew).heap[bA]? = some (.cells #[.int .i64 (d + 1), .int .i64 g, .int .i64 (capI (IntKind.i64.wrap (mn * l))), .int .i64 (capI (IntKind.i64.wrap (mx * m))), .bool true, .bool true] 98 (0, 0))) := heap_drew0 (heap_setCell_same _ _ 3 _ _ _ (heap_setCell_same _ _ 2 _ _ _ HA.out))
  have HX2 : Hid (Kept w (((W0.setCell ⟨bA, 2, none⟩ (.int .i64 (capI (IntKind.i64.wrap (mn * l))))).setCell ⟨bA, 3, none⟩ (.int .i64 (capI (IntKind.i64.wrap (mx * m))))).drew)) := Below.drew (Below.setCell (Below.setCell HK0.out hwA _) hwA _)
  have HC2 : Hid ((((W0.setCell ⟨bA, 2, none⟩ (.int .i64 (capI (IntKind.i64.wrap (mn * l))))).setCell ⟨bA, 3, none⟩ (.int .i64 (capI (IntKind.i64.wrap (mx * m))))).drew).heap[bC]? = some (.cells #[.int .i64 0, .int .i64 0, .int .i64 0, .int .i64 0, .bool false, .bool false] 98 (0, 0))) := heap_drew0 ((heap_set_out _ _ _ _ hAC).trans ((heap_set_out _ _ _ _ hAC).trans HC.out))
  obtain ⟨wy, hwy⟩ : ∃ x, x = ((W0.setCell ⟨bA, 2, none⟩ (.int .i64 (capI (IntKind.i64.wrap (mn * l))))).setCell ⟨bA, 3, none⟩ (.int .i64 (capI (IntKind.i64.wrap (mx * m))))).drew := ⟨_, rfl⟩
  rw [← hwy] at HE2 HX2 HC2 ⊢
  clear hwy hHeld k0 k1 k2 k3 k4 HS HS1 HA HC HK0
  go_wp2_with (first | ((refine wpList_load_row ?c0 98 (.tmp 2) ?c1 bA ?c2 98 #[.int .i64 (d + 1), .int .i64 g, .int .i64 (capI (IntKind.i64.wrap (mn * l))), .int .i64 (capI (IntKind.i64.wrap (mx * m))), .bool true, .bool true] (0, 0) _ HE2.out Tryz.underlying98 ?c3 sizeFc ?_); (case c0 => with_reducible rfl); (case c1 => with_reducible rfl); (case c2 => rfl); (case c3 => rfl)) | ((refine wpList_store_row ?c0 98 (.tmp 4) (.tmp 69) ?c1 bC #[.int .i64 (d + 1), .int .i64 g, .int .i64 (capI (IntKind.i64.wrap (mn * l))), .int .i64 (capI (IntKind.i64.wrap (mx * m))), .bool true, .bool true] ?c2 ?c3 _ _ HC2.out ?c4 ?c5 ?c6 ?_); (case c0 => with_reducible rfl); (case c1 => with_reducible rfl); (case c2 => rfl); (case c3 => rfl); (case c4 => exact sizeFc); (case c5 => rfl); (case c6 => simp [Value.oneCell'])))
  exact bodyPost_ret (results_cell_row Tryz.results71 _ _ bC _ #[.int .i64 (d + 1), .int .i64 g, .int .i64 (capI (IntKind.i64.wrap (mn * l))), .int .i64 (capI (IntKind.i64.wrap (mx * m))), .bool true, .bool true] (0, 0) _ rfl (setRow_heap _ _ _ _ _ _ HC2.out) Tryz.underlying98 rfl sizeFc) rfl ⟨rfl, below_setRow HX2.out hwC _⟩
 ·
  go_simp
  refine hK.out _ _ hHeld (fun hHeld => ?_)
  clear hK
  try simp only [pU1, pU2, pU3, pU4]
  refine tkC 10 (oi := ⟨some 65, _, _, _, _, _⟩) (v := ?_) rfl (by kernel_rfl) (fun _ _ _ h => h) (by rfl) ?_ hHeld ?_
  rotate_left
  ·(intro w hSw; obtain ⟨⟨c0, c1⟩, hb⟩ := hSw; refine .inl ?_; go_simp; (try with_reducible rfl))
  try simp only [pU1, pU2, pU3, pU4]
  refine wpAnyH_ready (rs := [3]) (by kernel_rfl) (by simp) ?_
  refine AllReadyH.cons (o := ⟨some 58, _, _, _, _, _⟩) rfl (fun K hK => ?_) (AllReadyH.nil)
  go_simp
  refine hK.out _ _ hHeld (fun hHeld => ?_)
  clear hK
  try simp only [pU1, pU2, pU3, pU4]
  refine tkC 4 (oi := ⟨some 59, _, _, _, _, _⟩) (v := ?_) rfl (by kernel_rfl) (fun _ _ _ h => h) (by rfl) ?_ hHeld ?_
  rotate_left
  ·(intro w hSw; obtain ⟨⟨c0, c1⟩, hb⟩ := hSw; refine .inl ?_; go_simp; (try with_reducible rfl))
  try simp only [pU1, pU2, pU3, pU4]
  refine tkC 5 (oi := ⟨some 60, _, _, _, _, _⟩) (v := ?_) rfl (by kernel_rfl) (fun _ _ _ h => h) (by rfl) ?_ hHeld ?_
  rotate_left
  ·intro w hSw
   apply enters
   ·go_simp
    exact ⟨rfl, rfl⟩
   ·exact CC.out _ _
  try simp only [pU1, pU2, pU3, pU4]
  refine tkC 11 (oi := ⟨some 66, _, _, _, _, _⟩) (v := ?_) rfl (by kernel_rfl) (fun _ _ _ h => h) (by rfl) ?_ hHeld ?_
  rotate_left
  ·intro w hSw
   apply enters
   ·go_simp
    exact ⟨rfl, rfl⟩
   ·exact CC.out _ _
  try simp only [pU1, pU2, pU3, pU4]
  refine tkC 12 (oi := ⟨some 67, _, _, _, _, _⟩) (v := ?_) rfl (by kernel_rfl) (fun _ _ _ h => h) (by rfl) ?_ hHeld ?_
  rotate_left
  ·(intro w hSw; obtain ⟨⟨c0, c1⟩, hb⟩ := hSw; refine .inl ?_; go_simp; (try with_reducible rfl))
  try simp only [pU1, pU2, pU3, pU4]
  refine wpAnyH_ready (rs := [13]) (by kernel_rfl) (by simp) ?_
  refine AllReadyH.cons (o := ⟨none, _, _, _, _, _⟩) rfl (fun K hK => ?_) (AllReadyH.nil)
  go_simp
  refine hK.out _ _ (HS1.out _) (fun hHeld => ?_)
  clear hK
  try simp only [pU1, pU2, pU3, pU4]
  refine tkC 14 (oi := ⟨some 68, _, _, _, _, _⟩) (v := ?_) rfl (by kernel_rfl) (fun _ _ _ h => h) (by rfl) ?_ hHeld ?_
  rotate_left
  ·(intro w hSw; obtain ⟨⟨c0, c1⟩, hb⟩ := hSw; refine .inl ?_; go_simp; (try with_reducible rfl))
  try simp only [pU1, pU2, pU3, pU4]
  refine wpAnyH_ready (rs := [15]) (by kernel_rfl) (by simp) ?_
  refine AllReadyH.cons (o := ⟨none, _, _, _, _, _⟩) rfl (fun K hK => ?_) (AllReadyH.nil)
  go_simp
  refine hK.out _ _ (HS.out _ _) (fun hHeld => ?_)
  clear hK
  try simp only [pU1, pU2, pU3, pU4]
  refine wpAnyH_done (by kernel_rfl) ?_ _
  have HE2 : Hid ((((W0.setCell ⟨bA, 2, none⟩ (.int .i64 (capI (IntKind.i64.wrap (mn * l))))).setCell ⟨bA, 3, none⟩ (.int .i64 (capI (IntKind.i64.wrap (mx * m))))).drew).heap[bA]? = some (.cells #[.int .i64 (d + 1), .int .i64 g, .int .i64 (capI (IntKind.i64.wrap (mn * l))), .int .i64 (capI (IntKind.i64.wrap (mx * m))), .bool true, .bool true] 98 (0, 0))) := heap_drew0 (heap_setCell_same _ _ 3 _ _ _ (heap_setCell_same _ _ 2 _ _ _ HA.out))
  have HX2 : Hid (Kept w (((W0.setCell ⟨bA, 2, none⟩ (.int .i64 (capI (IntKind.i64.wrap (mn * l))))).setCell ⟨bA, 3, none⟩ (.int .i64 (capI (IntKind.i64.wrap (mx * m))))).drew)) := Below.drew (Below.setCell (Below.setCell HK0.out hwA _) hwA _)
  have HC2 : Hid ((((W0.setCell ⟨bA, 2, none⟩ (.int .i64 (capI (IntKind.i64.wrap (mn * l))))).setCell ⟨bA, 3, none⟩ (.int .i64 (capI (IntKind.i64.wrap (mx * m))))).drew).heap[bC]? = some (.cells #[.int .i64 0, .int .i64 0, .int .i64 0, .int .i64 0, .bool false, .bool false] 98 (0, 0))) := heap_drew0 ((heap_set_out _ _ _ _ hAC).trans ((heap_set_out _ _ _ _ hAC).trans HC.out))
  obtain ⟨wy, hwy⟩ : ∃ x, x = ((W0.setCell ⟨bA, 2, none⟩ (.int .i64 (capI (IntKind.i64.wrap (mn * l))))).setCell ⟨bA, 3, none⟩ (.int .i64 (capI (IntKind.i64.wrap (mx * m))))).drew := ⟨_, rfl⟩
  rw [← hwy] at HE2 HX2 HC2 ⊢
  clear hwy hHeld k0 k1 k2 k3 k4 HS HS1 HA HC HK0
  go_wp2_with (first | ((refine wpList_load_row ?c0 98 (.tmp 2) ?c1 bA ?c2 98 #[.int .i64 (d + 1), .int .i64 g, .int .i64 (capI (IntKind.i64.wrap (mn * l))), .int .i64 (capI (IntKind.i64.wrap (mx * m))), .bool true, .bool true] (0, 0) _ HE2.out Tryz.underlying98 ?c3 sizeFc ?_); (case c0 => with_reducible rfl); (case c1 => with_reducible rfl); (case c2 => rfl); (case c3 => rfl)) | ((refine wpList_store_row ?c0 98 (.tmp 4) (.tmp 69) ?c1 bC #[.int .i64 (d + 1), .int .i64 g, .int .i64 (capI (IntKind.i64.wrap (mn * l))), .int .i64 (capI (IntKind.i64.wrap (mx * m))), .bool true, .bool true] ?c2 ?c3 _ _ HC2.out ?c4 ?c5 ?c6 ?_); (case c0 => with_reducible rfl); (case c1 => with_reducible rfl); (case c2 => rfl); (case c3 => rfl); (case c4 => exact sizeFc); (case c5 => rfl); (case c6 => simp [Value.oneCell'])))
  exact bodyPost_ret (results_cell_row Tryz.results71 _ _ bC _ #[.int .i64 (d + 1), .int .i64 g, .int .i64 (capI (IntKind.i64.wrap (mn * l))), .int .i64 (capI (IntKind.i64.wrap (mx * m))), .bool true, .bool true] (0, 0) _ rfl (setRow_heap _ _ _ _ _ _ HC2.out) Tryz.underlying98 rfl sizeFc) rfl ⟨rfl, below_setRow HX2.out hwC _⟩
set_option maxRecDepth 20000 in
set_option maxHeartbeats 2000000 in
theorem rep_a2 (hd : 0 ≤ d ∧ d ≤ 1000000) (hx : mx ≠ -1) (hx2 : 0 < mx) : Calls Tryz.prog 71 #[fctV ⟨d, g, l, m, en, true⟩, ndV 5 A1 sn c1 mn mx lz A2 un c2] w fun e w' => e = .returned (.agg #[.int .i64 (d + 1), .int .i64 g, .int .i64 (capI (IntKind.i64.wrap (mn * l))), .int .i64 (capI (IntKind.i64.wrap (mx * m))), .bool en, .bool true]) ∧ Kept w w' := by
 obtain ⟨hd1, hd2⟩ := hd
 have x1 : (mx == -1) = false := by simp [hx]
 clear hx
 have CC := Lib.hid capped_any
 unfold fctV
 dsimp only
 go_enter Tryz.func71, Tryz.ntmps71
 go_upto_region 10 with fail
 obtain ⟨W0, hW0⟩ : ∃ x, x = ((w.alloc (.cells #[.int .i64 (d + 1), .int .i64 g, .int .i64 l, .int .i64 m, .bool en, .bool true] 98)).alloc (.cells #[.int .u8 5, .slice A1 sn c1, .int .i64 mn, .int .i64 mx, .bool lz, .slice A2 un c2] 25)).alloc (.cells #[.int .i64 0, .int .i64 0, .int .i64 0, .int .i64 0, .bool false, .bool false] 98) := ⟨_, rfl⟩
 rw [← hW0]
 have hA : W0.heap[w.heap.size]? = some (.cells #[.int .i64 (d + 1), .int .i64 g, .int .i64 l, .int .i64 m, .bool en, .bool true] 98 (0, 0)) := by rw [hW0]; exact (Below.heap_alloc _ _ _ (by simp; omega)).trans ((Below.heap_alloc _ _ _ (by simp)).trans (heap_alloc_new w _))
 have hB : W0.heap[w.heap.size + 1]? = some (.cells #[.int .u8 5, .slice A1 sn c1, .int .i64 mn, .int .i64 mx, .bool lz, .slice A2 un c2] 25 (0, 0)) := by
  have := heap_alloc_new (w.alloc (.cells #[.int .i64 (d + 1), .int .i64 g, .int .i64 l, .int .i64 m, .bool en, .bool true] 98)) (.cells #[.int .u8 5, .slice A1 sn c1, .int .i64 mn, .int .i64 mx, .bool lz, .slice A2 un c2] 25)
  rw [World.size_alloc] at this
  rw [hW0]
  exact (Below.heap_alloc _ _ _ (by simp)).trans this
 have HC : Hid (W0.heap[w.heap.size + 1 + 1]? = some (.cells #[.int .i64 0, .int .i64 0, .int .i64 0, .int .i64 0, .bool false, .bool false] 98 (0, 0))) := by rw [hW0]; exact alloc_new2 _ _ _ _
 have HK0 : Hid (Kept w W0) := by rw [hW0]; exact (((Below.refl _ w).alloc (Nat.le_refl _) _).alloc (by simp) _).alloc (by simp; omega) _
 have HA := Lib.hid hA
 have k0 : W0.cell? ⟨w.heap.size, 2, none⟩ = some (.int .i64 l) := by rw [cell_of_row _ _ _ _ _ _ hA]; rfl
 have k1 : W0.cell? ⟨w.heap.size, 3, none⟩ = some (.int .i64 m) := by rw [cell_of_row _ _ _ _ _ _ hA]; rfl
 have k2 : W0.cell? ⟨w.heap.size + 1, 2, none⟩ = some (.int .i64 mn) := by rw [cell_of_row _ _ _ _ _ _ hB]; rfl
 have k3 : W0.cell? ⟨w.heap.size + 1, 3, none⟩ = some (.int .i64 mx) := by rw [cell_of_row _ _ _ _ _ _ hB]; rfl
 have k4 : ∀ j, W0.frozen? ⟨w.heap.size, j, none⟩ = false := fun j => by simp [World.frozen?, show W0.heap[w.heap.size]? = _ from hA]
 obtain ⟨bA, hbA⟩ : ∃ b, b = w.heap.size := ⟨_, rfl⟩
 obtain ⟨bB, hbB⟩ : ∃ b, b = w.heap.size + 1 := ⟨_, rfl⟩
 obtain ⟨bC, hbC⟩ : ∃ b, b = w.heap.size + 1 + 1 := ⟨_, rfl⟩
 have hAC : bA ≠ bC := by omega
 have hAB : bA ≠ bB := by omega
 have hBlt : bB < W0.heap.size := by rw [hbB]; exact heap_lt hB
 have hwA : w.heap.size ≤ bA := by omega
 have hwC : w.heap.size ≤ bC := by omega
 rw [← hbC] at HC
 rw [← hbA] at HA k0 k1 k4
 rw [← hbB] at k2 k3
 rw [← hbC, ← hbB, ← hbA]
 clear hW0 hA hB hbA hbB hbC
 have hb0 := Below.refl W0.heap.size W0
 have hbB : bB < W0.heap.size := hBlt
 have HS : Hid (∀ x y, (((W0.setCell ⟨bA, 2, none⟩ x).setCell ⟨bA, 3, none⟩ y).cell? ⟨bB, 2, none⟩ = some (.int .i64 mn) ∧ ((W0.setCell ⟨bA, 2, none⟩ x).setCell ⟨bA, 3, none⟩ y).cell? ⟨bB, 3, none⟩ = some (.int .i64 mx)) ∧ w.heap.size ≤ ((W0.setCell ⟨bA, 2, none⟩ x).setCell ⟨bA, 3, none⟩ y).heap.size) := fun x y => ⟨⟨(cell_setCell_other _ _ _ _ (by exact hAB)).trans ((cell_setCell_other _ _ _ _ (by exact hAB)).trans k2), (cell_setCell_other _ _ _ _ (by exact hAB)).trans ((cell_setCell_other _ _ _ _ (by exact hAB)).trans k3)⟩, by simp; exact HK0.out.size⟩
 have HS1 : Hid (∀ x, ((W0.setCell ⟨bA, 2, none⟩ x).cell? ⟨bB, 2, none⟩ = some (.int .i64 mn) ∧ (W0.setCell ⟨bA, 2, none⟩ x).cell? ⟨bB, 3, none⟩ = some (.int .i64 mx)) ∧ w.heap.size ≤ (W0.setCell ⟨bA, 2, none⟩ x).heap.size) := fun x => ⟨⟨(cell_setCell_other _ _ _ _ (by exact hAB)).trans k2, (cell_setCell_other _ _ _ _ (by exact hAB)).trans k3⟩, by simp; exact HK0.out.size⟩
 refine wp_region_held_drew (S := (fun W => (W.cell? ⟨bB, 2, none⟩ = some (.int .i64 mn) ∧ W.cell? ⟨bB, 3, none⟩ = some (.int .i64 mx)) ∧ w.heap.size ≤ W.heap.size)) (by kernel_rfl) ?_ (fun hHeld => ?_)
 ·exact ⟨⟨k2, k3⟩, HK0.out.size⟩
 refine tkC 0 (oi := ⟨some 55, _, _, _, _, _⟩) (v := ?_) rfl (by kernel_rfl) (fun _ _ _ h => h) (by rfl) ?_ hHeld ?_
 rotate_left
 ·(intro w hSw; obtain ⟨⟨c0, c1⟩, hb⟩ := hSw; refine .inl ?_; go_simp; (try with_reducible rfl))
 try simp only [pU1, pU2, pU3, pU4]
 refine tkC 1 (oi := ⟨some 56, _, _, _, _, _⟩) (v := ?_) rfl (by kernel_rfl) (fun _ _ _ h => h) (by rfl) ?_ hHeld ?_
 rotate_left
 ·(intro w hSw; obtain ⟨⟨c0, c1⟩, hb⟩ := hSw; refine .inl ?_; go_simp; (try with_reducible rfl))
 try simp only [pU1, pU2, pU3, pU4]
 refine tkC 2 (oi := ⟨some 57, _, _, _, _, _⟩) (v := ?_) rfl (by kernel_rfl) (fun _ _ _ h => h) (by rfl) ?_ hHeld ?_
 rotate_left
 ·(intro w hSw; obtain ⟨⟨c0, c1⟩, hb⟩ := hSw; refine .inl ?_; go_simp; (try with_reducible rfl))
 try simp only [pU1, pU2, pU3, pU4]
 refine tkC 6 (oi := ⟨some 61, _, _, _, _, _⟩) (v := ?_) rfl (by kernel_rfl) (fun _ _ _ h => h) (by rfl) ?_ hHeld ?_
 rotate_left
 ·(intro w hSw; obtain ⟨⟨c0, c1⟩, hb⟩ := hSw; refine .inl ?_; go_simp; (try with_reducible rfl))
 try simp only [pU1, pU2, pU3, pU4]
 refine tkC 7 (oi := ⟨some 62, _, _, _, _, _⟩) (v := ?_) rfl (by kernel_rfl) (fun _ _ _ h => h) (by rfl) ?_ hHeld ?_
 rotate_left
 ·(intro w hSw; obtain ⟨⟨c0, c1⟩, hb⟩ := hSw; refine .inl ?_; go_simp; (try with_reducible rfl))
 try simp only [pU1, pU2, pU3, pU4]
 refine tkC 8 (oi := ⟨some 63, _, _, _, _, _⟩) (v := ?_) rfl (by kernel_rfl) (fun _ _ _ h => h) (by rfl) ?_ hHeld ?_
 rotate_left
 ·(intro w hSw; obtain ⟨⟨c0, c1⟩, hb⟩ := hSw; refine .inl ?_; go_simp; (try with_reducible rfl))
 try simp only [pU1, pU2, pU3, pU4]
 refine wpAnyH_ready (rs := [3, 9]) (by kernel_rfl) (by simp) ?_
 refine AllReadyH.cons (o := ⟨some 58, _, _, _, _, _⟩) rfl (fun K hK => ?_) (AllReadyH.cons (o := ⟨some 64, _, _, _, _, _⟩) rfl (fun K hK => ?_) (AllReadyH.nil))
 ·
  go_simp
  refine hK.out _ _ hHeld (fun hHeld => ?_)
  clear hK
  try simp only [pU1, pU2, pU3, pU4]
  refine tkC 4 (oi := ⟨some 59, _, _, _, _, _⟩) (v := ?_) rfl (by kernel_rfl) (fun _ _ _ h => h) (by rfl) ?_ hHeld ?_
  rotate_left
  ·(intro w hSw; obtain ⟨⟨c0, c1⟩, hb⟩ := hSw; refine .inl ?_; go_simp; (try with_reducible rfl))
  try simp only [pU1, pU2, pU3, pU4]
  refine tkC 5 (oi := ⟨some 60, _, _, _, _, _⟩) (v := ?_) rfl (by kernel_rfl) (fun _ _ _ h => h) (by rfl) ?_ hHeld ?_
  rotate_left
  ·intro w hSw
   apply enters
   ·go_simp
    exact ⟨rfl, rfl⟩
   ·exact CC.out _ _
  try simp only [pU1, pU2, pU3, pU4]
  refine wpAnyH_ready (rs := [9]) (by kernel_rfl) (by simp) ?_
  refine AllReadyH.cons (o := ⟨some 64, _, _, _, _, _⟩) rfl (fun K hK => ?_) (AllReadyH.nil)
  go_simp
  refine hK.out _ _ hHeld (fun hHeld => ?_)
  clear hK
  try simp only [pU1, pU2, pU3, pU4]
  refine tkC 10 (oi := ⟨some 65, _, _, _, _, _⟩) (v := ?_) rfl (by kernel_rfl) (fun _ _ _ h => h) (by rfl) ?_ hHeld ?_
  rotate_left
  ·(intro w hSw; obtain ⟨⟨c0, c1⟩, hb⟩ := hSw; refine .inl ?_; go_simp; (try with_reducible rfl))
  try simp only [pU1, pU2, pU3, pU4]
  refine tkC 11 (oi := ⟨some 66, _, _, _, _, _⟩) (v := ?_) rfl (by kernel_rfl) (fun _ _ _ h => h) (by rfl) ?_ hHeld ?_
  rotate_left
  ·intro w hSw
   apply enters
   ·go_simp
    exact ⟨rfl, rfl⟩
   ·exact CC.out _ _
  try simp only [pU1, pU2, pU3, pU4]
  refine tkC 12 (oi := ⟨some 67, _, _, _, _, _⟩) (v := ?_) rfl (by kernel_rfl) (fun _ _ _ h => h) (by rfl) ?_ hHeld ?_
  rotate_left
  ·(intro w hSw; obtain ⟨⟨c0, c1⟩, hb⟩ := hSw; refine .inl ?_; go_simp; (try with_reducible rfl))
  try simp only [pU1, pU2, pU3, pU4]
  refine wpAnyH_ready (rs := [13]) (by kernel_rfl) (by simp) ?_
  refine AllReadyH.cons (o := ⟨none, _, _, _, _, _⟩) rfl (fun K hK => ?_) (AllReadyH.nil)
  go_simp
  refine hK.out _ _ (HS1.out _) (fun hHeld => ?_)
  clear hK
  try simp only [pU1, pU2, pU3, pU4]
  refine tkC 14 (oi := ⟨some 68, _, _, _, _, _⟩) (v := ?_) rfl (by kernel_rfl) (fun _ _ _ h => h) (by rfl) ?_ hHeld ?_
  rotate_left
  ·(intro w hSw; obtain ⟨⟨c0, c1⟩, hb⟩ := hSw; refine .inl ?_; go_simp; (try with_reducible rfl))
  try simp only [pU1, pU2, pU3, pU4]
  refine wpAnyH_ready (rs := [15]) (by kernel_rfl) (by simp) ?_
  refine AllReadyH.cons (o := ⟨none, _, _, _, _, _⟩) rfl (fun K hK => ?_) (AllReadyH.nil)
  go_simp
  refine hK.out _ _ (HS.out _ _) (fun hHeld => ?_)
  clear hK
  try simp only [pU1, pU2, pU3, pU4]
  refine wpAnyH_done (by kernel_rfl) ?_ _
  have HE2 : Hid ((((W0.setCell ⟨bA, 2, none⟩ (.int .i64 (capI (IntKind.i64.wrap (mn * l))))).setCell ⟨bA, 3, none⟩ (.int .i64 (capI (IntKind.i64.wrap (mx * m))))).drew).heap[bA]? = some (.cells #[.int .i64 (d + 1), .int .i64 g, .int .i64 (capI (IntKind.i64.wrap (mn * l))), .int .i64 (capI (IntKind.i64.wrap (mx * m))), .bool en, .bool true] 98 (0, 0))) := heap_drew0 (heap_setCell_same _ _ 3 _ _ _ (heap_setCell_same _ _ 2 _ _ _ HA.out))
  have HX2 : Hid (Kept w (((W0.setCell ⟨bA, 2, none⟩ (.int .i64 (capI (IntKind.i64.wrap (mn * l))))).setCell ⟨bA, 3, none⟩ (.int .i64 (capI (IntKind.i64.wrap (mx * m))))).drew)) := Below.drew (Below.setCell (Below.setCell HK0.out hwA _) hwA _)
  have HC2 : Hid ((((W0.setCell ⟨bA, 2, none⟩ (.int .i64 (capI (IntKind.i64.wrap (mn * l))))).setCell ⟨bA, 3, none⟩ (.int .i64 (capI (IntKind.i64.wrap (mx * m))))).drew).heap[bC]? = some (.cells #[.int .i64 0, .int .i64 0, .int .i64 0, .int .i64 0, .bool false, .bool false] 98 (0, 0))) := heap_drew0 ((heap_set_out _ _ _ _ hAC).trans ((heap_set_out _ _ _ _ hAC).trans HC.out))
  obtain ⟨wy, hwy⟩ : ∃ x, x = ((W0.setCell ⟨bA, 2, none⟩ (.int .i64 (capI (IntKind.i64.wrap (mn * l))))).setCell ⟨bA, 3, none⟩ (.int .i64 (capI (IntKind.i64.wrap (mx * m))))).drew := ⟨_, rfl⟩
  rw [← hwy] at HE2 HX2 HC2 ⊢
  clear hwy hHeld k0 k1 k2 k3 k4 HS HS1 HA HC HK0
  go_wp2_with (first | ((refine wpList_load_row ?c0 98 (.tmp 2) ?c1 bA ?c2 98 #[.int .i64 (d + 1), .int .i64 g, .int .i64 (capI (IntKind.i64.wrap (mn * l))), .int .i64 (capI (IntKind.i64.wrap (mx * m))), .bool en, .bool true] (0, 0) _ HE2.out Tryz.underlying98 ?c3 sizeFc ?_); (case c0 => with_reducible rfl); (case c1 => with_reducible rfl); (case c2 => rfl); (case c3 => rfl)) | ((refine wpList_store_row ?c0 98 (.tmp 4) (.tmp 69) ?c1 bC #[.int .i64 (d + 1), .int .i64 g, .int .i64 (capI (IntKind.i64.wrap (mn * l))), .int .i64 (capI (IntKind.i64.wrap (mx * m))), .bool en, .bool true] ?c2 ?c3 _ _ HC2.out ?c4 ?c5 ?c6 ?_); (case c0 => with_reducible rfl); (case c1 => with_reducible rfl); (case c2 => rfl); (case c3 => rfl); (case c4 => exact sizeFc); (case c5 => rfl); (case c6 => simp [Value.oneCell'])))
  exact bodyPost_ret (results_cell_row Tryz.results71 _ _ bC _ #[.int .i64 (d + 1), .int .i64 g, .int .i64 (capI (IntKind.i64.wrap (mn * l))), .int .i64 (capI (IntKind.i64.wrap (mx * m))), .bool en, .bool true] (0, 0) _ rfl (setRow_heap _ _ _ _ _ _ HC2.out) Tryz.underlying98 rfl sizeFc) rfl ⟨rfl, below_setRow HX2.out hwC _⟩
 ·
  go_simp
  refine hK.out _ _ hHeld (fun hHeld => ?_)
  clear hK
  try simp only [pU1, pU2, pU3, pU4]
  refine tkC 10 (oi := ⟨some 65, _, _, _, _, _⟩) (v := ?_) rfl (by kernel_rfl) (fun _ _ _ h => h) (by rfl) ?_ hHeld ?_
  rotate_left
  ·(intro w hSw; obtain ⟨⟨c0, c1⟩, hb⟩ := hSw; refine .inl ?_; go_simp; (try with_reducible rfl))
  try simp only [pU1, pU2, pU3, pU4]
  refine wpAnyH_ready (rs := [3]) (by kernel_rfl) (by simp) ?_
  refine AllReadyH.cons (o := ⟨some 58, _, _, _, _, _⟩) rfl (fun K hK => ?_) (AllReadyH.nil)
  go_simp
  refine hK.out _ _ hHeld (fun hHeld => ?_)
  clear hK
  try simp only [pU1, pU2, pU3, pU4]
  refine tkC 4 (oi := ⟨some 59, _, _, _, _, _⟩) (v := ?_) rfl (by kernel_rfl) (fun _ _ _ h => h) (by rfl) ?_ hHeld ?_
  rotate_left
  ·(intro w hSw; obtain ⟨⟨c0, c1⟩, hb⟩ := hSw; refine .inl ?_; go_simp; (try with_reducible rfl))
  try simp only [pU1, pU2, pU3, pU4]
  refine tkC 5 (oi := ⟨some 60, _, _, _, _, _⟩) (v := ?_) rfl (by kernel_rfl) (fun _ _ _ h => h) (by rfl) ?_ hHeld ?_
  rotate_left
  ·intro w hSw
   apply enters
   ·go_simp
    exact ⟨rfl, rfl⟩
   ·exact CC.out _ _
  try simp only [pU1, pU2, pU3, pU4]
  refine tkC 11 (oi := ⟨some 66, _, _, _, _, _⟩) (v := ?_) rfl (by kernel_rfl) (fun _ _ _ h => h) (by rfl) ?_ hHeld ?_
  rotate_left
  ·intro w hSw
   apply enters
   ·go_simp
    exact ⟨rfl, rfl⟩
   ·exact CC.out _ _
  try simp only [pU1, pU2, pU3, pU4]
  refine tkC 12 (oi := ⟨some 67, _, _, _, _, _⟩) (v := ?_) rfl (by kernel_rfl) (fun _ _ _ h => h) (by rfl) ?_ hHeld ?_
  rotate_left
  ·(intro w hSw; obtain ⟨⟨c0, c1⟩, hb⟩ := hSw; refine .inl ?_; go_simp; (try with_reducible rfl))
  try simp only [pU1, pU2, pU3, pU4]
  refine wpAnyH_ready (rs := [13]) (by kernel_rfl) (by simp) ?_
  refine AllReadyH.cons (o := ⟨none, _, _, _, _, _⟩) rfl (fun K hK => ?_) (AllReadyH.nil)
  go_simp
  refine hK.out _ _ (HS1.out _) (fun hHeld => ?_)
  clear hK
  try simp only [pU1, pU2, pU3, pU4]
  refine tkC 14 (oi := ⟨some 68, _, _, _, _, _⟩) (v := ?_) rfl (by kernel_rfl) (fun _ _ _ h => h) (by rfl) ?_ hHeld ?_
  rotate_left
  ·(intro w hSw; obtain ⟨⟨c0, c1⟩, hb⟩ := hSw; refine .inl ?_; go_simp; (try with_reducible rfl))
  try simp only [pU1, pU2, pU3, pU4]
  refine wpAnyH_ready (rs := [15]) (by kernel_rfl) (by simp) ?_
  refine AllReadyH.cons (o := ⟨none, _, _, _, _, _⟩) rfl (fun K hK => ?_) (AllReadyH.nil)
  go_simp
  refine hK.out _ _ (HS.out _ _) (fun hHeld => ?_)
  clear hK
  try simp only [pU1, pU2, pU3, pU4]
  refine wpAnyH_done (by kernel_rfl) ?_ _
  have HE2 : Hid ((((W0.setCell ⟨bA, 2, none⟩ (.int .i64 (capI (IntKind.i64.wrap (mn * l))))).setCell ⟨bA, 3, none⟩ (.int .i64 (capI (IntKind.i64.wrap (mx * m))))).drew).heap[bA]? = some (.cells #[.int .i64 (d + 1), .int .i64 g, .int .i64 (capI (IntKind.i64.wrap (mn * l))), .int .i64 (capI (IntKind.i64.wrap (mx * m))), .bool en, .bool true] 98 (0, 0))) := heap_drew0 (heap_setCell_same _ _ 3 _ _ _ (heap_setCell_same _ _ 2 _ _ _ HA.out))
  have HX2 : Hid (Kept w (((W0.setCell ⟨bA, 2, none⟩ (.int .i64 (capI (IntKind.i64.wrap (mn * l))))).setCell ⟨bA, 3, none⟩ (.int .i64 (capI (IntKind.i64.wrap (mx * m))))).drew)) := Below.drew (Below.setCell (Below.setCell HK0.out hwA _) hwA _)
  have HC2 : Hid ((((W0.setCell ⟨bA, 2, none⟩ (.int .i64 (capI (IntKind.i64.wrap (mn * l))))).setCell ⟨bA, 3, none⟩ (.int .i64 (capI (IntKind.i64.wrap (mx * m))))).drew).heap[bC]? = some (.cells #[.int .i64 0, .int .i64 0, .int .i64 0, .int .i64 0, .bool false, .bool false] 98 (0, 0))) := heap_drew0 ((heap_set_out _ _ _ _ hAC).trans ((heap_set_out _ _ _ _ hAC).trans HC.out))
  obtain ⟨wy, hwy⟩ : ∃ x, x = ((W0.setCell ⟨bA, 2, none⟩ (.int .i64 (capI (IntKind.i64.wrap (mn * l))))).setCell ⟨bA, 3, none⟩ (.int .i64 (capI (IntKind.i64.wrap (mx * m))))).drew := ⟨_, rfl⟩
  rw [← hwy] at HE2 HX2 HC2 ⊢
  clear hwy hHeld k0 k1 k2 k3 k4 HS HS1 HA HC HK0
  go_wp2_with (first | ((refine wpList_load_row ?c0 98 (.tmp 2) ?c1 bA ?c2 98 #[.int .i64 (d + 1), .int .i64 g, .int .i64 (capI (IntKind.i64.wrap (mn * l))), .int .i64 (capI (IntKind.i64.wrap (mx * m))), .bool en, .bool true] (0, 0) _ HE2.out Tryz.underlying98 ?c3 sizeFc ?_); (case c0 => with_reducible rfl); (case c1 => with_reducible rfl); (case c2 => rfl); (case c3 => rfl)) | ((refine wpList_store_row ?c0 98 (.tmp 4) (.tmp 69) ?c1 bC #[.int .i64 (d + 1), .int .i64 g, .int .i64 (capI (IntKind.i64.wrap (mn * l))), .int .i64 (capI (IntKind.i64.wrap (mx * m))), .bool en, .bool true] ?c2 ?c3 _ _ HC2.out ?c4 ?c5 ?c6 ?_); (case c0 => with_reducible rfl); (case c1 => with_reducible rfl); (case c2 => rfl); (case c3 => rfl); (case c4 => exact sizeFc); (case c5 => rfl); (case c6 => simp [Value.oneCell'])))
  exact bodyPost_ret (results_cell_row Tryz.results71 _ _ bC _ #[.int .i64 (d + 1), .int .i64 g, .int .i64 (capI (IntKind.i64.wrap (mn * l))), .int .i64 (capI (IntKind.i64.wrap (mx * m))), .bool en, .bool true] (0, 0) _ rfl (setRow_heap _ _ _ _ _ _ HC2.out) Tryz.underlying98 rfl sizeFc) rfl ⟨rfl, below_setRow HX2.out hwC _⟩
set_option maxRecDepth 20000 in
set_option maxHeartbeats 2000000 in
theorem rep_a3 (hd : 0 ≤ d ∧ d ≤ 1000000) (hx : mx ≠ -1) (hx2 : ¬ 0 < mx) : Calls Tryz.prog 71 #[fctV ⟨d, g, l, m, en, true⟩, ndV 5 A1 sn c1 mn mx lz A2 un c2] w fun e w' => e = .returned (.agg #[.int .i64 (d + 1), .int .i64 g, .int .i64 (capI (IntKind.i64.wrap (mn * l))), .int .i64 (capI (IntKind.i64.wrap (mx * m))), .bool false, .bool true]) ∧ Kept w w' := by
 obtain ⟨hd1, hd2⟩ := hd
 have x1 : (mx == -1) = false := by simp [hx]
 have x3 : ¬ 1 < mx := by omega
 clear hx
 have CC := Lib.hid capped_any
 unfold fctV
 dsimp only
 go_enter Tryz.func71, Tryz.ntmps71
 go_upto_region 10 with fail
 obtain ⟨W0, hW0⟩ : ∃ x, x = ((w.alloc (.cells #[.int .i64 (d + 1), .int .i64 g, .int .i64 l, .int .i64 m, .bool false, .bool true] 98)).alloc (.cells #[.int .u8 5, .slice A1 sn c1, .int .i64 mn, .int .i64 mx, .bool lz, .slice A2 un c2] 25)).alloc (.cells #[.int .i64 0, .int .i64 0, .int .i64 0, .int .i64 0, .bool false, .bool false] 98) := ⟨_, rfl⟩
 rw [← hW0]
 have hA : W0.heap[w.heap.size]? = some (.cells #[.int .i64 (d + 1), .int .i64 g, .int .i64 l, .int .i64 m, .bool false, .bool true] 98 (0, 0)) := by rw [hW0]; exact (Below.heap_alloc _ _ _ (by simp; omega)).trans ((Below.heap_alloc _ _ _ (by simp)).trans (heap_alloc_new w _))
 have hB : W0.heap[w.heap.size + 1]? = some (.cells #[.int .u8 5, .slice A1 sn c1, .int .i64 mn, .int .i64 mx, .bool lz, .slice A2 un c2] 25 (0, 0)) := by
  have := heap_alloc_new (w.alloc (.cells #[.int .i64 (d + 1), .int .i64 g, .int .i64 l, .int .i64 m, .bool false, .bool true] 98)) (.cells #[.int .u8 5, .slice A1 sn c1, .int .i64 mn, .int .i64 mx, .bool lz, .slice A2 un c2] 25)
  rw [World.size_alloc] at this
  rw [hW0]
  exact (Below.heap_alloc _ _ _ (by simp)).trans this
 have HC : Hid (W0.heap[w.heap.size + 1 + 1]? = some (.cells #[.int .i64 0, .int .i64 0, .int .i64 0, .int .i64 0, .bool false, .bool false] 98 (0, 0))) := by rw [hW0]; exact alloc_new2 _ _ _ _
 have HK0 : Hid (Kept w W0) := by rw [hW0]; exact (((Below.refl _ w).alloc (Nat.le_refl _) _).alloc (by simp) _).alloc (by simp; omega) _
 have HA := Lib.hid hA
 have k0 : W0.cell? ⟨w.heap.size, 2, none⟩ = some (.int .i64 l) := by rw [cell_of_row _ _ _ _ _ _ hA]; rfl
 have k1 : W0.cell? ⟨w.heap.size, 3, none⟩ = some (.int .i64 m) := by rw [cell_of_row _ _ _ _ _ _ hA]; rfl
 have k2 : W0.cell? ⟨w.heap.size + 1, 2, none⟩ = some (.int .i64 mn) := by rw [cell_of_row _ _ _ _ _ _ hB]; rfl
 have k3 : W0.cell? ⟨w.heap.size + 1, 3, none⟩ = some (.int .i64 mx) := by rw [cell_of_row _ _ _ _ _ _ hB]; rfl
 have k4 : ∀ j, W0.frozen? ⟨w.heap.size, j, none⟩ = false := fun j => by simp [World.frozen?, show W0.heap[w.heap.size]? = _ from hA]
 obtain ⟨bA, hbA⟩ : ∃ b, b = w.heap.size := ⟨_, rfl⟩
 obtain ⟨bB, hbB⟩ : ∃ b, b = w.heap.size + 1 := ⟨_, rfl⟩
 obtain ⟨bC, hbC⟩ : ∃ b, b = w.heap.size + 1 + 1 := ⟨_, rfl⟩
 have hAC : bA ≠ bC := by omega
 have hAB : bA ≠ bB := by omega
 have hBlt : bB < W0.heap.size := by rw [hbB]; exact heap_lt hB
 have hwA : w.heap.size ≤ bA := by omega
 have hwC : w.heap.size ≤ bC := by omega
 rw [← hbC] at HC
 rw [← hbA] at HA k0 k1 k4
 rw [← hbB] at k2 k3
 rw [← hbC, ← hbB, ← hbA]
 clear hW0 hA hB hbA hbB hbC
 have hb0 := Below.refl W0.heap.size W0
 have hbB : bB < W0.heap.size := hBlt
 have HS : Hid (∀ x y, (((W0.setCell ⟨bA, 2, none⟩ x).setCell ⟨bA, 3, none⟩ y).cell? ⟨bB, 2, none⟩ = some (.int .i64 mn) ∧ ((W0.setCell ⟨bA, 2, none⟩ x).setCell ⟨bA, 3, none⟩ y).cell? ⟨bB, 3, none⟩ = some (.int .i64 mx)) ∧ w.heap.size ≤ ((W0.setCell ⟨bA, 2, none⟩ x).setCell ⟨bA, 3, none⟩ y).heap.size) := fun x y => ⟨⟨(cell_setCell_other _ _ _ _ (by exact hAB)).trans ((cell_setCell_other _ _ _ _ (by exact hAB)).trans k2), (cell_setCell_other _ _ _ _ (by exact hAB)).trans ((cell_setCell_other _ _ _ _ (by exact hAB)).trans k3)⟩, by simp; exact HK0.out.size⟩
 have HS1 : Hid (∀ x, ((W0.setCell ⟨bA, 2, none⟩ x).cell? ⟨bB, 2, none⟩ = some (.int .i64 mn) ∧ (W0.setCell ⟨bA, 2, none⟩ x).cell? ⟨bB, 3, none⟩ = some (.int .i64 mx)) ∧ w.heap.size ≤ (W0.setCell ⟨bA, 2, none⟩ x).heap.size) := fun x => ⟨⟨(cell_setCell_other _ _ _ _ (by exact hAB)).trans k2, (cell_setCell_other _ _ _ _ (by exact hAB)).trans k3⟩, by simp; exact HK0.out.size⟩
 refine wp_region_held_drew (S := (fun W => (W.cell? ⟨bB, 2, none⟩ = some (.int .i64 mn) ∧ W.cell? ⟨bB, 3, none⟩ = some (.int .i64 mx)) ∧ w.heap.size ≤ W.heap.size)) (by kernel_rfl) ?_ (fun hHeld => ?_)
 ·exact ⟨⟨k2, k3⟩, HK0.out.size⟩
 refine tkC 0 (oi := ⟨some 55, _, _, _, _, _⟩) (v := ?_) rfl (by kernel_rfl) (fun _ _ _ h => h) (by rfl) ?_ hHeld ?_
 rotate_left
 ·(intro w hSw; obtain ⟨⟨c0, c1⟩, hb⟩ := hSw; refine .inl ?_; go_simp; (try with_reducible rfl))
 try simp only [pU1, pU2, pU3, pU4]
 refine tkC 1 (oi := ⟨some 56, _, _, _, _, _⟩) (v := ?_) rfl (by kernel_rfl) (fun _ _ _ h => h) (by rfl) ?_ hHeld ?_
 rotate_left
 ·(intro w hSw; obtain ⟨⟨c0, c1⟩, hb⟩ := hSw; refine .inl ?_; go_simp; (try with_reducible rfl))
 try simp only [pU1, pU2, pU3, pU4]
 refine tkC 2 (oi := ⟨some 57, _, _, _, _, _⟩) (v := ?_) rfl (by kernel_rfl) (fun _ _ _ h => h) (by rfl) ?_ hHeld ?_
 rotate_left
 ·(intro w hSw; obtain ⟨⟨c0, c1⟩, hb⟩ := hSw; refine .inl ?_; go_simp; (try with_reducible rfl))
 try simp only [pU1, pU2, pU3, pU4]
 refine tkC 6 (oi := ⟨some 61, _, _, _, _, _⟩) (v := ?_) rfl (by kernel_rfl) (fun _ _ _ h => h) (by rfl) ?_ hHeld ?_
 rotate_left
 ·(intro w hSw; obtain ⟨⟨c0, c1⟩, hb⟩ := hSw; refine .inl ?_; go_simp; (try with_reducible rfl))
 try simp only [pU1, pU2, pU3, pU4]
 refine tkC 7 (oi := ⟨some 62, _, _, _, _, _⟩) (v := ?_) rfl (by kernel_rfl) (fun _ _ _ h => h) (by rfl) ?_ hHeld ?_
 rotate_left
 ·(intro w hSw; obtain ⟨⟨c0, c1⟩, hb⟩ := hSw; refine .inl ?_; go_simp; (try with_reducible rfl))
 try simp only [pU1, pU2, pU3, pU4]
 refine tkC 8 (oi := ⟨some 63, _, _, _, _, _⟩) (v := ?_) rfl (by kernel_rfl) (fun _ _ _ h => h) (by rfl) ?_ hHeld ?_
 rotate_left
 ·(intro w hSw; obtain ⟨⟨c0, c1⟩, hb⟩ := hSw; refine .inl ?_; go_simp; (try with_reducible rfl))
 try simp only [pU1, pU2, pU3, pU4]
 refine wpAnyH_ready (rs := [3, 9]) (by kernel_rfl) (by simp) ?_
 refine AllReadyH.cons (o := ⟨some 58, _, _, _, _, _⟩) rfl (fun K hK => ?_) (AllReadyH.cons (o := ⟨some 64, _, _, _, _, _⟩) rfl (fun K hK => ?_) (AllReadyH.nil))
 ·
  go_simp
  refine hK.out _ _ hHeld (fun hHeld => ?_)
  clear hK
  try simp only [pU1, pU2, pU3, pU4]
  refine tkC 4 (oi := ⟨some 59, _, _, _, _, _⟩) (v := ?_) rfl (by kernel_rfl) (fun _ _ _ h => h) (by rfl) ?_ hHeld ?_
  rotate_left
  ·(intro w hSw; obtain ⟨⟨c0, c1⟩, hb⟩ := hSw; refine .inl ?_; go_simp; (try with_reducible rfl))
  try simp only [pU1, pU2, pU3, pU4]
  refine tkC 5 (oi := ⟨some 60, _, _, _, _, _⟩) (v := ?_) rfl (by kernel_rfl) (fun _ _ _ h => h) (by rfl) ?_ hHeld ?_
  rotate_left
  ·intro w hSw
   apply enters
   ·go_simp
    exact ⟨rfl, rfl⟩
   ·exact CC.out _ _
  try simp only [pU1, pU2, pU3, pU4]
  refine wpAnyH_ready (rs := [9]) (by kernel_rfl) (by simp) ?_
  refine AllReadyH.cons (o := ⟨some 64, _, _, _, _, _⟩) rfl (fun K hK => ?_) (AllReadyH.nil)
  go_simp
  refine hK.out _ _ hHeld (fun hHeld => ?_)
  clear hK
  try simp only [pU1, pU2, pU3, pU4]
  refine tkC 10 (oi := ⟨some 65, _, _, _, _, _⟩) (v := ?_) rfl (by kernel_rfl) (fun _ _ _ h => h) (by rfl) ?_ hHeld ?_
  rotate_left
  ·(intro w hSw; obtain ⟨⟨c0, c1⟩, hb⟩ := hSw; refine .inl ?_; go_simp; (try with_reducible rfl))
  try simp only [pU1, pU2, pU3, pU4]
  refine tkC 11 (oi := ⟨some 66, _, _, _, _, _⟩) (v := ?_) rfl (by kernel_rfl) (fun _ _ _ h => h) (by rfl) ?_ hHeld ?_
  rotate_left
  ·intro w hSw
   apply enters
   ·go_simp
    exact ⟨rfl, rfl⟩
   ·exact CC.out _ _
  try simp only [pU1, pU2, pU3, pU4]
  refine tkC 12 (oi := ⟨some 67, _, _, _, _, _⟩) (v := ?_) rfl (by kernel_rfl) (fun _ _ _ h => h) (by rfl) ?_ hHeld ?_
  rotate_left
  ·(intro w hSw; obtain ⟨⟨c0, c1⟩, hb⟩ := hSw; refine .inl ?_; go_simp; (try with_reducible rfl))
  try simp only [pU1, pU2, pU3, pU4]
  refine wpAnyH_ready (rs := [13]) (by kernel_rfl) (by simp) ?_
  refine AllReadyH.cons (o := ⟨none, _, _, _, _, _⟩) rfl (fun K hK => ?_) (AllReadyH.nil)
  go_simp
  refine hK.out _ _ (HS1.out _) (fun hHeld => ?_)
  clear hK
  try simp only [pU1, pU2, pU3, pU4]
  refine tkC 14 (oi := ⟨some 68, _, _, _, _, _⟩) (v := ?_) rfl (by kernel_rfl) (fun _ _ _ h => h) (by rfl) ?_ hHeld ?_
  rotate_left
  ·(intro w hSw; obtain ⟨⟨c0, c1⟩, hb⟩ := hSw; refine .inl ?_; go_simp; (try with_reducible rfl))
  try simp only [pU1, pU2, pU3, pU4]
  refine wpAnyH_ready (rs := [15]) (by kernel_rfl) (by simp) ?_
  refine AllReadyH.cons (o := ⟨none, _, _, _, _, _⟩) rfl (fun K hK => ?_) (AllReadyH.nil)
  go_simp
  refine hK.out _ _ (HS.out _ _) (fun hHeld => ?_)
  clear hK
  try simp only [pU1, pU2, pU3, pU4]
  refine wpAnyH_done (by kernel_rfl) ?_ _
  have HE2 : Hid ((((W0.setCell ⟨bA, 2, none⟩ (.int .i64 (capI (IntKind.i64.wrap (mn * l))))).setCell ⟨bA, 3, none⟩ (.int .i64 (capI (IntKind.i64.wrap (mx * m))))).drew).heap[bA]? = some (.cells #[.int .i64 (d + 1), .int .i64 g, .int .i64 (capI (IntKind.i64.wrap (mn * l))), .int .i64 (capI (IntKind.i64.wrap (mx * m))), .bool false, .bool true] 98 (0, 0))) := heap_drew0 (heap_setCell_same _ _ 3 _ _ _ (heap_setCell_same _ _ 2 _ _ _ HA.out))
  have HX2 : Hid (Kept w (((W0.setCell ⟨bA, 2, none⟩ (.int .i64 (capI (IntKind.i64.wrap (mn * l))))).setCell ⟨bA, 3, none⟩ (.int .i64 (capI (IntKind.i64.wrap (mx * m))))).drew)) := Below.drew (Below.setCell (Below.setCell HK0.out hwA _) hwA _)
  have HC2 : Hid ((((W0.setCell ⟨bA, 2, none⟩ (.int .i64 (capI (IntKind.i64.wrap (mn * l))))).setCell ⟨bA, 3, none⟩ (.int .i64 (capI (IntKind.i64.wrap (mx * m))))).drew).heap[bC]? = some (.cells #[.int .i64 0, .int .i64 0, .int .i64 0, .int .i64 0, .bool false, .bool false] 98 (0, 0))) := heap_drew0 ((heap_set_out _ _ _ _ hAC).trans ((heap_set_out _ _ _ _ hAC).trans HC.out))
  obtain ⟨wy, hwy⟩ : ∃ x, x = ((W0.setCell ⟨bA, 2, none⟩ (.int .i64 (capI (IntKind.i64.wrap (mn * l))))).setCell ⟨bA, 3, none⟩ (.int .i64 (capI (IntKind.i64.wrap (mx * m))))).drew := ⟨_, rfl⟩
  rw [← hwy] at HE2 HX2 HC2 ⊢
  clear hwy hHeld k0 k1 k2 k3 k4 HS HS1 HA HC HK0
  go_wp2_with (first | ((refine wpList_load_row ?c0 98 (.tmp 2) ?c1 bA ?c2 98 #[.int .i64 (d + 1), .int .i64 g, .int .i64 (capI (IntKind.i64.wrap (mn * l))), .int .i64 (capI (IntKind.i64.wrap (mx * m))), .bool false, .bool true] (0, 0) _ HE2.out Tryz.underlying98 ?c3 sizeFc ?_); (case c0 => with_reducible rfl); (case c1 => with_reducible rfl); (case c2 => rfl); (case c3 => rfl)) | ((refine wpList_store_row ?c0 98 (.tmp 4) (.tmp 69) ?c1 bC #[.int .i64 (d + 1), .int .i64 g, .int .i64 (capI (IntKind.i64.wrap (mn * l))), .int .i64 (capI (IntKind.i64.wrap (mx * m))), .bool false, .bool true] ?c2 ?c3 _ _ HC2.out ?c4 ?c5 ?c6 ?_); (case c0 => with_reducible rfl); (case c1 => with_reducible rfl); (case c2 => rfl); (case c3 => rfl); (case c4 => exact sizeFc); (case c5 => rfl); (case c6 => simp [Value.oneCell'])))
  exact bodyPost_ret (results_cell_row Tryz.results71 _ _ bC _ #[.int .i64 (d + 1), .int .i64 g, .int .i64 (capI (IntKind.i64.wrap (mn * l))), .int .i64 (capI (IntKind.i64.wrap (mx * m))), .bool false, .bool true] (0, 0) _ rfl (setRow_heap _ _ _ _ _ _ HC2.out) Tryz.underlying98 rfl sizeFc) rfl ⟨rfl, below_setRow HX2.out hwC _⟩
 ·
  go_simp
  refine hK.out _ _ hHeld (fun hHeld => ?_)
  clear hK
  try simp only [pU1, pU2, pU3, pU4]
  refine tkC 10 (oi := ⟨some 65, _, _, _, _, _⟩) (v := ?_) rfl (by kernel_rfl) (fun _ _ _ h => h) (by rfl) ?_ hHeld ?_
  rotate_left
  ·(intro w hSw; obtain ⟨⟨c0, c1⟩, hb⟩ := hSw; refine .inl ?_; go_simp; (try with_reducible rfl))
  try simp only [pU1, pU2, pU3, pU4]
  refine wpAnyH_ready (rs := [3]) (by kernel_rfl) (by simp) ?_
  refine AllReadyH.cons (o := ⟨some 58, _, _, _, _, _⟩) rfl (fun K hK => ?_) (AllReadyH.nil)
  go_simp
  refine hK.out _ _ hHeld (fun hHeld => ?_)
  clear hK
  try simp only [pU1, pU2, pU3, pU4]
  refine tkC 4 (oi := ⟨some 59, _, _, _, _, _⟩) (v := ?_) rfl (by kernel_rfl) (fun _ _ _ h => h) (by rfl) ?_ hHeld ?_
  rotate_left
  ·(intro w hSw; obtain ⟨⟨c0, c1⟩, hb⟩ := hSw; refine .inl ?_; go_simp; (try with_reducible rfl))
  try simp only [pU1, pU2, pU3, pU4]
  refine tkC 5 (oi := ⟨some 60, _, _, _, _, _⟩) (v := ?_) rfl (by kernel_rfl) (fun _ _ _ h => h) (by rfl) ?_ hHeld ?_
  rotate_left
  ·intro w hSw
   apply enters
   ·go_simp
    exact ⟨rfl, rfl⟩
   ·exact CC.out _ _
  try simp only [pU1, pU2, pU3, pU4]
  refine tkC 11 (oi := ⟨some 66, _, _, _, _, _⟩) (v := ?_) rfl (by kernel_rfl) (fun _ _ _ h => h) (by rfl) ?_ hHeld ?_
  rotate_left
  ·intro w hSw
   apply enters
   ·go_simp
    exact ⟨rfl, rfl⟩
   ·exact CC.out _ _
  try simp only [pU1, pU2, pU3, pU4]
  refine tkC 12 (oi := ⟨some 67, _, _, _, _, _⟩) (v := ?_) rfl (by kernel_rfl) (fun _ _ _ h => h) (by rfl) ?_ hHeld ?_
  rotate_left
  ·(intro w hSw; obtain ⟨⟨c0, c1⟩, hb⟩ := hSw; refine .inl ?_; go_simp; (try with_reducible rfl))
  try simp only [pU1, pU2, pU3, pU4]
  refine wpAnyH_ready (rs := [13]) (by kernel_rfl) (by simp) ?_
  refine AllReadyH.cons (o := ⟨none, _, _, _, _, _⟩) rfl (fun K hK => ?_) (AllReadyH.nil)
  go_simp
  refine hK.out _ _ (HS1.out _) (fun hHeld => ?_)
  clear hK
  try simp only [pU1, pU2, pU3, pU4]
  refine tkC 14 (oi := ⟨some 68, _, _, _, _, _⟩) (v := ?_) rfl (by kernel_rfl) (fun _ _ _ h => h) (by rfl) ?_ hHeld ?_
  rotate_left
  ·(intro w hSw; obtain ⟨⟨c0, c1⟩, hb⟩ := hSw; refine .inl ?_; go_simp; (try with_reducible rfl))
  try simp only [pU1, pU2, pU3, pU4]
  refine wpAnyH_ready (rs := [15]) (by kernel_rfl) (by simp) ?_
  refine AllReadyH.cons (o := ⟨none, _, _, _, _, _⟩) rfl (fun K hK => ?_) (AllReadyH.nil)
  go_simp
  refine hK.out _ _ (HS.out _ _) (fun hHeld => ?_)
  clear hK
  try simp only [pU1, pU2, pU3, pU4]
  refine wpAnyH_done (by kernel_rfl) ?_ _
  have HE2 : Hid ((((W0.setCell ⟨bA, 2, none⟩ (.int .i64 (capI (IntKind.i64.wrap (mn * l))))).setCell ⟨bA, 3, none⟩ (.int .i64 (capI (IntKind.i64.wrap (mx * m))))).drew).heap[bA]? = some (.cells #[.int .i64 (d + 1), .int .i64 g, .int .i64 (capI (IntKind.i64.wrap (mn * l))), .int .i64 (capI (IntKind.i64.wrap (mx * m))), .bool false, .bool true] 98 (0, 0))) := heap_drew0 (heap_setCell_same _ _ 3 _ _ _ (heap_setCell_same _ _ 2 _ _ _ HA.out))
  have HX2 : Hid (Kept w (((W0.setCell ⟨bA, 2, none⟩ (.int .i64 (capI (IntKind.i64.wrap (mn * l))))).setCell ⟨bA, 3, none⟩ (.int .i64 (capI (IntKind.i64.wrap (mx * m))))).drew)) := Below.drew (Below.setCell (Below.setCell HK0.out hwA _) hwA _)
  have HC2 : Hid ((((W0.setCell ⟨bA, 2, none⟩ (.int .i64 (capI (IntKind.i64.wrap (mn * l))))).setCell ⟨bA, 3, none⟩ (.int .i64 (capI (IntKind.i64.wrap (mx * m))))).drew).heap[bC]? = some (.cells #[.int .i64 0, .int .i64 0, .int .i64 0, .int .i64 0, .bool false, .bool false] 98 (0, 0))) := heap_drew0 ((heap_set_out _ _ _ _ hAC).trans ((heap_set_out _ _ _ _ hAC).trans HC.out))
  obtain ⟨wy, hwy⟩ : ∃ x, x = ((W0.setCell ⟨bA, 2, none⟩ (.int .i64 (capI (IntKind.i64.wrap (mn * l))))).setCell ⟨bA, 3, none⟩ (.int .i64 (capI (IntKind.i64.wrap (mx * m))))).drew := ⟨_, rfl⟩
  rw [← hwy] at HE2 HX2 HC2 ⊢
  clear hwy hHeld k0 k1 k2 k3 k4 HS HS1 HA HC HK0
  go_wp2_with (first | ((refine wpList_load_row ?c0 98 (.tmp 2) ?c1 bA ?c2 98 #[.int .i64 (d + 1), .int .i64 g, .int .i64 (capI (IntKind.i64.wrap (mn * l))), .int .i64 (capI (IntKind.i64.wrap (mx * m))), .bool false, .bool true] (0, 0) _ HE2.out Tryz.underlying98 ?c3 sizeFc ?_); (case c0 => with_reducible rfl); (case c1 => with_reducible rfl); (case c2 => rfl); (case c3 => rfl)) | ((refine wpList_store_row ?c0 98 (.tmp 4) (.tmp 69) ?c1 bC #[.int .i64 (d + 1), .int .i64 g, .int .i64 (capI (IntKind.i64.wrap (mn * l))), .int .i64 (capI (IntKind.i64.wrap (mx * m))), .bool false, .bool true] ?c2 ?c3 _ _ HC2.out ?c4 ?c5 ?c6 ?_); (case c0 => with_reducible rfl); (case c1 => with_reducible rfl); (case c2 => rfl); (case c3 => rfl); (case c4 => exact sizeFc); (case c5 => rfl); (case c6 => simp [Value.oneCell'])))
  exact bodyPost_ret (results_cell_row Tryz.results71 _ _ bC _ #[.int .i64 (d + 1), .int .i64 g, .int .i64 (capI (IntKind.i64.wrap (mn * l))), .int .i64 (capI (IntKind.i64.wrap (mx * m))), .bool false, .bool true] (0, 0) _ rfl (setRow_heap _ _ _ _ _ _ HC2.out) Tryz.underlying98 rfl sizeFc) rfl ⟨rfl, below_setRow HX2.out hwC _⟩
set_option maxRecDepth 20000 in
set_option maxHeartbeats 2000000 in
theorem rep_b1 (hd : 0 ≤ d ∧ d ≤ 1000000) (hl0 : l ≠ 0) (hx : mx = -1) : Calls Tryz.prog 71 #[fctV ⟨d, g, l, m, en, false⟩, ndV 5 A1 sn c1 mn mx lz A2 un c2] w fun e w' => e = .returned (.agg #[.int .i64 (d + 1), .int .i64 g, .int .i64 (capI (IntKind.i64.wrap (mn * l))), .int .i64 (capI (IntKind.i64.wrap (mx * m))), .bool true, .bool false]) ∧ Kept w w' := by
 obtain ⟨hd1, hd2⟩ := hd
 have l1 : (l == 0) = false := by simp [hl0]
 clear hl0
 have x1 : (mx == -1) = true := by simp [hx]
 clear hx
 have CC := Lib.hid capped_any
 unfold fctV
 dsimp only
 go_enter Tryz.func71, Tryz.ntmps71
 go_upto_region 10 with fail
 obtain ⟨W0, hW0⟩ : ∃ x, x = ((w.alloc (.cells #[.int .i64 (d + 1), .int .i64 g, .int .i64 l, .int .i64 m, .bool true, .bool false] 98)).alloc (.cells #[.int .u8 5, .slice A1 sn c1, .int .i64 mn, .int .i64 mx, .bool lz, .slice A2 un c2] 25)).alloc (.cells #[.int .i64 0, .int .i64 0, .int .i64 0, .int .i64 0, .bool false, .bool false] 98) := ⟨_, rfl⟩
 rw [← hW0]
 have hA : W0.heap[w.heap.size]? = some (.cells #[.int .i64 (d + 1), .int .i64 g, .int .i64 l, .int .i64 m, .bool true, .bool false] 98 (0, 0)) := by rw [hW0]; exact (Below.heap_alloc _ _ _ (by simp; omega)).trans ((Below.heap_alloc _ _ _ (by simp)).trans (heap_alloc_new w _))
 have hB : W0.heap[w.heap.size + 1]? = some (.cells #[.int .u8 5, .slice A1 sn c1, .int .i64 mn, .int .i64 mx, .bool lz, .slice A2 un c2] 25 (0, 0)) := by
  have := heap_alloc_new (w.alloc (.cells #[.int .i64 (d + 1), .int .i64 g, .int .i64 l, .int .i64 m, .bool true, .bool false] 98)) (.cells #[.int .u8 5, .slice A1 sn c1, .int .i64 mn, .int .i64 mx, .bool lz, .slice A2 un c2] 25)
  rw [World.size_alloc] at this
  rw [hW0]
  exact (Below.heap_alloc _ _ _ (by simp)).trans this
 have HC : Hid (W0.heap[w.heap.size + 1 + 1]? = some (.cells #[.int .i64 0, .int .i64 0, .int .i64 0, .int .i64 0, .bool false, .bool false] 98 (0, 0))) := by rw [hW0]; exact alloc_new2 _ _ _ _
 have HK0 : Hid (Kept w W0) := by rw [hW0]; exact (((Below.refl _ w).alloc (Nat.le_refl _) _).alloc (by simp) _).alloc (by simp; omega) _
 have HA := Lib.hid hA
 have k0 : W0.cell? ⟨w.heap.size, 2, none⟩ = some (.int .i64 l) := by rw [cell_of_row _ _ _ _ _ _ hA]; rfl
 have k1 : W0.cell? ⟨w.heap.size, 3, none⟩ = some (.int .i64 m) := by rw [cell_of_row _ _ _ _ _ _ hA]; rfl
 have k2 : W0.cell? ⟨w.heap.size + 1, 2, none⟩ = some (.int .i64 mn) := by rw [cell_of_row _ _ _ _ _ _ hB]; rfl
 have k3 : W0.cell? ⟨w.heap.size + 1, 3, none⟩ = some (.int .i64 mx) := by rw [cell_of_row _ _ _ _ _ _ hB]; rfl
 have k4 : ∀ j, W0.frozen? ⟨w.heap.size, j, none⟩ = false := fun j => by simp [World.frozen?, show W0.heap[w.heap.size]? = _ from hA]
 obtain ⟨bA, hbA⟩ : ∃ b, b = w.heap.size := ⟨_, rfl⟩
 obtain ⟨bB, hbB⟩ : ∃ b, b = w.heap.size + 1 := ⟨_, rfl⟩
 obtain ⟨bC, hbC⟩ : ∃ b, b = w.heap.size + 1 + 1 := ⟨_, rfl⟩
 have hAC : bA ≠ bC := by omega
 have hAB : bA ≠ bB := by omega
 have hBlt : bB < W0.heap.size := by rw [hbB]; exact heap_lt hB
 have hwA : w.heap.size ≤ bA := by omega
 have hwC : w.heap.size ≤ bC := by omega
 rw [← hbC] at HC
 rw [← hbA] at HA k0 k1 k4
 rw [← hbB] at k2 k3
 rw [← hbC, ← hbB, ← hbA]
 clear hW0 hA hB hbA hbB hbC
 have hb0 := Below.refl W0.heap.size W0
 have hbB : bB < W0.heap.size := hBlt
 have HS : Hid (∀ x y, (((W0.setCell ⟨bA, 2, none⟩ x).setCell ⟨bA, 3, none⟩ y).cell? ⟨bB, 2, none⟩ = some (.int .i64 mn) ∧ ((W0.setCell ⟨bA, 2, none⟩ x).setCell ⟨bA, 3, none⟩ y).cell? ⟨bB, 3, none⟩ = some (.int .i64 mx)) ∧ w.heap.size ≤ ((W0.setCell ⟨bA, 2, none⟩ x).setCell ⟨bA, 3, none⟩ y).heap.size) := fun x y => ⟨⟨(cell_setCell_other _ _ _ _ (by exact hAB)).trans ((cell_setCell_other _ _ _ _ (by exact hAB)).trans k2), (cell_setCell_other _ _ _ _ (by exact hAB)).trans ((cell_setCell_other _ _ _ _ (by exact hAB)).trans k3)⟩, by simp; exact HK0.out.size⟩
 have HS1 : Hid (∀ x, ((W0.setCell ⟨bA, 2, none⟩ x).cell? ⟨bB, 2, none⟩ = some (.int .i64 mn) ∧ (W0.setCell ⟨bA, 2, none⟩ x).cell? ⟨bB, 3, none⟩ = some (.int .i64 mx)) ∧ w.heap.size ≤ (W0.setCell ⟨bA, 2, none⟩ x).heap.size) := fun x => ⟨⟨(cell_setCell_other _ _ _ _ (by exact hAB)).trans k2, (cell_setCell_other _ _ _ _ (by exact hAB)).trans k3⟩, by simp; exact HK0.out.size⟩
 refine wp_region_held_drew (S := (fun W => (W.cell? ⟨bB, 2, none⟩ = some (.int .i64 mn) ∧ W.cell? ⟨bB, 3, none⟩ = some (.int .i64 mx)) ∧ w.heap.size ≤ W.heap.size)) (by kernel_rfl) ?_ (fun hHeld => ?_)
 ·exact ⟨⟨k2, k3⟩, HK0.out.size⟩
 refine tkC 0 (oi := ⟨some 55, _, _, _, _, _⟩) (v := ?_) rfl (by kernel_rfl) (fun _ _ _ h => h) (by rfl) ?_ hHeld ?_
 rotate_left
 ·(intro w hSw; obtain ⟨⟨c0, c1⟩, hb⟩ := hSw; refine .inl ?_; go_simp; (try with_reducible rfl))
 try simp only [pU1, pU2, pU3, pU4]
 refine tkC 1 (oi := ⟨some 56, _, _, _, _, _⟩) (v := ?_) rfl (by kernel_rfl) (fun _ _ _ h => h) (by rfl) ?_ hHeld ?_
 rotate_left
 ·(intro w hSw; obtain ⟨⟨c0, c1⟩, hb⟩ := hSw; refine .inl ?_; go_simp; (try with_reducible rfl))
 try simp only [pU1, pU2, pU3, pU4]
 refine tkC 2 (oi := ⟨some 57, _, _, _, _, _⟩) (v := ?_) rfl (by kernel_rfl) (fun _ _ _ h => h) (by rfl) ?_ hHeld ?_
 rotate_left
 ·(intro w hSw; obtain ⟨⟨c0, c1⟩, hb⟩ := hSw; refine .inl ?_; go_simp; (try with_reducible rfl))
 try simp only [pU1, pU2, pU3, pU4]
 refine tkC 6 (oi := ⟨some 61, _, _, _, _, _⟩) (v := ?_) rfl (by kernel_rfl) (fun _ _ _ h => h) (by rfl) ?_ hHeld ?_
 rotate_left
 ·(intro w hSw; obtain ⟨⟨c0, c1⟩, hb⟩ := hSw; refine .inl ?_; go_simp; (try with_reducible rfl))
 try simp only [pU1, pU2, pU3, pU4]
 refine tkC 7 (oi := ⟨some 62, _, _, _, _, _⟩) (v := ?_) rfl (by kernel_rfl) (fun _ _ _ h => h) (by rfl) ?_ hHeld ?_
 rotate_left
 ·(intro w hSw; obtain ⟨⟨c0, c1⟩, hb⟩ := hSw; refine .inl ?_; go_simp; (try with_reducible rfl))
 try simp only [pU1, pU2, pU3, pU4]
 refine tkC 8 (oi := ⟨some 63, _, _, _, _, _⟩) (v := ?_) rfl (by kernel_rfl) (fun _ _ _ h => h) (by rfl) ?_ hHeld ?_
 rotate_left
 ·(intro w hSw; obtain ⟨⟨c0, c1⟩, hb⟩ := hSw; refine .inl ?_; go_simp; (try with_reducible rfl))
 try simp only [pU1, pU2, pU3, pU4]
 refine wpAnyH_ready (rs := [3, 9]) (by kernel_rfl) (by simp) ?_
 refine AllReadyH.cons (o := ⟨some 58, _, _, _, _, _⟩) rfl (fun K hK => ?_) (AllReadyH.cons (o := ⟨some 64, _, _, _, _, _⟩) rfl (fun K hK => ?_) (AllReadyH.nil))
 ·
  go_simp
  refine hK.out _ _ hHeld (fun hHeld => ?_)
  clear hK
  try simp only [pU1, pU2, pU3, pU4]
  refine tkC 4 (oi := ⟨some 59, _, _, _, _, _⟩) (v := ?_) rfl (by kernel_rfl) (fun _ _ _ h => h) (by rfl) ?_ hHeld ?_
  rotate_left
  ·(intro w hSw; obtain ⟨⟨c0, c1⟩, hb⟩ := hSw; refine .inl ?_; go_simp; (try with_reducible rfl))
  try simp only [pU1, pU2, pU3, pU4]
  refine tkC 5 (oi := ⟨some 60, _, _, _, _, _⟩) (v := ?_) rfl (by kernel_rfl) (fun _ _ _ h => h) (by rfl) ?_ hHeld ?_
  rotate_left
  ·intro w hSw
   apply enters
   ·go_simp
    exact ⟨rfl, rfl⟩
   ·exact CC.out _ _
  try simp only [pU1, pU2, pU3, pU4]
  refine wpAnyH_ready (rs := [9]) (by kernel_rfl) (by simp) ?_
  refine AllReadyH.cons (o := ⟨some 64, _, _, _, _, _⟩) rfl (fun K hK => ?_) (AllReadyH.nil)
  go_simp
  refine hK.out _ _ hHeld (fun hHeld => ?_)
  clear hK
  try simp only [pU1, pU2, pU3, pU4]
  refine tkC 10 (oi := ⟨some 65, _, _, _, _, _⟩) (v := ?_) rfl (by kernel_rfl) (fun _ _ _ h => h) (by rfl) ?_ hHeld ?_
  rotate_left
  ·(intro w hSw; obtain ⟨⟨c0, c1⟩, hb⟩ := hSw; refine .inl ?_; go_simp; (try with_reducible rfl))
  try simp only [pU1, pU2, pU3, pU4]
  refine tkC 11 (oi := ⟨some 66, _, _, _, _, _⟩) (v := ?_) rfl (by kernel_rfl) (fun _ _ _ h => h) (by rfl) ?_ hHeld ?_
  rotate_left
  ·intro w hSw
   apply enters
   ·go_simp
    exact ⟨rfl, rfl⟩
   ·exact CC.out _ _
  try simp only [pU1, pU2, pU3, pU4]
  refine tkC 12 (oi := ⟨some 67, _, _, _, _, _⟩) (v := ?_) rfl (by kernel_rfl) (fun _ _ _ h => h) (by rfl) ?_ hHeld ?_
  rotate_left
  ·(intro w hSw; obtain ⟨⟨c0, c1⟩, hb⟩ := hSw; refine .inl ?_; go_simp; (try with_reducible rfl))
  try simp only [pU1, pU2, pU3, pU4]
  refine wpAnyH_ready (rs := [13]) (by kernel_rfl) (by simp) ?_
  refine AllReadyH.cons (o := ⟨none, _, _, _, _, _⟩) rfl (fun K hK => ?_) (AllReadyH.nil)
  go_simp
  refine hK.out _ _ (HS1.out _) (fun hHeld => ?_)
  clear hK
  try simp only [pU1, pU2, pU3, pU4]
  refine tkC 14 (oi := ⟨some 68, _, _, _, _, _⟩) (v := ?_) rfl (by kernel_rfl) (fun _ _ _ h => h) (by rfl) ?_ hHeld ?_
  rotate_left
  ·(intro w hSw; obtain ⟨⟨c0, c1⟩, hb⟩ := hSw; refine .inl ?_; go_simp; (try with_reducible rfl))
  try simp only [pU1, pU2, pU3, pU4]
  refine wpAnyH_ready (rs := [15]) (by kernel_rfl) (by simp) ?_
  refine AllReadyH.cons (o := ⟨none, _, _, _, _, _⟩) rfl (fun K hK => ?_) (AllReadyH.nil)
  go_simp
  refine hK.out _ _ (HS.out _ _) (fun hHeld => ?_)
  clear hK
  try simp only [pU1, pU2, pU3, pU4]
  refine wpAnyH_done (by kernel_rfl) ?_ _
  have HE2 : Hid ((((W0.setCell ⟨bA, 2, none⟩ (.int .i64 (capI (IntKind.i64.wrap (mn * l))))).setCell ⟨bA, 3, none⟩ (.int .i64 (capI (IntKind.i64.wrap (mx * m))))).drew).heap[bA]? = some (.cells #[.int .i64 (d + 1), .int .i64 g, .int .i64 (capI (IntKind.i64.wrap (mn * l))), .int .i64 (capI (IntKind.i64.wrap (mx * m))), .bool true, .bool false] 98 (0, 0))) := heap_drew0 (heap_setCell_same _ _ 3 _ _ _ (heap_setCell_same _ _ 2 _ _ _ HA.out))
  have HX2 : Hid (Kept w (((W0.setCell ⟨bA, 2, none⟩ (.int .i64 (capI (IntKind.i64.wrap (mn * l))))).setCell ⟨bA, 3, none⟩ (.int .i64 (capI (IntKind.i64.wrap (mx * m))))).drew)) := Below.drew (Below.setCell (Below.setCell HK0.out hwA _) hwA _)
  have HC2 : Hid ((((W0.setCell ⟨bA, 2, none⟩ (.int .i64 (capI (IntKind.i64.wrap (mn * l))))).setCell ⟨bA, 3, none⟩ (.int .i64 (capI (IntKind.i64.wrap (mx * m))))).drew).heap[bC]? = some (.cells #[.int .i64 0, .int .i64 0, .int .i64 0, .int .i64 0, .bool false, .bool false] 98 (0, 0))) := heap_drew0 ((heap_set_out _ _ _ _ hAC).trans ((heap_set_out _ _ _ _ hAC).trans HC.out))
  obtain ⟨wy, hwy⟩ : ∃ x, x = ((W0.setCell ⟨bA, 2, none⟩ (.int .i64 (capI (IntKind.i64.wrap (mn * l))))).setCell ⟨bA, 3, none⟩ (.int .i64 (capI (IntKind.i64.wrap (mx * m))))).drew := ⟨_, rfl⟩
  rw [← hwy] at HE2 HX2 HC2 ⊢
  clear hwy hHeld k0 k1 k2 k3 k4 HS HS1 HA HC HK0
  go_wp2_with (first | ((refine wpList_load_row ?c0 98 (.tmp 2) ?c1 bA ?c2 98 #[.int .i64 (d + 1), .int .i64 g, .int .i64 (capI (IntKind.i64.wrap (mn * l))), .int .i64 (capI (IntKind.i64.wrap (mx * m))), .bool true, .bool false] (0, 0) _ HE2.out Tryz.underlying98 ?c3 sizeFc ?_); (case c0 => with_reducible rfl); (case c1 => with_reducible rfl); (case c2 => rfl); (case c3 => rfl)) | ((refine wpList_store_row ?c0 98 (.tmp 4) (.tmp 69) ?c1 bC #[.int .i64 (d + 1), .int .i64 g, .int .i64 (capI (IntKind.i64.wrap (mn * l))), .int .i64 (capI (IntKind.i64.wrap (mx * m))), .bool true, .bool false] ?c2 ?c3 _ _ HC2.out ?c4 ?c5 ?c6 ?_); (case c0 => with_reducible rfl); (case c1 => with_reducible rfl); (case c2 => rfl); (case c3 => rfl); (case c4 => exact sizeFc); (case c5 => rfl); (case c6 => simp [Value.oneCell'])))
  exact bodyPost_ret (results_cell_row Tryz.results71 _ _ bC _ #[.int .i64 (d + 1), .int .i64 g, .int .i64 (capI (IntKind.i64.wrap (mn * l))), .int .i64 (capI (IntKind.i64.wrap (mx * m))), .bool true, .bool false] (0, 0) _ rfl (setRow_heap _ _ _ _ _ _ HC2.out) Tryz.underlying98 rfl sizeFc) rfl ⟨rfl, below_setRow HX2.out hwC _⟩
 ·
  go_simp
  refine hK.out _ _ hHeld (fun hHeld => ?_)
  clear hK
  try simp only [pU1, pU2, pU3, pU4]
  refine tkC 10 (oi := ⟨some 65, _, _, _, _, _⟩) (v := ?_) rfl (by kernel_rfl) (fun _ _ _ h => h) (by rfl) ?_ hHeld ?_
  rotate_left
  ·(intro w hSw; obtain ⟨⟨c0, c1⟩, hb⟩ := hSw; refine .inl ?_; go_simp; (try with_reducible rfl))
  try simp only [pU1, pU2, pU3, pU4]
  refine wpAnyH_ready (rs := [3]) (by kernel_rfl) (by simp) ?_
  refine AllReadyH.cons (o := ⟨some 58, _, _, _, _, _⟩) rfl (fun K hK => ?_) (AllReadyH.nil)
  go_simp
  refine hK.out _ _ hHeld (fun hHeld => ?_)
  clear hK
  try simp only [pU1, pU2, pU3, pU4]
  refine tkC 4 (oi := ⟨some 59, _, _, _, _, _⟩) (v := ?_) rfl (by kernel_rfl) (fun _ _ _ h => h) (by rfl) ?_ hHeld ?_
  rotate_left
  ·(intro w hSw; obtain ⟨⟨c0, c1⟩, hb⟩ := hSw; refine .inl ?_; go_simp; (try with_reducible rfl))
  try simp only [pU1, pU2, pU3, pU4]
  refine tkC 5 (oi := ⟨some 60, _, _, _, _, _⟩) (v := ?_) rfl (by kernel_rfl) (fun _ _ _ h => h) (by rfl) ?_ hHeld ?_
  rotate_left
  ·intro w hSw
   apply enters
   ·go_simp
    exact ⟨rfl, rfl⟩
   ·exact CC.out _ _
  try simp only [pU1, pU2, pU3, pU4]
  refine tkC 11 (oi := ⟨some 66, _, _, _, _, _⟩) (v := ?_) rfl (by kernel_rfl) (fun _ _ _ h => h) (by rfl) ?_ hHeld ?_
  rotate_left
  ·intro w hSw
   apply enters
   ·go_simp
    exact ⟨rfl, rfl⟩
   ·exact CC.out _ _
  try simp only [pU1, pU2, pU3, pU4]
  refine tkC 12 (oi := ⟨some 67, _, _, _, _, _⟩) (v := ?_) rfl (by kernel_rfl) (fun _ _ _ h => h) (by rfl) ?_ hHeld ?_
  rotate_left
  ·(intro w hSw; obtain ⟨⟨c0, c1⟩, hb⟩ := hSw; refine .inl ?_; go_simp; (try with_reducible rfl))
  try simp only [pU1, pU2, pU3, pU4]
  refine wpAnyH_ready (rs := [13]) (by kernel_rfl) (by simp) ?_
  refine AllReadyH.cons (o := ⟨none, _, _, _, _, _⟩) rfl (fun K hK => ?_) (AllReadyH.nil)
  go_simp
  refine hK.out _ _ (HS1.out _) (fun hHeld => ?_)
  clear hK
  try simp only [pU1, pU2, pU3, pU4]
  refine tkC 14 (oi := ⟨some 68, _, _, _, _, _⟩) (v := ?_) rfl (by kernel_rfl) (fun _ _ _ h => h) (by rfl) ?_ hHeld ?_
  rotate_left
  ·(intro w hSw; obtain ⟨⟨c0, c1⟩, hb⟩ := hSw; refine .inl ?_; go_simp; (try with_reducible rfl))
  try simp only [pU1, pU2, pU3, pU4]
  refine wpAnyH_ready (rs := [15]) (by kernel_rfl) (by simp) ?_
  refine AllReadyH.cons (o := ⟨none, _, _, _, _, _⟩) rfl (fun K hK => ?_) (AllReadyH.nil)
  go_simp
  refine hK.out _ _ (HS.out _ _) (fun hHeld => ?_)
  clear hK
  try simp only [pU1, pU2, pU3, pU4]
  refine wpAnyH_done (by kernel_rfl) ?_ _
  have HE2 : Hid ((((W0.setCell ⟨bA, 2, none⟩ (.int .i64 (capI (IntKind.i64.wrap (mn * l))))).setCell ⟨bA, 3, none⟩ (.int .i64 (capI (IntKind.i64.wrap (mx * m))))).drew).heap[bA]? = some (.cells #[.int .i64 (d + 1), .int .i64 g, .int .i64 (capI (IntKind.i64.wrap (mn * l))), .int .i64 (capI (IntKind.i64.wrap (mx * m))), .bool true, .bool false] 98 (0, 0))) := heap_drew0 (heap_setCell_same _ _ 3 _ _ _ (heap_setCell_same _ _ 2 _ _ _ HA.out))
  have HX2 : Hid (Kept w (((W0.setCell ⟨bA, 2, none⟩ (.int .i64 (capI (IntKind.i64.wrap (mn * l))))).setCell ⟨bA, 3, none⟩ (.int .i64 (capI (IntKind.i64.wrap (mx * m))))).drew)) := Below.drew (Below.setCell (Below.setCell HK0.out hwA _) hwA _)
  have HC2 : Hid ((((W0.setCell ⟨bA, 2, none⟩ (.int .i64 (capI (IntKind.i64.wrap (mn * l))))).setCell ⟨bA, 3, none⟩ (.int .i64 (capI (IntKind.i64.wrap (mx * m))))).drew).heap[bC]? = some (.cells #[.int .i64 0, .int .i64 0, .int .i64 0, .int .i64 0, .bool false, .bool false] 98 (0, 0))) := heap_drew0 ((heap_set_out _ _ _ _ hAC).trans ((heap_set_out _ _ _ _ hAC).trans HC.out))
  obtain ⟨wy, hwy⟩ : ∃ x, x = ((W0.setCell ⟨bA, 2, none⟩ (.int .i64 (capI (IntKind.i64.wrap (mn * l))))).setCell ⟨bA, 3, none⟩ (.int .i64 (capI (IntKind.i64.wrap (mx * m))))).drew := ⟨_, rfl⟩
  rw [← hwy] at HE2 HX2 HC2 ⊢
  clear hwy hHeld k0 k1 k2 k3 k4 HS HS1 HA HC HK0
  go_wp2_with (first | ((refine wpList_load_row ?c0 98 (.tmp 2) ?c1 bA ?c2 98 #[.int .i64 (d + 1), .int .i64 g, .int .i64 (capI (IntKind.i64.wrap (mn * l))), .int .i64 (capI (IntKind.i64.wrap (mx * m))), .bool true, .bool false] (0, 0) _ HE2.out Tryz.underlying98 ?c3 sizeFc ?_); (case c0 => with_reducible rfl); (case c1 => with_reducible rfl); (case c2 => rfl); (case c3 => rfl)) | ((refine wpList_store_row ?c0 98 (.tmp 4) (.tmp 69) ?c1 bC #[.int .i64 (d + 1), .int .i64 g, .int .i64 (capI (IntKind.i64.wrap (mn * l))), .int .i64 (capI (IntKind.i64.wrap (mx * m))), .bool true, .bool false] ?c2 ?c3 _ _ HC2.out ?c4 ?c5 ?c6 ?_); (case c0 => with_reducible rfl); (case c1 => with_reducible rfl); (case c2 => rfl); (case c3 => rfl); (case c4 => exact sizeFc); (case c5 => rfl); (case c6 => simp [Value.oneCell'])))
  exact bodyPost_ret (results_cell_row Tryz.results71 _ _ bC _ #[.int .i64 (d + 1), .int .i64 g, .int .i64 (capI (IntKind.i64.wrap (mn * l))), .int .i64 (capI (IntKind.i64.wrap (mx * m))), .bool true, .bool false] (0, 0) _ rfl (setRow_heap _ _ _ _ _ _ HC2.out) Tryz.underlying98 rfl sizeFc) rfl ⟨rfl, below_setRow HX2.out hwC _⟩
set_option maxRecDepth 20000 in
set_option maxHeartbeats 2000000 in
theorem rep_b2 (hd : 0 ≤ d ∧ d ≤ 1000000) (hl0 : l ≠ 0) (hx : mx ≠ -1) (hx2 : 0 < mx) : Calls Tryz.prog 71 #[fctV ⟨d, g, l, m, en, false⟩, ndV 5 A1 sn c1 mn mx lz A2 un c2] w fun e w' => e = .returned (.agg #[.int .i64 (d + 1), .int .i64 g, .int .i64 (capI (IntKind.i64.wrap (mn * l))), .int .i64 (capI (IntKind.i64.wrap (mx * m))), .bool en, .bool false]) ∧ Kept w w' := by
 obtain ⟨hd1, hd2⟩ := hd
 have l1 : (l == 0) = false := by simp [hl0]
 clear hl0
 have x1 : (mx == -1) = false := by simp [hx]
 clear hx
 have CC := Lib.hid capped_any
 unfold fctV
 dsimp only
 go_enter Tryz.func71, Tryz.ntmps71
 go_upto_region 10 with fail
 obtain ⟨W0, hW0⟩ : ∃ x, x = ((w.alloc (.cells #[.int .i64 (d + 1), .int .i64 g, .int .i64 l, .int .i64 m, .bool en, .bool false] 98)).alloc (.cells #[.int .u8 5, .slice A1 sn c1, .int .i64 mn, .int .i64 mx, .bool lz, .slice A2 un c2] 25)).alloc (.cells #[.int .i64 0, .int .i64 0, .int .i64 0, .int .i64 0, .bool false, .bool false] 98) := ⟨_, rfl⟩
 rw [← hW0]
 have hA : W0.heap[w.heap.size]? = some (.cells #[.int .i64 (d + 1), .int .i64 g, .int .i64 l, .int .i64 m, .bool en, .bool false] 98 (0, 0)) := by rw [hW0]; exact (Below.heap_alloc _ _ _ (by simp; omega)).trans ((Below.heap_alloc _ _ _ (by simp)).trans (heap_alloc_new w _))
 have hB : W0.heap[w.heap.size + 1]? = some (.cells #[.int .u8 5, .slice A1 sn c1, .int .i64 mn, .int .i64 mx, .bool lz, .slice A2 un c2] 25 (0, 0)) := by
  have := heap_alloc_new (w.alloc (.cells #[.int .i64 (d + 1), .int .i64 g, .int .i64 l, .int .i64 m, .bool en, .bool false] 98)) (.cells #[.int .u8 5, .slice A1 sn c1, .int .i64 mn, .int .i64 mx, .bool lz, .slice A2 un c2] 25)
  rw [World.size_alloc] at this
  rw [hW0]
  exact (Below.heap_alloc _ _ _ (by simp)).trans this
 have HC : Hid (W0.heap[w.heap.size + 1 + 1]? = some (.cells #[.int .i64 0, .int .i64 0, .int .i64 0, .int .i64 0, .bool false, .bool false] 98 (0, 0))) := by rw [hW0]; exact alloc_new2 _ _ _ _
 have HK0 : Hid (Kept w W0) := by rw [hW0]; exact (((Below.refl _ w).alloc (Nat.le_refl _) _).alloc (by simp) _).alloc (by simp; omega) _
 have HA := Lib.hid hA
 have k0 : W0.cell? ⟨w.heap.size, 2, none⟩ = some (.int .i64 l) := by rw [cell_of_row _ _ _ _ _ _ hA]; rfl
 have k1 : W0.cell? ⟨w.heap.size, 3, none⟩ = some (.int .i64 m) := by rw [cell_of_row _ _ _ _ _ _ hA]; rfl
 have k2 : W0.cell? ⟨w.heap.size + 1, 2, none⟩ = some (.int .i64 mn) := by rw [cell_of_row _ _ _ _ _ _ hB]; rfl
 have k3 : W0.cell? ⟨w.heap.size + 1, 3, none⟩ = some (.int .i64 mx) := by rw [cell_of_row _ _ _ _ _ _ hB]; rfl
 have k4 : ∀ j, W0.frozen? ⟨w.heap.size, j, none⟩ = false := fun j => by simp [World.frozen?, show W0.heap[w.heap.size]? = _ from hA]
 obtain ⟨bA, hbA⟩ : ∃ b, b = w.heap.size := ⟨_, rfl⟩
 obtain ⟨bB, hbB⟩ : ∃ b, b = w.heap.size + 1 := ⟨_, rfl⟩
 obtain ⟨bC, hbC⟩ : ∃ b, b = w.heap.size + 1 + 1 := ⟨_, rfl⟩
 have hAC : bA ≠ bC := by omega
 have hAB : bA ≠ bB := by omega
 have hBlt : bB < W0.heap.size := by rw [hbB]; exact heap_lt hB
 have hwA : w.heap.size ≤ bA := by omega
 have hwC : w.heap.size ≤ bC := by omega
 rw [← hbC] at HC
 rw [← hbA] at HA k0 k1 k4
 rw [← hbB] at k2 k3
 rw [← hbC, ← hbB, ← hbA]
 clear hW0 hA hB hbA hbB hbC
 have hb0 := Below.refl W0.heap.size W0
 have hbB : bB < W0.heap.size := hBlt
 have HS : Hid (∀ x y, (((W0.setCell ⟨bA, 2, none⟩ x).setCell ⟨bA, 3, none⟩ y).cell? ⟨bB, 2, none⟩ = some (.int .i64 mn) ∧ ((W0.setCell ⟨bA, 2, none⟩ x).setCell ⟨bA, 3, none⟩ y).cell? ⟨bB, 3, none⟩ = some (.int .i64 mx)) ∧ w.heap.size ≤ ((W0.setCell ⟨bA, 2, none⟩ x).setCell ⟨bA, 3, none⟩ y).heap.size) := fun x y => ⟨⟨(cell_setCell_other _ _ _ _ (by exact hAB)).trans ((cell_setCell_other _ _ _ _ (by exact hAB)).trans k2), (cell_setCell_other _ _ _ _ (by exact hAB)).trans ((cell_setCell_other _ _ _ _ (by exact hAB)).trans k3)⟩, by simp; exact HK0.out.size⟩
 have HS1 : Hid (∀ x, ((W0.setCell ⟨bA, 2, none⟩ x).cell? ⟨bB, 2, none⟩ = some (.int .i64 mn) ∧ (W0.setCell ⟨bA, 2, none⟩ x).cell? ⟨bB, 3, none⟩ = some (.int .i64 mx)) ∧ w.heap.size ≤ (W0.setCell ⟨bA, 2, none⟩ x).heap.size) := fun x => ⟨⟨(cell_setCell_other _ _ _ _ (by exact hAB)).trans k2, (cell_setCell_other _ _ _ _ (by exact hAB)).trans k3⟩, by simp; exact HK0.out.size⟩
 refine wp_region_held_drew (S := (fun W => (W.cell? ⟨bB, 2, none⟩ = some (.int .i64 mn) ∧ W.cell? ⟨bB, 3, none⟩ = some (.int .i64 mx)) ∧ w.heap.size ≤ W.heap.size)) (by kernel_rfl) ?_ (fun hHeld => ?_)
 ·exact ⟨⟨k2, k3⟩, HK0.out.size⟩
 refine tkC 0 (oi := ⟨some 55, _, _, _, _, _⟩) (v := ?_) rfl (by kernel_rfl) (fun _ _ _ h => h) (by rfl) ?_ hHeld ?_
 rotate_left
 ·(intro w hSw; obtain ⟨⟨c0, c1⟩, hb⟩ := hSw; refine .inl ?_; go_simp; (try with_reducible rfl))
 try simp only [pU1, pU2, pU3, pU4]
 refine tkC 1 (oi := ⟨some 56, _, _, _, _, _⟩) (v := ?_) rfl (by kernel_rfl) (fun _ _ _ h => h) (by rfl) ?_ hHeld ?_
 rotate_left
 ·(intro w hSw; obtain ⟨⟨c0, c1⟩, hb⟩ := hSw; refine .inl ?_; go_simp; (try with_reducible rfl))
 try simp only [pU1, pU2, pU3, pU4]
 refine tkC 2 (oi := ⟨some 57, _, _, _, _, _⟩) (v := ?_) rfl (by kernel_rfl) (fun _ _ _ h => h) (by rfl) ?_ hHeld ?_
 rotate_left
 ·(intro w hSw; obtain ⟨⟨c0, c1⟩, hb⟩ := hSw; refine .inl ?_; go_simp; (try with_reducible rfl))
 try simp only [pU1, pU2, pU3, pU4]
 refine tkC 6 (oi := ⟨some 61, _, _, _, _, _⟩) (v := ?_) rfl (by kernel_rfl) (fun _ _ _ h => h) (by rfl) ?_ hHeld ?_
 rotate_left
 ·(intro w hSw; obtain ⟨⟨c0, c1⟩, hb⟩ := hSw; refine .inl ?_; go_simp; (try with_reducible rfl))
 try simp only [pU1, pU2, pU3, pU4]
 refine tkC 7 (oi := ⟨some 62, _, _, _, _, _⟩) (v := ?_) rfl (by kernel_rfl) (fun _ _ _ h => h) (by rfl) ?_ hHeld ?_
 rotate_left
 ·(intro w hSw; obtain ⟨⟨c0, c1⟩, hb⟩ := hSw; refine .inl ?_; go_simp; (try with_reducible rfl))
 try simp only [pU1, pU2, pU3, pU4]
 refine tkC 8 (oi := ⟨some 63, _, _, _, _, _⟩) (v := ?_) rfl (by kernel_rfl) (fun _ _ _ h => h) (by rfl) ?_ hHeld ?_
 rotate_left
 ·(intro w hSw; obtain ⟨⟨c0, c1⟩, hb⟩ := hSw; refine .inl ?_; go_simp; (try with_reducible rfl))
 try simp only [pU1, pU2, pU3, pU4]
 refine wpAnyH_ready (rs := [3, 9]) (by kernel_rfl) (by simp) ?_
 refine AllReadyH.cons (o := ⟨some 58, _, _, _, _, _⟩) rfl (fun K hK => ?_) (AllReadyH.cons (o := ⟨some 64, _, _, _, _, _⟩) rfl (fun K hK => ?_) (AllReadyH.nil))
 ·
  go_simp
  refine hK.out _ _ hHeld (fun hHeld => ?_)
  clear hK
  try simp only [pU1, pU2, pU3, pU4]
  refine tkC 4 (oi := ⟨some 59, _, _, _, _, _⟩) (v := ?_) rfl (by kernel_rfl) (fun _ _ _ h => h) (by rfl) ?_ hHeld ?_
  rotate_left
  ·(intro w hSw; obtain ⟨⟨c0, c1⟩, hb⟩ := hSw; refine .inl ?_; go_simp; (try with_reducible rfl))
  try simp only [pU1, pU2, pU3, pU4]
  refine tkC 5 (oi := ⟨some 60, _, _, _, _, _⟩) (v := ?_) rfl (by kernel_rfl) (fun _ _ _ h => h) (by rfl) ?_ hHeld ?_
  rotate_left
  ·intro w hSw
   apply enters
   ·go_simp
    exact ⟨rfl, rfl⟩
   ·exact CC.out _ _
  try simp only [pU1, pU2, pU3, pU4]
  refine wpAnyH_ready (rs := [9]) (by kernel_rfl) (by simp) ?_
  refine AllReadyH.cons (o := ⟨some 64, _, _, _, _, _⟩) rfl (fun K hK => ?_) (AllReadyH.nil)
  go_simp
  refine hK.out _ _ hHeld (fun hHeld => ?_)
  clear hK
  try simp only [pU1, pU2, pU3, pU4]
  refine tkC 10 (oi := ⟨some 65, _, _, _, _, _⟩) (v := ?_) rfl (by kernel_rfl) (fun _ _ _ h => h) (by rfl) ?_ hHeld ?_
  rotate_left
  ·(intro w hSw; obtain ⟨⟨c0, c1⟩, hb⟩ := hSw; refine .inl ?_; go_simp; (try with_reducible rfl))
  try simp only [pU1, pU2, pU3, pU4]
  refine tkC 11 (oi := ⟨some 66, _, _, _, _, _⟩) (v := ?_) rfl (by kernel_rfl) (fun _ _ _ h => h) (by rfl) ?_ hHeld ?_
  rotate_left
  ·intro w hSw
   apply enters
   ·go_simp
    exact ⟨rfl, rfl⟩
   ·exact CC.out _ _
  try simp only [pU1, pU2, pU3, pU4]
  refine tkC 12 (oi := ⟨some 67, _, _, _, _, _⟩) (v := ?_) rfl (by kernel_rfl) (fun _ _ _ h => h) (by rfl) ?_ hHeld ?_
  rotate_left
  ·(intro w hSw; obtain ⟨⟨c0, c1⟩, hb⟩ := hSw; refine .inl ?_; go_simp; (try with_reducible rfl))
  try simp only [pU1, pU2, pU3, pU4]
  refine wpAnyH_ready (rs := [13]) (by kernel_rfl) (by simp) ?_
  refine AllReadyH.cons (o := ⟨none, _, _, _, _, _⟩) rfl (fun K hK => ?_) (AllReadyH.nil)
  go_simp
  refine hK.out _ _ (HS1.out _) (fun hHeld => ?_)
  clear hK
  try simp only [pU1, pU2, pU3, pU4]
  refine tkC 14 (oi := ⟨some 68, _, _, _, _, _⟩) (v := ?_) rfl (by kernel_rfl) (fun _ _ _ h => h) (by rfl) ?_ hHeld ?_
  rotate_left
  ·(intro w hSw; obtain ⟨⟨c0, c1⟩, hb⟩ := hSw; refine .inl ?_; go_simp; (try with_reducible rfl))
  try simp only [pU1, pU2, pU3, pU4]
  refine wpAnyH_ready (rs := [15]) (by kernel_rfl) (by simp) ?_
  refine AllReadyH.cons (o := ⟨none, _, _, _, _, _⟩) rfl (fun K hK => ?_) (AllReadyH.nil)
  go_simp
  refine hK.out _ _ (HS.out _ _) (fun hHeld => ?_)
  clear hK
  try simp only [pU1, pU2, pU3, pU4]
  refine wpAnyH_done (by kernel_rfl) ?_ _
  have HE2 : Hid ((((W0.setCell ⟨bA, 2, none⟩ (.int .i64 (capI (IntKind.i64.wrap (mn * l))))).setCell ⟨bA, 3, none⟩ (.int .i64 (capI (IntKind.i64.wrap (mx * m))))).drew).heap[bA]? = some (.cells #[.int .i64 (d + 1), .int .i64 g, .int .i64 (capI (IntKind.i64.wrap (mn * l))), .int .i64 (capI (IntKind.i64.wrap (mx * m))), .bool en, .bool false] 98 (0, 0))) := heap_drew0 (heap_setCell_same _ _ 3 _ _ _ (heap_setCell_same _ _ 2 _ _ _ HA.out))
  have HX2 : Hid (Kept w (((W0.setCell ⟨bA, 2, none⟩ (.int .i64 (capI (IntKind.i64.wrap (mn * l))))).setCell ⟨bA, 3, none⟩ (.int .i64 (capI (IntKind.i64.wrap (mx * m))))).drew)) := Below.drew (Below.setCell (Below.setCell HK0.out hwA _) hwA _)
  have HC2 : Hid ((((W0.setCell ⟨bA, 2, none⟩ (.int .i64 (capI (IntKind.i64.wrap (mn * l))))).setCell ⟨bA, 3, none⟩ (.int .i64 (capI (IntKind.i64.wrap (mx * m))))).drew).heap[bC]? = some (.cells #[.int .i64 0, .int .i64 0, .int .i64 0, .int .i64 0, .bool false, .bool false] 98 (0, 0))) := heap_drew0 ((heap_set_out _ _ _ _ hAC).trans ((heap_set_out _ _ _ _ hAC).trans HC.out))
  obtain ⟨wy, hwy⟩ : ∃ x, x = ((W0.setCell ⟨bA, 2, none⟩ (.int .i64 (capI (IntKind.i64.wrap (mn * l))))).setCell ⟨bA, 3, none⟩ (.int .i64 (capI (IntKind.i64.wrap (mx * m))))).drew := ⟨_, rfl⟩
  rw [← hwy] at HE2 HX2 HC2 ⊢
  clear hwy hHeld k0 k1 k2 k3 k4 HS HS1 HA HC HK0
  go_wp2_with (first | ((refine wpList_load_row ?c0 98 (.tmp 2) ?c1 bA ?c2 98 #[.int .i64 (d + 1), .int .i64 g, .int .i64 (capI (IntKind.i64.wrap (mn * l))), .int .i64 (capI (IntKind.i64.wrap (mx * m))), .bool en, .bool false] (0, 0) _ HE2.out Tryz.underlying98 ?c3 sizeFc ?_); (case c0 => with_reducible rfl); (case c1 => with_reducible rfl); (case c2 => rfl); (case c3 => rfl)) | ((refine wpList_store_row ?c0 98 (.tmp 4) (.tmp 69) ?c1 bC #[.int .i64 (d + 1), .int .i64 g, .int .i64 (capI (IntKind.i64.wrap (mn * l))), .int .i64 (capI (IntKind.i64.wrap (mx * m))), .bool en, .bool false] ?c2 ?c3 _ _ HC2.out ?c4 ?c5 ?c6 ?_); (case c0 => with_reducible rfl); (case c1 => with_reducible rfl); (case c2 => rfl); (case c3 => rfl); (case c4 => exact sizeFc); (case c5 => rfl); (case c6 => simp [Value.oneCell'])))
  exact bodyPost_ret (results_cell_row Tryz.results71 _ _ bC _ #[.int .i64 (d + 1), .int .i64 g, .int .i64 (capI (IntKind.i64.wrap (mn * l))), .int .i64 (capI (IntKind.i64.wrap (mx * m))), .bool en, .bool false] (0, 0) _ rfl (setRow_heap _ _ _ _ _ _ HC2.out) Tryz.underlying98 rfl sizeFc) rfl ⟨rfl, below_setRow HX2.out hwC _⟩
 ·
  go_simp
  refine hK.out _ _ hHeld (fun hHeld => ?_)
  clear hK
  try simp only [pU1, pU2, pU3, pU4]
  refine tkC 10 (oi := ⟨some 65, _, _, _, _, _⟩) (v := ?_) rfl (by kernel_rfl) (fun _ _ _ h => h) (by rfl) ?_ hHeld ?_
  rotate_left
  ·(intro w hSw; obtain ⟨⟨c0, c1⟩, hb⟩ := hSw; refine .inl ?_; go_simp; (try with_reducible rfl))
  try simp only [pU1, pU2, pU3, pU4]
  refine wpAnyH_ready (rs := [3]) (by kernel_rfl) (by simp) ?_
  refine AllReadyH.cons (o := ⟨some 58, _, _, _, _, _⟩) rfl (fun K hK => ?_) (AllReadyH.nil)
  go_simp
  refine hK.out _ _ hHeld (fun hHeld => ?_)
  clear hK
  try simp only [pU1, pU2, pU3, pU4]
  refine tkC 4 (oi := ⟨some 59, _, _, _, _, _⟩) (v := ?_) rfl (by kernel_rfl) (fun _ _ _ h => h) (by rfl) ?_ hHeld ?_
  rotate_left
  ·(intro w hSw; obtain ⟨⟨c0, c1⟩, hb⟩ := hSw; refine .inl ?_; go_simp; (try with_reducible rfl))
  try simp only [pU1, pU2, pU3, pU4]
  refine tkC 5 (oi := ⟨some 60, _, _, _, _, _⟩) (v := ?_) rfl (by kernel_rfl) (fun _ _ _ h => h) (by rfl) ?_ hHeld ?_
  rotate_left
  ·intro w hSw
   apply enters
   ·go_simp
    exact ⟨rfl, rfl⟩
   ·exact CC.out _ _
  try simp only [pU1, pU2, pU3, pU4]
  refine tkC 11 (oi := ⟨some 66, _, _, _, _, _⟩) (v := ?_) rfl (by kernel_rfl) (fun _ _ _ h => h) (by rfl) ?_ hHeld ?_
  rotate_left
  ·intro w hSw
   apply enters
   ·go_simp
    exact ⟨rfl, rfl⟩
   ·exact CC.out _ _
  try simp only [pU1, pU2, pU3, pU4]
  refine tkC 12 (oi := ⟨some 67, _, _, _, _, _⟩) (v := ?_) rfl (by kernel_rfl) (fun _ _ _ h => h) (by rfl) ?_ hHeld ?_
  rotate_left
  ·(intro w hSw; obtain ⟨⟨c0, c1⟩, hb⟩ := hSw; refine .inl ?_; go_simp; (try with_reducible rfl))
  try simp only [pU1, pU2, pU3, pU4]
  refine wpAnyH_ready (rs := [13]) (by kernel_rfl) (by simp) ?_
  refine AllReadyH.cons (o := ⟨none, _, _, _, _, _⟩) rfl (fun K hK => ?_) (AllReadyH.nil)
  go_simp
  refine hK.out _ _ (HS1.out _) (fun hHeld => ?_)
  clear hK
  try simp only [pU1, pU2, pU3, pU4]
  refine tkC 14 (oi := ⟨some 68, _, _, _, _, _⟩) (v := ?_) rfl (by kernel_rfl) (fun _ _ _ h => h) (by rfl) ?_ hHeld ?_
  rotate_left
  ·(intro w hSw; obtain ⟨⟨c0, c1⟩, hb⟩ := hSw; refine .inl ?_; go_simp; (try with_reducible rfl))
  try simp only [pU1, pU2, pU3, pU4]
  refine wpAnyH_ready (rs := [15]) (by kernel_rfl) (by simp) ?_
  refine AllReadyH.cons (o := ⟨none, _, _, _, _, _⟩) rfl (fun K hK => ?_) (AllReadyH.nil)
  go_simp
  refine hK.out _ _ (HS.out _ _) (fun hHeld => ?_)
  clear hK
  try simp only [pU1, pU2, pU3, pU4]
  refine wpAnyH_done (by kernel_rfl) ?_ _
  have HE2 : Hid ((((W0.setCell ⟨bA, 2, none⟩ (.int .i64 (capI (IntKind.i64.wrap (mn * l))))).setCell ⟨bA, 3, none⟩ (.int .i64 (capI (IntKind.i64.wrap (mx * m))))).drew).heap[bA]? = some (.cells #[.int .i64 (d + 1), .int .i64 g, .int .i64 (capI (IntKind.i64.wrap (mn * l))), .int .i64 (capI (IntKind.i64.wrap (mx * m))), .bool en, .bool false] 98 (0, 0))) := heap_drew0 (heap_setCell_same _ _ 3 _ _ _ (heap_setCell_same _ _ 2 _ _ _ HA.out))
  have HX2 : Hid (Kept w (((W0.setCell ⟨bA, 2, none⟩ (.int .i64 (capI (IntKind.i64.wrap (mn * l))))).setCell ⟨bA, 3, none⟩ (.int .i64 (capI (IntKind.i64.wrap (mx * m))))).drew)) := Below.drew (Below.setCell (Below.setCell HK0.out hwA _) hwA _)
  have HC2 : Hid ((((W0.setCell ⟨bA, 2, none⟩ (.int .i64 (capI (IntKind.i64.wrap (mn * l))))).setCell ⟨bA, 3, none⟩ (.int .i64 (capI (IntKind.i64.wrap (mx * m))))).drew).heap[bC]? = some (.cells #[.int .i64 0, .int .i64 0, .int .i64 0, .int .i64 0, .bool false, .bool false] 98 (0, 0))) := heap_drew0 ((heap_set_out _ _ _ _ hAC).trans ((heap_set_out _ _ _ _ hAC).trans HC.out))
  obtain ⟨wy, hwy⟩ : ∃ x, x = ((W0.setCell ⟨bA, 2, none⟩ (.int .i64 (capI (IntKind.i64.wrap (mn * l))))).setCell ⟨bA, 3, none⟩ (.int .i64 (capI (IntKind.i64.wrap (mx * m))))).drew := ⟨_, rfl⟩
  rw [← hwy] at HE2 HX2 HC2 ⊢
  clear hwy hHeld k0 k1 k2 k3 k4 HS HS1 HA HC HK0
  go_wp2_with (first | ((refine wpList_load_row ?c0 98 (.tmp 2) ?c1 bA ?c2 98 #[.int .i64 (d + 1), .int .i64 g, .int .i64 (capI (IntKind.i64.wrap (mn * l))), .int .i64 (capI (IntKind.i64.wrap (mx * m))), .bool en, .bool false] (0, 0) _ HE2.out Tryz.underlying98 ?c3 sizeFc ?_); (case c0 => with_reducible rfl); (case c1 => with_reducible rfl); (case c2 => rfl); (case c3 => rfl)) | ((refine wpList_store_row ?c0 98 (.tmp 4) (.tmp 69) ?c1 bC #[.int .i64 (d + 1), .int .i64 g, .int .i64 (capI (IntKind.i64.wrap (mn * l))), .int .i64 (capI (IntKind.i64.wrap (mx * m))), .bool en, .bool false] ?c2 ?c3 _ _ HC2.out ?c4 ?c5 ?c6 ?_); (case c0 => with_reducible rfl); (case c1 => with_reducible rfl); (case c2 => rfl); (case c3 => rfl); (case c4 => exact sizeFc); (case c5 => rfl); (case c6 => simp [Value.oneCell'])))
  exact bodyPost_ret (results_cell_row Tryz.results71 _ _ bC _ #[.int .i64 (d + 1), .int .i64 g, .int .i64 (capI (IntKind.i64.wrap (mn * l))), .int .i64 (capI (IntKind.i64.wrap (mx * m))), .bool en, .bool false] (0, 0) _ rfl (setRow_heap _ _ _ _ _ _ HC2.out) Tryz.underlying98 rfl sizeFc) rfl ⟨rfl, below_setRow HX2.out hwC _⟩
set_option maxRecDepth 20000 in
set_option maxHeartbeats 2000000 in
theorem rep_b3 (hd : 0 ≤ d ∧ d ≤ 1000000) (hl0 : l ≠ 0) (hx : mx ≠ -1) (hx2 : ¬ 0 < mx) : Calls Tryz.prog 71 #[fctV ⟨d, g, l, m, en, false⟩, ndV 5 A1 sn c1 mn mx lz A2 un c2] w fun e w' => e = .returned (.agg #[.int .i64 (d + 1), .int .i64 g, .int .i64 (capI (IntKind.i64.wrap (mn * l))), .int .i64 (capI (IntKind.i64.wrap (mx * m))), .bool false, .bool false]) ∧ Kept w w' := by
 obtain ⟨hd1, hd2⟩ := hd
 have l1 : (l == 0) = false := by simp [hl0]
 clear hl0
 have x1 : (mx == -1) = false := by simp [hx]
 have x3 : ¬ 1 < mx := by omega
 clear hx
 have CC := Lib.hid capped_any
 unfold fctV
 dsimp only
 go_enter Tryz.func71, Tryz.ntmps71
 go_upto_region 10 with fail
 obtain ⟨W0, hW0⟩ : ∃ x, x = ((w.alloc (.cells #[.int .i64 (d + 1), .int .i64 g, .int .i64 l, .int .i64 m, .bool false, .bool false] 98)).alloc (.cells #[.int .u8 5, .slice A1 sn c1, .int .i64 mn, .int .i64 mx, .bool lz, .slice A2 un c2] 25)).alloc (.cells #[.int .i64 0, .int .i64 0, .int .i64 0, .int .i64 0, .bool false, .bool false] 98) := ⟨_, rfl⟩
 rw [← hW0]
 have hA : W0.heap[w.heap.size]? = some (.cells #[.int .i64 (d + 1), .int .i64 g, .int .i64 l, .int .i64 m, .bool false, .bool false] 98 (0, 0)) := by rw [hW0]; exact (Below.heap_alloc _ _ _ (by simp; omega)).trans ((Below.heap_alloc _ _ _ (by simp)).trans (heap_alloc_new w _))
 have hB : W0.heap[w.heap.size + 1]? = some (.cells #[.int .u8 5, .slice A1 sn c1, .int .i64 mn, .int .i64 mx, .bool lz, .slice A2 un c2] 25 (0, 0)) := by
  have := heap_alloc_new (w.alloc (.cells #[.int .i64 (d + 1), .int .i64 g, .int .i64 l, .int .i64 m, .bool false, .bool false] 98)) (.cells #[.int .u8 5, .slice A1 sn c1, .int .i64 mn, .int .i64 mx, .bool lz, .slice A2 un c2] 25)
  rw [World.size_alloc] at this
  rw [hW0]
  exact (Below.heap_alloc _ _ _ (by simp)).trans this
 have HC : Hid (W0.heap[w.heap.size + 1 + 1]? = some (.cells #[.int .i64 0, .int .i64 0, .int .i64 0, .int .i64 0, .bool false, .bool false] 98 (0, 0))) := by rw [hW0]; exact alloc_new2 _ _ _ _
 have HK0 : Hid (Kept w W0) := by rw [hW0]; exact (((Below.refl _ w).alloc (Nat.le_refl _) _).alloc (by simp) _).alloc (by simp; omega) _
 have HA := Lib.hid hA
 have k0 : W0.cell? ⟨w.heap.size, 2, none⟩ = some (.int .i64 l) := by rw [cell_of_row _ _ _ _ _ _ hA]; rfl
 have k1 : W0.cell? ⟨w.heap.size, 3, none⟩ = some (.int .i64 m) := by rw [cell_of_row _ _ _ _ _ _ hA]; rfl
 have k2 : W0.cell? ⟨w.heap.size + 1, 2, none⟩ = some (.int .i64 mn) := by rw [cell_of_row _ _ _ _ _ _ hB]; rfl
 have k3 : W0.cell? ⟨w.heap.size + 1, 3, none⟩ = some (.int .i64 mx) := by rw [cell_of_row _ _ _ _ _ _ hB]; rfl
 have k4 : ∀ j, W0.frozen? ⟨w.heap.size, j, none⟩ = false := fun j => by simp [World.frozen?, show W0.heap[w.heap.size]? = _ from hA]
 obtain ⟨bA, hbA⟩ : ∃ b, b = w.heap.size := ⟨_, rfl⟩
 obtain ⟨bB, hbB⟩ : ∃ b, b = w.heap.size + 1 := ⟨_, rfl⟩
 obtain ⟨bC, hbC⟩ : ∃ b, b = w.heap.size + 1 + 1 := ⟨_, rfl⟩
 have hAC : bA ≠ bC := by omega
 have hAB : bA ≠ bB := by omega
 have hBlt : bB < W0.heap.size := by rw [hbB]; exact heap_lt hB
 have hwA : w.heap.size ≤ bA := by omega
 have hwC : w.heap.size ≤ bC := by omega
 rw [← hbC] at HC
 rw [← hbA] at HA k0 k1 k4
 rw [← hbB] at k2 k3
 rw [← hbC, ← hbB, ← hbA]
 clear hW0 hA hB hbA hbB hbC
 have hb0 := Below.refl W0.heap.size W0
 have hbB : bB < W0.heap.size := hBlt
 have HS : Hid (∀ x y, (((W0.setCell ⟨bA, 2, none⟩ x).setCell ⟨bA, 3, none⟩ y).cell? ⟨bB, 2, none⟩ = some (.int .i64 mn) ∧ ((W0.setCell ⟨bA, 2, none⟩ x).setCell ⟨bA, 3, none⟩ y).cell? ⟨bB, 3, none⟩ = some (.int .i64 mx)) ∧ w.heap.size ≤ ((W0.setCell ⟨bA, 2, none⟩ x).setCell ⟨bA, 3, none⟩ y).heap.size) := fun x y => ⟨⟨(cell_setCell_other _ _ _ _ (by exact hAB)).trans ((cell_setCell_other _ _ _ _ (by exact hAB)).trans k2), (cell_setCell_other _ _ _ _ (by exact hAB)).trans ((cell_setCell_other _ _ _ _ (by exact hAB)).trans k3)⟩, by simp; exact HK0.out.size⟩
 have HS1 : Hid (∀ x, ((W0.setCell ⟨bA, 2, none⟩ x).cell? ⟨bB, 2, none⟩ = some (.int .i64 mn) ∧ (W0.setCell ⟨bA, 2, none⟩ x).cell? ⟨bB, 3, none⟩ = some (.int .i64 mx)) ∧ w.heap.size ≤ (W0.setCell ⟨bA, 2, none⟩ x).heap.size) := fun x => ⟨⟨(cell_setCell_other _ _ _ _ (by exact hAB)).trans k2, (cell_setCell_other _ _ _ _ (by exact hAB)).trans k3⟩, by simp; exact HK0.out.size⟩
 refine wp_region_held_drew (S := (fun W => (W.cell? ⟨bB, 2, none⟩ = some (.int .i64 mn) ∧ W.cell? ⟨bB, 3, none⟩ = some (.int .i64 mx)) ∧ w.heap.size ≤ W.heap.size)) (by kernel_rfl) ?_ (fun hHeld => ?_)
 ·exact ⟨⟨k2, k3⟩, HK0.out.size⟩
 refine tkC 0 (oi := ⟨some 55, _, _, _, _, _⟩) (v := ?_) rfl (by kernel_rfl) (fun _ _ _ h => h) (by rfl) ?_ hHeld ?_
 rotate_left
 ·(intro w hSw; obtain ⟨⟨c0, c1⟩, hb⟩ := hSw; refine .inl ?_; go_simp; (try with_reducible rfl))
 try simp only [pU1, pU2, pU3, pU4]
 refine tkC 1 (oi := ⟨some 56, _, _, _, _, _⟩) (v := ?_) rfl (by kernel_rfl) (fun _ _ _ h => h) (by rfl) ?_ hHeld ?_
 rotate_left
 ·(intro w hSw; obtain ⟨⟨c0, c1⟩, hb⟩ := hSw; refine .inl ?_; go_simp; (try with_reducible rfl))
 try simp only [pU1, pU2, pU3, pU4]
 refine tkC 2 (oi := ⟨some 57, _, _, _, _, _⟩) (v := ?_) rfl (by kernel_rfl) (fun _ _ _ h => h) (by rfl) ?_ hHeld ?_
 rotate_left
 ·(intro w hSw; obtain ⟨⟨c0, c1⟩, hb⟩ := hSw; refine .inl ?_; go_simp; (try with_reducible rfl))
 try simp only [pU1, pU2, pU3, pU4]
 refine tkC 6 (oi := ⟨some 61, _, _, _, _, _⟩) (v := ?_) rfl (by kernel_rfl) (fun _ _ _ h => h) (by rfl) ?_ hHeld ?_
 rotate_left
 ·(intro w hSw; obtain ⟨⟨c0, c1⟩, hb⟩ := hSw; refine .inl ?_; go_simp; (try with_reducible rfl))
 try simp only [pU1, pU2, pU3, pU4]
 refine tkC 7 (oi := ⟨some 62, _, _, _, _, _⟩) (v := ?_) rfl (by kernel_rfl) (fun _ _ _ h => h) (by rfl) ?_ hHeld ?_
 rotate_left
 ·(intro w hSw; obtain ⟨⟨c0, c1⟩, hb⟩ := hSw; refine .inl ?_; go_simp; (try with_reducible rfl))
 try simp only [pU1, pU2, pU3, pU4]
 refine tkC 8 (oi := ⟨some 63, _, _, _, _, _⟩) (v := ?_) rfl (by kernel_rfl) (fun _ _ _ h => h) (by rfl) ?_ hHeld ?_
 rotate_left
 ·(intro w hSw; obtain ⟨⟨c0, c1⟩, hb⟩ := hSw; refine .inl ?_; go_simp; (try with_reducible rfl))
 try simp only [pU1, pU2, pU3, pU4]
 refine wpAnyH_ready (rs := [3, 9]) (by kernel_rfl) (by simp) ?_
 refine AllReadyH.cons (o := ⟨some 58, _, _, _, _, _⟩) rfl (fun K hK => ?_) (AllReadyH.cons (o := ⟨some 64, _, _, _, _, _⟩) rfl (fun K hK => ?_) (AllReadyH.nil))
 ·
  go_simp
  refine hK.out _ _ hHeld (fun hHeld => ?_)
  clear hK
  try simp only [pU1, pU2, pU3, pU4]
  refine tkC 4 (oi := ⟨some 59, _, _, _, _, _⟩) (v := ?_) rfl (by kernel_rfl) (fun _ _ _ h => h) (by rfl) ?_ hHeld ?_
  rotate_left
  ·(intro w hSw; obtain ⟨⟨c0, c1⟩, hb⟩ := hSw; refine .inl ?_; go_simp; (try with_reducible rfl))
  try simp only [pU1, pU2, pU3, pU4]
  refine tkC 5 (oi := ⟨some 60, _, _, _, _, _⟩) (v := ?_) rfl (by kernel_rfl) (fun _ _ _ h => h) (by rfl) ?_ hHeld ?_
  rotate_left
  ·intro w hSw
   apply enters
   ·go_simp
    exact ⟨rfl, rfl⟩
   ·exact CC.out _ _
  try simp only [pU1, pU2, pU3, pU4]
  refine wpAnyH_ready (rs := [9]) (by kernel_rfl) (by simp) ?_
  refine AllReadyH.cons (o := ⟨some 64, _, _, _, _, _⟩) rfl (fun K hK => ?_) (AllReadyH.nil)
  go_simp
  refine hK.out _ _ hHeld (fun hHeld => ?_)
  clear hK
  try simp only [pU1, pU2, pU3, pU4]
  refine tkC 10 (oi := ⟨some 65, _, _, _, _, _⟩) (v := ?_) rfl (by kernel_rfl) (fun _ _ _ h => h) (by rfl) ?_ hHeld ?_
  rotate_left
  ·(intro w hSw; obtain ⟨⟨c0, c1⟩, hb⟩ := hSw; refine .inl ?_; go_simp; (try with_reducible rfl))
  try simp only [pU1, pU2, pU3, pU4]
  refine tkC 11 (oi := ⟨some 66, _, _, _, _, _⟩) (v := ?_) rfl (by kernel_rfl) (fun _ _ _ h => h) (by rfl) ?_ hHeld ?_
  rotate_left
  ·intro w hSw
   apply enters
   ·go_simp
    exact ⟨rfl, rfl⟩
   ·exact CC.out _ _
  try simp only [pU1, pU2, pU3, pU4]
  refine tkC 12 (oi := ⟨some 67, _, _, _, _, _⟩) (v := ?_) rfl (by kernel_rfl) (fun _ _ _ h => h) (by rfl) ?_ hHeld ?_
  rotate_left
  ·(intro w hSw; obtain ⟨⟨c0, c1⟩, hb⟩ := hSw; refine .inl ?_; go_simp; (try with_reducible rfl))
  try simp only [pU1, pU2, pU3, pU4]
  refine wpAnyH_ready (rs := [13]) (by kernel_rfl) (by simp) ?_
  refine AllReadyH.cons (o := ⟨none, _, _, _, _, _⟩) rfl (fun K hK => ?_) (AllReadyH.nil)
  go_simp
  refine hK.out _ _ (HS1.out _) (fun hHeld => ?_)
  clear hK
  try simp only [pU1, pU2, pU3, pU4]
  refine tkC 14 (oi := ⟨some 68, _, _, _, _, _⟩) (v := ?_) rfl (by kernel_rfl) (fun _ _ _ h => h) (by rfl) ?_ hHeld ?_
  rotate_left
  ·(intro w hSw; obtain ⟨⟨c0, c1⟩, hb⟩ := hSw; refine .inl ?_; go_simp; (try with_reducible rfl))
  try simp only [pU1, pU2, pU3, pU4]
  refine wpAnyH_ready (rs := [15]) (by kernel_rfl) (by simp) ?_
  refine AllReadyH.cons (o := ⟨none, _, _, _, _, _⟩) rfl (fun K hK => ?_) (AllReadyH.nil)
  go_simp
  refine hK.out _ _ (HS.out _ _) (fun hHeld => ?_)
  clear hK
  try simp only [pU1, pU2, pU3, pU4]
  refine wpAnyH_done (by kernel_rfl) ?_ _
  have HE2 : Hid ((((W0.setCell ⟨bA, 2, none⟩ (.int .i64 (capI (IntKind.i64.wrap (mn * l))))).setCell ⟨bA, 3, none⟩ (.int .i64 (capI (IntKind.i64.wrap (mx * m))))).drew).heap[bA]? = some (.cells #[.int .i64 (d + 1), .int .i64 g, .int .i64 (capI (IntKind.i64.wrap (mn * l))), .int .i64 (capI (IntKind.i64.wrap (mx * m))), .bool false, .bool false] 98 (0, 0))) := heap_drew0 (heap_setCell_same _ _ 3 _ _ _ (heap_setCell_same _ _ 2 _ _ _ HA.out))
  have HX2 : Hid (Kept w (((W0.setCell ⟨bA, 2, none⟩ (.int .i64 (capI (IntKind.i64.wrap (mn * l))))).setCell ⟨bA, 3, none⟩ (.int .i64 (capI (IntKind.i64.wrap (mx * m))))).drew)) := Below.drew (Below.setCell (Below.setCell HK0.out hwA _) hwA _)
  have HC2 : Hid ((((W0.setCell ⟨bA, 2, none⟩ (.int .i64 (capI (IntKind.i64.wrap (mn * l))))).setCell ⟨bA, 3, none⟩ (.int .i64 (capI (IntKind.i64.wrap (mx * m))))).drew).heap[bC]? = some (.cells #[.int .i64 0, .int .i64 0, .int .i64 0, .int .i64 0, .bool false, .bool false] 98 (0, 0))) := heap_drew0 ((heap_set_out _ _ _ _ hAC).trans ((heap_set_out _ _ _ _ hAC).trans HC.out))
  obtain ⟨wy, hwy⟩ : ∃ x, x = ((W0.setCell ⟨bA, 2, none⟩ (.int .i64 (capI (IntKind.i64.wrap (mn * l))))).setCell ⟨bA, 3, none⟩ (.int .i64 (capI (IntKind.i64.wrap (mx * m))))).drew := ⟨_, rfl⟩
  rw [← hwy] at HE2 HX2 HC2 ⊢
  clear hwy hHeld k0 k1 k2 k3 k4 HS HS1 HA HC HK0
  go_wp2_with (first | ((refine wpList_load_row ?c0 98 (.tmp 2) ?c1 bA ?c2 98 #[.int .i64 (d + 1), .int .i64 g, .int .i64 (capI (IntKind.i64.wrap (mn * l))), .int .i64 (capI (IntKind.i64.wrap (mx * m))), .bool false, .bool false] (0, 0) _ HE2.out Tryz.underlying98 ?c3 sizeFc ?_); (case c0 => with_reducible rfl); (case c1 => with_reducible rfl); (case c2 => rfl); (case c3 => rfl)) | ((refine wpList_store_row ?c0 98 (.tmp 4) (.tmp 69) ?c1 bC #[.int .i64 (d + 1), .int .i64 g, .int .i64 (capI (IntKind.i64.wrap (mn * l))), .int .i64 (capI (IntKind.i64.wrap (mx * m))), .bool false, .bool false] ?c2 ?c3 _ _ HC2.out ?c4 ?c5 ?c6 ?_); (case c0 => with_reducible rfl); (case c1 => with_reducible rfl); (case c2 => rfl); (case c3 => rfl); (case c4 => exact sizeFc); (case c5 => rfl); (case c6 => simp [Value.oneCell'])))
  exact bodyPost_ret (results_cell_row Tryz.results71 _ _ bC _ #[.int .i64 (d + 1), .int .i64 g, .int .i64 (capI (IntKind.i64.wrap (mn * l))), .int .i64 (capI (IntKind.i64.wrap (mx * m))), .bool false, .bool false] (0, 0) _ rfl (setRow_heap _ _ _ _ _ _ HC2.out) Tryz.underlying98 rfl sizeFc) rfl ⟨rfl, below_setRow HX2.out hwC _⟩
 ·
  go_simp
  refine hK.out _ _ hHeld (fun hHeld => ?_)
  clear hK
  try simp only [pU1, pU2, pU3, pU4]
  refine tkC 10 (oi := ⟨some 65, _, _, _, _, _⟩) (v := ?_) rfl (by kernel_rfl) (fun _ _ _ h => h) (by rfl) ?_ hHeld ?_
  rotate_left
  ·(intro w hSw; obtain ⟨⟨c0, c1⟩, hb⟩ := hSw; refine .inl ?_; go_simp; (try with_reducible rfl))
  try simp only [pU1, pU2, pU3, pU4]
  refine wpAnyH_ready (rs := [3]) (by kernel_rfl) (by simp) ?_
  refine AllReadyH.cons (o := ⟨some 58, _, _, _, _, _⟩) rfl (fun K hK => ?_) (AllReadyH.nil)
  go_simp
  refine hK.out _ _ hHeld (fun hHeld => ?_)
  clear hK
  try simp only [pU1, pU2, pU3, pU4]
  refine tkC 4 (oi := ⟨some 59, _, _, _, _, _⟩) (v := ?_) rfl (by kernel_rfl) (fun _ _ _ h => h) (by rfl) ?_ hHeld ?_
  rotate_left
  ·(intro w hSw; obtain ⟨⟨c0, c1⟩, hb⟩ := hSw; refine .inl ?_; go_simp; (try with_reducible rfl))
  try simp only [pU1, pU2, pU3, pU4]
  refine tkC 5 (oi := ⟨some 60, _, _, _, _, _⟩) (v := ?_) rfl (by kernel_rfl) (fun _ _ _ h => h) (by rfl) ?_ hHeld ?_
  rotate_left
  ·intro w hSw
   apply enters
   ·go_simp
    exact ⟨rfl, rfl⟩
   ·exact CC.out _ _
  try simp only [pU1, pU2, pU3, pU4]
  refine tkC 11 (oi := ⟨some 66, _, _, _, _, _⟩) (v := ?_) rfl (by kernel_rfl) (fun _ _ _ h => h) (by rfl) ?_ hHeld ?_
  rotate_left
  ·intro w hSw
   apply enters
   ·go_simp
    exact ⟨rfl, rfl⟩
   ·exact CC.out _ _
  try simp only [pU1, pU2, pU3, pU4]
  refine tkC 12 (oi := ⟨some 67, _, _, _, _, _⟩) (v := ?_) rfl (by kernel_rfl) (fun _ _ _ h => h) (by rfl) ?_ hHeld ?_
  rotate_left
  ·(intro w hSw; obtain ⟨⟨c0, c1⟩, hb⟩ := hSw; refine .inl ?_; go_simp; (try with_reducible rfl))
  try simp only [pU1, pU2, pU3, pU4]
  refine wpAnyH_ready (rs := [13]) (by kernel_rfl) (by simp) ?_
  refine AllReadyH.cons (o := ⟨none, _, _, _, _, _⟩) rfl (fun K hK => ?_) (AllReadyH.nil)
  go_simp
  refine hK.out _ _ (HS1.out _) (fun hHeld => ?_)
  clear hK
  try simp only [pU1, pU2, pU3, pU4]
  refine tkC 14 (oi := ⟨some 68, _, _, _, _, _⟩) (v := ?_) rfl (by kernel_rfl) (fun _ _ _ h => h) (by rfl) ?_ hHeld ?_
  rotate_left
  ·(intro w hSw; obtain ⟨⟨c0, c1⟩, hb⟩ := hSw; refine .inl ?_; go_simp; (try with_reducible rfl))
  try simp only [pU1, pU2, pU3, pU4]
  refine wpAnyH_ready (rs := [15]) (by kernel_rfl) (by simp) ?_
  refine AllReadyH.cons (o := ⟨none, _, _, _, _, _⟩) rfl (fun K hK => ?_) (AllReadyH.nil)
  go_simp
  refine hK.out _ _ (HS.out _ _) (fun hHeld => ?_)
  clear hK
  try simp only [pU1, pU2, pU3, pU4]
  refine wpAnyH_done (by kernel_rfl) ?_ _
  have HE2 : Hid ((((W0.setCell ⟨bA, 2, none⟩ (.int .i64 (capI (IntKind.i64.wrap (mn * l))))).setCell ⟨bA, 3, none⟩ (.int .i64 (capI (IntKind.i64.wrap (mx * m))))).drew).heap[bA]? = some (.cells #[.int .i64 (d + 1), .int .i64 g, .int .i64 (capI (IntKind.i64.wrap (mn * l))), .int .i64 (capI (IntKind.i64.wrap (mx * m))), .bool false, .bool false] 98 (0, 0))) := heap_drew0 (heap_setCell_same _ _ 3 _ _ _ (heap_setCell_same _ _ 2 _ _ _ HA.out))
  have HX2 : Hid (Kept w (((W0.setCell ⟨bA, 2, none⟩ (.int .i64 (capI (IntKind.i64.wrap (mn * l))))).setCell ⟨bA, 3, none⟩ (.int .i64 (capI (IntKind.i64.wrap (mx * m))))).drew)) := Below.drew (Below.setCell (Below.setCell HK0.out hwA _) hwA _)
  have HC2 : Hid ((((W0.setCell ⟨bA, 2, none⟩ (.int .i64 (capI (IntKind.i64.wrap (mn * l))))).setCell ⟨bA, 3, none⟩ (.int .i64 (capI (IntKind.i64.wrap (mx * m))))).drew).heap[bC]? = some (.cells #[.int .i64 0, .int .i64 0, .int .i64 0, .int .i64 0, .bool false, .bool false] 98 (0, 0))) := heap_drew0 ((heap_set_out _ _ _ _ hAC).trans ((heap_set_out _ _ _ _ hAC).trans HC.out))
  obtain ⟨wy, hwy⟩ : ∃ x, x = ((W0.setCell ⟨bA, 2, none⟩ (.int .i64 (capI (IntKind.i64.wrap (mn * l))))).setCell ⟨bA, 3, none⟩ (.int .i64 (capI (IntKind.i64.wrap (mx * m))))).drew := ⟨_, rfl⟩
  rw [← hwy] at HE2 HX2 HC2 ⊢
  clear hwy hHeld k0 k1 k2 k3 k4 HS HS1 HA HC HK0
  go_wp2_with (first | ((refine wpList_load_row ?c0 98 (.tmp 2) ?c1 bA ?c2 98 #[.int .i64 (d + 1), .int .i64 g, .int .i64 (capI (IntKind.i64.wrap (mn * l))), .int .i64 (capI (IntKind.i64.wrap (mx * m))), .bool false, .bool false] (0, 0) _ HE2.out Tryz.underlying98 ?c3 sizeFc ?_); (case c0 => with_reducible rfl); (case c1 => with_reducible rfl); (case c2 => rfl); (case c3 => rfl)) | ((refine wpList_store_row ?c0 98 (.tmp 4) (.tmp 69) ?c1 bC #[.int .i64 (d + 1), .int .i64 g, .int .i64 (capI (IntKind.i64.wrap (mn * l))), .int .i64 (capI (IntKind.i64.wrap (mx * m))), .bool false, .bool false] ?c2 ?c3 _ _ HC2.out ?c4 ?c5 ?c6 ?_); (case c0 => with_reducible rfl); (case c1 => with_reducible rfl); (case c2 => rfl); (case c3 => rfl); (case c4 => exact sizeFc); (case c5 => rfl); (case c6 => simp [Value.oneCell'])))
  exact bodyPost_ret (results_cell_row Tryz.results71 _ _ bC _ #[.int .i64 (d + 1), .int .i64 g, .int .i64 (capI (IntKind.i64.wrap (mn * l))), .int .i64 (capI (IntKind.i64.wrap (mx * m))), .bool false, .bool false] (0, 0) _ rfl (setRow_heap _ _ _ _ _ _ HC2.out) Tryz.underlying98 rfl sizeFc) rfl ⟨rfl, below_setRow HX2.out hwC _⟩
set_option maxRecDepth 20000 in
set_option maxHeartbeats 2000000 in
theorem rep_c1 (hd : 0 ≤ d ∧ d ≤ 1000000) (hl0 : l = 0) (hx : mx = -1) : Calls Tryz.prog 71 #[fctV ⟨d, g, l, m, en, false⟩, ndV 5 A1 sn c1 mn mx lz A2 un c2] w fun e w' => e = .returned (.agg #[.int .i64 (d + 1), .int .i64 g, .int .i64 (capI (IntKind.i64.wrap (mn * l))), .int .i64 (capI (IntKind.i64.wrap (mx * m))), .bool true, .bool true]) ∧ Kept w w' := by
 obtain ⟨hd1, hd2⟩ := hd
 have l1 : (l == 0) = true := by simp [hl0]
 clear hl0
 have x1 : (mx == -1) = true := by simp [hx]
 clear hx
 have CC := Lib.hid capped_any
 unfold fctV
 dsimp only
 go_enter Tryz.func71, Tryz.ntmps71
 go_upto_region 10 with fail
 obtain ⟨W0, hW0⟩ : ∃ x, x = ((w.alloc (.cells #[.int .i64 (d + 1), .int .i64 g, .int .i64 l, .int .i64 m, .bool true, .bool true] 98)).alloc (.cells #[.int .u8 5, .slice A1 sn c1, .int .i64 mn, .int .i64 mx, .bool lz, .slice A2 un c2] 25)).alloc (.cells #[.int .i64 0, .int .i64 0, .int .i64 0, .int .i64 0, .bool false, .bool false] 98) := ⟨_, rfl⟩
 rw [← hW0]
 have hA : W0.heap[w.heap.size]? = some (.cells #[.int .i64 (d + 1), .int .i64 g, .int .i64 l, .int .i64 m, .bool true, .bool true] 98 (0, 0)) := by rw [hW0]; exact (Below.heap_alloc _ _ _ (by simp; omega)).trans ((Below.heap_alloc _ _ _ (by simp)).trans (heap_alloc_new w _))
 have hB : W0.heap[w.heap.size + 1]? = some (.cells #[.int .u8 5, .slice A1 sn c1, .int .i64 mn, .int .i64 mx, .bool lz, .slice A2 un c2] 25 (0, 0)) := by
  have := heap_alloc_new (w.alloc (.cells #[.int .i64 (d + 1), .int .i64 g, .int .i64 l, .int .i64 m, .bool true, .bool true] 98)) (.cells #[.int .u8 5, .slice A1 sn c1, .int .i64 mn, .int .i64 mx, .bool lz, .slice A2 un c2] 25)
  rw [World.size_alloc] at this
  rw [hW0]
  exact (Below.heap_alloc _ _ _ (by simp)).trans this
 have HC : Hid (W0.heap[w.heap.size + 1 + 1]? = some (.cells #[.int .i64 0, .int .i64 0, .int .i64 0, .int .i64 0, .bool false, .bool false] 98 (0, 0))) := by rw [hW0]; exact alloc_new2 _ _ _ _
 have HK0 : Hid (Kept w W0) := by rw [hW0]; exact (((Below.refl _ w).alloc (Nat.le_refl _) _).alloc (by simp) _).alloc (by simp; omega) _
 have HA := Lib.hid hA
 have k0 : W0.cell? ⟨w.heap.size, 2, none⟩ = some (.int .i64 l) := by rw [cell_of_row _ _ _ _ _ _ hA]; rfl
 have k1 : W0.cell? ⟨w.heap.size, 3, none⟩ = some (.int .i64 m) := by rw [cell_of_row _ _ _ _ _ _ hA]; rfl
 have k2 : W0.cell? ⟨w.heap.size + 1, 2, none⟩ = some (.int .i64 mn) := by rw [cell_of_row _ _ _ _ _ _ hB]; rfl
 have k3 : W0.cell? ⟨w.heap.size + 1, 3, none⟩ = some (.int .i64 mx) := by rw [cell_of_row _ _ _ _ _ _ hB]; rfl
 have k4 : ∀ j, W0.frozen? ⟨w.heap.size, j, none⟩ = false := fun j => by simp [World.frozen?, show W0.heap[w.heap.size]? = _ from hA]
 obtain ⟨bA, hbA⟩ : ∃ b, b = w.heap.size := ⟨_, rfl⟩
 obtain ⟨bB, hbB⟩ : ∃ b, b = w.heap.size + 1 := ⟨_, rfl⟩
 obtain ⟨bC, hbC⟩ : ∃ b, b = w.heap.size + 1 + 1 := ⟨_, rfl⟩
 have hAC : bA ≠ bC := by omega
 have hAB : bA ≠ bB := by omega
 have hBlt : bB < W0.heap.size := by rw [hbB]; exact heap_lt hB
 have hwA : w.heap.size ≤ bA := by omega
 have hwC : w.heap.size ≤ bC := by omega
 rw [← hbC] at HC
 rw [← hbA] at HA k0 k1 k4
 rw [← hbB] at k2 k3
 rw [← hbC, ← hbB, ← hbA]
 clear hW0 hA hB hbA hbB hbC
 have hb0 := Below.refl W0.heap.size W0
 have hbB : bB < W0.heap.size := hBlt
 have HS : Hid (∀ x y, (((W0.setCell ⟨bA, 2, none⟩ x).setCell ⟨bA, 3, none⟩ y).cell? ⟨bB, 2, none⟩ = some (.int .i64 mn) ∧ ((W0.setCell ⟨bA, 2, none⟩ x).setCell ⟨bA, 3, none⟩ y).cell? ⟨bB, 3, none⟩ = some (.int .i64 mx)) ∧ w.heap.size ≤ ((W0.setCell ⟨bA, 2, none⟩ x).setCell ⟨bA, 3, none⟩ y).heap.size) := fun x y => ⟨⟨(cell_setCell_other _ _ _ _ (by exact hAB)).trans ((cell_setCell_other _ _ _ _ (by exact hAB)).trans k2), (cell_setCell_other _ _ _ _ (by exact hAB)).trans ((cell_setCell_other _ _ _ _ (by exact hAB)).trans k3)⟩, by simp; exact HK0.out.size⟩
 have HS1 : Hid (∀ x, ((W0.setCell ⟨bA, 2, none⟩ x).cell? ⟨bB, 2, none⟩ = some (.int .i64 mn) ∧ (W0.setCell ⟨bA, 2, none⟩ x).cell? ⟨bB, 3, none⟩ = some (.int .i64 mx)) ∧ w.heap.size ≤ (W0.setCell ⟨bA, 2, none⟩ x).heap.size) := fun x => ⟨⟨(cell_setCell_other _ _ _ _ (by exact hAB)).trans k2, (cell_setCell_other _ _ _ _ (by exact hAB)).trans k3⟩, by simp; exact HK0.out.size⟩
 refine wp_region_held_drew (S := (fun W => (W.cell? ⟨bB, 2, none⟩ = some (.int .i64 mn) ∧ W.cell? ⟨bB, 3, none⟩ = some (.int .i64 mx)) ∧ w.heap.size ≤ W.heap.size)) (by kernel_rfl) ?_ (fun hHeld => ?_)
 ·exact ⟨⟨k2, k3⟩, HK0.out.size⟩
 refine tkC 0 (oi := ⟨some 55, _, _, _, _, _⟩) (v := ?_) rfl (by kernel_rfl) (fun _ _ _ h => h) (by rfl) ?_ hHeld ?_
 rotate_left
 ·(intro w hSw; obtain ⟨⟨c0, c1⟩, hb⟩ := hSw; refine .inl ?_; go_simp; (try with_reducible rfl))
 try simp only [pU1, pU2, pU3, pU4]
 refine tkC 1 (oi := ⟨some 56, _, _, _, _, _⟩) (v := ?_) rfl (by kernel_rfl) (fun _ _ _ h => h) (by rfl) ?_ hHeld ?_
 rotate_left
 ·(intro w hSw; obtain ⟨⟨c0, c1⟩, hb⟩ := hSw; refine .inl ?_; go_simp; (try with_reducible rfl))
 try simp only [pU1, pU2, pU3, pU4]
 refine tkC 2 (oi := ⟨some 57, _, _, _, _, _⟩) (v := ?_) rfl (by kernel_rfl) (fun _ _ _ h => h) (by rfl) ?_ hHeld ?_
 rotate_left
 ·(intro w hSw; obtain ⟨⟨c0, c1⟩, hb⟩ := hSw; refine .inl ?_; go_simp; (try with_reducible rfl))
 try simp only [pU1, pU2, pU3, pU4]
 refine tkC 6 (oi := ⟨some 61, _, _, _, _, _⟩) (v := ?_) rfl (by kernel_rfl) (fun _ _ _ h => h) (by rfl) ?_ hHeld ?_
 rotate_left
 ·(intro w hSw; obtain ⟨⟨c0, c1⟩, hb⟩ := hSw; refine .inl ?_; go_simp; (try with_reducible rfl))
 try simp only [pU1, pU2, pU3, pU4]
 refine tkC 7 (oi := ⟨some 62, _, _, _, _, _⟩) (v := ?_) rfl (by kernel_rfl) (fun _ _ _ h => h) (by rfl) ?_ hHeld ?_
 rotate_left
 ·(intro w hSw; obtain ⟨⟨c0, c1⟩, hb⟩ := hSw; refine .inl ?_; go_simp; (try with_reducible rfl))
 try simp only [pU1, pU2, pU3, pU4]
 refine tkC 8 (oi := ⟨some 63, _, _, _, _, _⟩) (v := ?_) rfl (by kernel_rfl) (fun _ _ _ h => h) (by rfl) ?_ hHeld ?_
 rotate_left
 ·(intro w hSw; obtain ⟨⟨c0, c1⟩, hb⟩ := hSw; refine .inl ?_; go_simp; (try with_reducible rfl))
 try simp only [pU1, pU2, pU3, pU4]
 refine wpAnyH_ready (rs := [3, 9]) (by kernel_rfl) (by simp) ?_
 refine AllReadyH.cons (o := ⟨some 58, _, _, _, _, _⟩) rfl (fun K hK => ?_) (AllReadyH.cons (o := ⟨some 64, _, _, _, _, _⟩) rfl (fun K hK => ?_) (AllReadyH.nil))
 ·
  go_simp
  refine hK.out _ _ hHeld (fun hHeld => ?_)
  clear hK
  try simp only [pU1, pU2, pU3, pU4]
  refine tkC 4 (oi := ⟨some 59, _, _, _, _, _⟩) (v := ?_) rfl (by kernel_rfl) (fun _ _ _ h => h) (by rfl) ?_ hHeld ?_
  rotate_left
  ·(intro w hSw; obtain ⟨⟨c0, c1⟩, hb⟩ := hSw; refine .inl ?_; go_simp; (try with_reducible rfl))
  try simp only [pU1, pU2, pU3, pU4]
  refine tkC 5 (oi := ⟨some 60, _, _, _, _, _⟩) (v := ?_) rfl (by kernel_rfl) (fun _ _ _ h => h) (by rfl) ?_ hHeld ?_
  rotate_left
  ·intro w hSw
   apply enters
   ·go_simp
    exact ⟨rfl, rfl⟩
   ·exact CC.out _ _
  try simp only [pU1, pU2, pU3, pU4]
  refine wpAnyH_ready (rs := [9]) (by kernel_rfl) (by simp) ?_
  refine AllReadyH.cons (o := ⟨some 64, _, _, _, _, _⟩) rfl (fun K hK => ?_) (AllReadyH.nil)
  go_simp
  refine hK.out _ _ hHeld (fun hHeld => ?_)
  clear hK
  try simp only [pU1, pU2, pU3, pU4]
  refine tkC 10 (oi := ⟨some 65, _, _, _, _, _⟩) (v := ?_) rfl (by kernel_rfl) (fun _ _ _ h => h) (by rfl) ?_ hHeld ?_
  rotate_left
  ·(intro w hSw; obtain ⟨⟨c0, c1⟩, hb⟩ := hSw; refine .inl ?_; go_simp; (try with_reducible rfl))
  try simp only [pU1, pU2, pU3, pU4]
  refine tkC 11 (oi := ⟨some 66, _, _, _, _, _⟩) (v := ?_) rfl (by kernel_rfl) (fun _ _ _ h => h) (by rfl) ?_ hHeld ?_
  rotate_left
  ·intro w hSw
   apply enters
   ·go_simp
    exact ⟨rfl, rfl⟩
   ·exact CC.out _ _
  try simp only [pU1, pU2, pU3, pU4]
  refine tkC 12 (oi := ⟨some 67, _, _, _, _, _⟩) (v := ?_) rfl (by kernel_rfl) (fun _ _ _ h => h) (by rfl) ?_ hHeld ?_
  rotate_left
  ·(intro w hSw; obtain ⟨⟨c0, c1⟩, hb⟩ := hSw; refine .inl ?_; go_simp; (try with_reducible rfl))
  try simp only [pU1, pU2, pU3, pU4]
  refine wpAnyH_ready (rs := [13]) (by kernel_rfl) (by simp) ?_
  refine AllReadyH.cons (o := ⟨none, _, _, _, _, _⟩) rfl (fun K hK => ?_) (AllReadyH.nil)
  go_simp
  refine hK.out _ _ (HS1.out _) (fun hHeld => ?_)
  clear hK
  try simp only [pU1, pU2, pU3, pU4]
  refine tkC 14 (oi := ⟨some 68, _, _, _, _, _⟩) (v := ?_) rfl (by kernel_rfl) (fun _ _ _ h => h) (by rfl) ?_ hHeld ?_
  rotate_left
  ·(intro w hSw; obtain ⟨⟨c0, c1⟩, hb⟩ := hSw; refine .inl ?_; go_simp; (try with_reducible rfl))
  try simp only [pU1, pU2, pU3, pU4]
  refine wpAnyH_ready (rs := [15]) (by kernel_rfl) (by simp) ?_
  refine AllReadyH.cons (o := ⟨none, _, _, _, _, _⟩) rfl (fun K hK => ?_) (AllReadyH.nil)
  go_simp
  refine hK.out _ _ (HS.out _ _) (fun hHeld => ?_)
  clear hK
  try simp only [pU1, pU2, pU3, pU4]
  refine wpAnyH_done (by kernel_rfl) ?_ _
  have HE2 : Hid ((((W0.setCell ⟨bA, 2, none⟩ (.int .i64 (capI (IntKind.i64.wrap (mn * l))))).setCell ⟨bA, 3, none⟩ (.int .i64 (capI (IntKind.i64.wrap (mx * m))))).drew).heap[bA]? = some (.cells #[.int .i64 (d + 1), .int .i64 g, .int .i64 (capI (IntKind.i64.wrap (mn * l))), .int .i64 (capI (IntKind.i64.wrap (mx * m))), .bool true, .bool true] 98 (0, 0))) := heap_drew0 (heap_setCell_same _ _ 3 _ _ _ (heap_setCell_same _ _ 2 _ _ _ HA.out))
  have HX2 : Hid (Kept w (((W0.setCell ⟨bA, 2, none⟩ (.int .i64 (capI (IntKind.i64.wrap (mn * l))))).setCell ⟨bA, 3, none⟩ (.int .i64 (capI (IntKind.i64.wrap (mx * m))))).drew)) := Below.drew (Below.setCell (Below.setCell HK0.out hwA _) hwA _)
  have HC2 : Hid ((((W0.setCell ⟨bA, 2, none⟩ (.int .i64 (capI (IntKind.i64.wrap (mn * l))))).setCell ⟨bA, 3, none⟩ (.int .i64 (capI (IntKind.i64.wrap (mx * m))))).drew).heap[bC]? = some (.cells #[.int .i64 0, .int .i64 0, .int .i64 0, .int .i64 0, .bool false, .bool false] 98 (0, 0))) := heap_drew0 ((heap_set_out _ _ _ _ hAC).trans ((heap_set_out _ _ _ _ hAC).trans HC.out))
  obtain ⟨wy, hwy⟩ : ∃ x, x = ((W0.setCell ⟨bA, 2, none⟩ (.int .i64 (capI (IntKind.i64.wrap (mn * l))))).setCell ⟨bA, 3, none⟩ (.int .i64 (capI (IntKind.i64.wrap (mx * m))))).drew := ⟨_, rfl⟩
  rw [← hwy] at HE2 HX2 HC2 ⊢
  clear hwy hHeld k0 k1 k2 k3 k4 HS HS1 HA HC HK0
  go_wp2_with (first | ((refine wpList_load_row ?c0 98 (.tmp 2) ?c1 bA ?c2 98 #[.int .i64 (d + 1), .int .i64 g, .int .i64 (capI (IntKind.i64.wrap (mn * l))), .int .i64 (capI (IntKind.i64.wrap (mx * m))), .bool true, .bool true] (0, 0) _ HE2.out Tryz.underlying98 ?c3 sizeFc ?_); (case c0 => with_reducible rfl); (case c1 => with_reducible rfl); (case c2 => rfl); (case c3 => rfl)) | ((refine wpList_store_row ?c0 98 (.tmp 4) (.tmp 69) ?c1 bC #[.int .i64 (d + 1), .int .i64 g, .int .i64 (capI (IntKind.i64.wrap (mn * l))), .int .i64 (capI (IntKind.i64.wrap (mx * m))), .bool true, .bool true] ?c2 ?c3 _ _ HC2.out ?c4 ?c5 ?c6 ?_); (case c0 => with_reducible rfl); (case c1 => with_reducible rfl); (case c2 => rfl); (case c3 => rfl); (case c4 => exact sizeFc); (case c5 => rfl); (case c6 => simp [Value.oneCell'])))
  exact bodyPost_ret (results_cell_row Tryz.results71 _ _ bC _ #[.int .i64 (d + 1), .int .i64 g, .int .i64 (capI (IntKind.i64.wrap (mn * l))), .int .i64 (capI (IntKind.i64.wrap (mx * m))), .bool true, .bool true] (0, 0) _ rfl (setRow_heap _ _ _ _ _ _ HC2.out) Tryz.underlying98 rfl sizeFc) rfl ⟨rfl, below_setRow HX2.out hwC _⟩
 ·
  go_simp
  refine hK.out _ _ hHeld (fun hHeld => ?_)
  clear hK
  try simp only [pU1, pU2, pU3, pU4]
  refine tkC 10 (oi := ⟨some 65, _, _, _, _, _⟩) (v := ?_) rfl (by kernel_rfl) (fun _ _ _ h => h) (by rfl) ?_ hHeld ?_
  rotate_left
  ·(intro w hSw; obtain ⟨⟨c0, c1⟩, hb⟩ := hSw; refine .inl ?_; go_simp; (try with_reducible rfl))
  try simp only [pU1, pU2, pU3, pU4]
  refine wpAnyH_ready (rs := [3]) (by kernel_rfl) (by simp) ?_
  refine AllReadyH.cons (o := ⟨some 58, _, _, _, _, _⟩) rfl (fun K hK => ?_) (AllReadyH.nil)
  go_simp
  refine hK.out _ _ hHeld (fun hHeld => ?_)
  clear hK
  try simp only [pU1, pU2, pU3, pU4]
  refine tkC 4 (oi := ⟨some 59, _, _, _, _, _⟩) (v := ?_) rfl (by kernel_rfl) (fun _ _ _ h => h) (by rfl) ?_ hHeld ?_
  rotate_left
  ·(intro w hSw; obtain ⟨⟨c0, c1⟩, hb⟩ := hSw; refine .inl ?_; go_simp; (try with_reducible rfl))
  try simp only [pU1, pU2, pU3, pU4]
  refine tkC 5 (oi := ⟨some 60, _, _, _, _, _⟩) (v := ?_) rfl (by kernel_rfl) (fun _ _ _ h => h) (by rfl) ?_ hHeld ?_
  rotate_left
  ·intro w hSw
   apply enters
   ·go_simp
    exact ⟨rfl, rfl⟩
   ·exact CC.out _ _
  try simp only [pU1, pU2, pU3, pU4]
  refine tkC 11 (oi := ⟨some 66, _, _, _, _, _⟩) (v := ?_) rfl (by kernel_rfl) (fun _ _ _ h => h) (by rfl) ?_ hHeld ?_
  rotate_left
  ·intro w hSw
   apply enters
   ·go_simp
    exact ⟨rfl, rfl⟩
   ·exact CC.out _ _
  try simp only [pU1, pU2, pU3, pU4]
  refine tkC 12 (oi := ⟨some 67, _, _, _, _, _⟩) (v := ?_) rfl (by kernel_rfl) (fun _ _ _ h => h) (by rfl) ?_ hHeld ?_
  rotate_left
  ·(intro w hSw; obtain ⟨⟨c0, c1⟩, hb⟩ := hSw; refine .inl ?_; go_simp; (try with_reducible rfl))
  try simp only [pU1, pU2, pU3, pU4]
  refine wpAnyH_ready (rs := [13]) (by kernel_rfl) (by simp) ?_
  refine AllReadyH.cons (o := ⟨none, _, _, _, _, _⟩) rfl (fun K hK => ?_) (AllReadyH.nil)
  go_simp
  refine hK.out _ _ (HS1.out _) (fun hHeld => ?_)
  clear hK
  try simp only [pU1, pU2, pU3, pU4]
  refine tkC 14 (oi := ⟨some 68, _, _, _, _, _⟩) (v := ?_) rfl (by kernel_rfl) (fun _ _ _ h => h) (by rfl) ?_ hHeld ?_
  rotate_left
  ·(intro w hSw; obtain ⟨⟨c0, c1⟩, hb⟩ := hSw; refine .inl ?_; go_simp; (try with_reducible rfl))
  try simp only [pU1, pU2, pU3, pU4]
  refine wpAnyH_ready (rs := [15]) (by kernel_rfl) (by simp) ?_
  refine AllReadyH.cons (o := ⟨none, _, _, _, _, _⟩) rfl (fun K hK => ?_) (AllReadyH.nil)
  go_simp
  refine hK.out _ _ (HS.out _ _) (fun hHeld => ?_)
  clear hK
  try simp only [pU1, pU2, pU3, pU4]
  refine wpAnyH_done (by kernel_rfl) ?_ _
  have HE2 : Hid ((((W0.setCell ⟨bA, 2, none⟩ (.int .i64 (capI (IntKind.i64.wrap (mn * l))))).setCell ⟨bA, 3, none⟩ (.int .i64 (capI (IntKind.i64.wrap (mx * m))))).drew).heap[bA]? = some (.cells #[.int .i64 (d + 1), .int .i64 g, .int .i64 (capI (IntKind.i64.wrap (mn * l))), .int .i64 (capI (IntKind.i64.wrap (mx * m))), .bool true, .bool true] 98 (0, 0))) := heap_drew0 (heap_setCell_same _ _ 3 _ _ _ (heap_setCell_same _ _ 2 _ _ _ HA.out))
  have HX2 : Hid (Kept w (((W0.setCell ⟨bA, 2, none⟩ (.int .i64 (capI (IntKind.i64.wrap (mn * l))))).setCell ⟨bA, 3, none⟩ (.int .i64 (capI (IntKind.i64.wrap (mx * m))))).drew)) := Below.drew (Below.setCell (Below.setCell HK0.out hwA _) hwA _)
  have HC2 : Hid ((((W0.setCell ⟨bA, 2, none⟩ (.int .i64 (capI (IntKind.i64.wrap (mn * l))))).setCell ⟨bA, 3, none⟩ (.int .i64 (capI (IntKind.i64.wrap (mx * m))))).drew).heap[bC]? = some (.cells #[.int .i64 0, .int .i64 0, .int .i64 0, .int .i64 0, .bool false, .bool false] 98 (0, 0))) := heap_drew0 ((heap_set_out _ _ _ _ hAC).trans ((heap_set_out _ _ _ _ hAC).trans HC.out))
  obtain ⟨wy, hwy⟩ : ∃ x, x = ((W0.setCell ⟨bA, 2, none⟩ (.int .i64 (capI (IntKind.i64.wrap (mn * l))))).setCell ⟨bA, 3, none⟩ (.int .i64 (capI (IntKind.i64.wrap (mx * m))))).drew := ⟨_, rfl⟩
  rw [← hwy] at HE2 HX2 HC2 ⊢
  clear hwy hHeld k0 k1 k2 k3 k4 HS HS1 HA HC HK0
  go_wp2_with (first | ((refine wpList_load_row ?c0 98 (.tmp 2) ?c1 bA ?c2 98 #[.int .i64 (d + 1), .int .i64 g, .int .i64 (capI (IntKind.i64.wrap (mn * l))), .int .i64 (capI (IntKind.i64.wrap (mx * m))), .bool true, .bool true] (0, 0) _ HE2.out Tryz.underlying98 ?c3 sizeFc ?_); (case c0 => with_reducible rfl); (case c1 => with_reducible rfl); (case c2 => rfl); (case c3 => rfl)) | ((refine wpList_store_row ?c0 98 (.tmp 4) (.tmp 69) ?c1 bC #[.int .i64 (d + 1), .int .i64 g, .int .i64 (capI (IntKind.i64.wrap (mn * l))), .int .i64 (capI (IntKind.i64.wrap (mx * m))), .bool true, .bool true] ?c2 ?c3 _ _ HC2.out ?c4 ?c5 ?c6 ?_); (case c0 => with_reducible rfl); (case c1 => with_reducible rfl); (case c2 => rfl); (case c3 => rfl); (case c4 => exact sizeFc); (case c5 => rfl); (case c6 => simp [Value.oneCell'])))
  exact bodyPost_ret (results_cell_row Tryz.results71 _ _ bC _ #[.int .i64 (d + 1), .int .i64 g, .int .i64 (capI (IntKind.i64.wrap (mn * l))), .int .i64 (capI (IntKind.i64.wrap (mx * m))), .bool true, .bool true] (0, 0) _ rfl (setRow_heap _ _ _ _ _ _ HC2.out) Tryz.underlying98 rfl sizeFc) rfl ⟨rfl, below_setRow HX2.out hwC _⟩
set_option maxRecDepth 20000 in
set_option maxHeartbeats 2000000 in
theorem rep_c2 (hd : 0 ≤ d ∧ d ≤ 1000000) (hl0 : l = 0) (hx : mx ≠ -1) (hx2 : 1 < mx) : Calls Tryz.prog 71 #[fctV ⟨d, g, l, m, en, false⟩, ndV 5 A1 sn c1 mn mx lz A2 un c2] w fun e w' => e = .returned (.agg #[.int .i64 (d + 1), .int .i64 g, .int .i64 (capI (IntKind.i64.wrap (mn * l))), .int .i64 (capI (IntKind.i64.wrap (mx * m))), .bool en, .bool true]) ∧ Kept w w' := by
 obtain ⟨hd1, hd2⟩ := hd
 have l1 : (l == 0) = true := by simp [hl0]
 clear hl0
 have x1 : (mx == -1) = false := by simp [hx]
 have x3 : 0 < mx := by omega
 clear hx
 have CC := Lib.hid capped_any
 unfold fctV
 dsimp only
 go_enter Tryz.func71, Tryz.ntmps71
 go_upto_region 10 with fail
 obtain ⟨W0, hW0⟩ : ∃ x, x = ((w.alloc (.cells #[.int .i64 (d + 1), .int .i64 g, .int .i64 l, .int .i64 m, .bool en, .bool true] 98)).alloc (.cells #[.int .u8 5, .slice A1 sn c1, .int .i64 mn, .int .i64 mx, .bool lz, .slice A2 un c2] 25)).alloc (.cells #[.int .i64 0, .int .i64 0, .int .i64 0, .int .i64 0, .bool false, .bool false] 98) := ⟨_, rfl⟩
 rw [← hW0]
 have hA : W0.heap[w.heap.size]? = some (.cells #[.int .i64 (d + 1), .int .i64 g, .int .i64 l, .int .i64 m, .bool en, .bool true] 98 (0, 0)) := by rw [hW0]; exact (Below.heap_alloc _ _ _ (by simp; omega)).trans ((Below.heap_alloc _ _ _ (by simp)).trans (heap_alloc_new w _))
 have hB : W0.heap[w.heap.size + 1]? = some (.cells #[.int .u8 5, .slice A1 sn c1, .int .i64 mn, .int .i64 mx, .bool lz, .slice A2 un c2] 25 (0, 0)) := by
  have := heap_alloc_new (w.alloc (.cells #[.int .i64 (d + 1), .int .i64 g, .int .i64 l, .int .i64 m, .bool en, .bool true] 98)) (.cells #[.int .u8 5, .slice A1 sn c1, .int .i64 mn, .int .i64 mx, .bool lz, .slice A2 un c2] 25)
  rw [World.size_alloc] at this
  rw [hW0]
  exact (Below.heap_alloc _ _ _ (by simp)).trans this
 have HC : Hid (W0.heap[w.heap.size + 1 + 1]? = some (.cells #[.int .i64 0, .int .i64 0, .int .i64 0, .int .i64 0, .bool false, .bool false] 98 (0, 0))) := by rw [hW0]; exact alloc_new2 _ _ _ _
 have HK0 : Hid (Kept w W0) := by rw [hW0]; exact (((Below.refl _ w).alloc (Nat.le_refl _) _).alloc (by simp) _).alloc (by simp; omega) _
 have HA := Lib.hid hA
 have k0 : W0.cell? ⟨w.heap.size, 2, none⟩ = some (.int .i64 l) := by rw [cell_of_row _ _ _ _ _ _ hA]; rfl
 have k1 : W0.cell? ⟨w.heap.size, 3, none⟩ = some (.int .i64 m) := by rw [cell_of_row _ _ _ _ _ _ hA]; rfl
 have k2 : W0.cell? ⟨w.heap.size + 1, 2, none⟩ = some (.int .i64 mn) := by rw [cell_of_row _ _ _ _ _ _ hB]; rfl
 have k3 : W0.cell? ⟨w.heap.size + 1, 3, none⟩ = some (.int .i64 mx) := by rw [cell_of_row _ _ _ _ _ _ hB]; rfl
 have k4 : ∀ j, W0.frozen? ⟨w.heap.size, j, none⟩ = false := fun j => by simp [World.frozen?, show W0.heap[w.heap.size]? = _ from hA]
 obtain ⟨bA, hbA⟩ : ∃ b, b = w.heap.size := ⟨_, rfl⟩
 obtain ⟨bB, hbB⟩ : ∃ b, b = w.heap.size + 1 := ⟨_, rfl⟩
 obtain ⟨bC, hbC⟩ : ∃ b, b = w.heap.size + 1 + 1 := ⟨_, rfl⟩
 have hAC : bA ≠ bC := by omega
 have hAB : bA ≠ bB := by omega
 have hBlt : bB < W0.heap.size := by rw [hbB]; exact heap_lt hB
 have hwA : w.heap.size ≤ bA := by omega
 have hwC : w.heap.size ≤ bC := by omega
 rw [← hbC] at HC
 rw [← hbA] at HA k0 k1 k4
 rw [← hbB] at k2 k3
 rw [← hbC, ← hbB, ← hbA]
 clear hW0 hA hB hbA hbB hbC
 have hb0 := Below.refl W0.heap.size W0
 have hbB : bB < W0.heap.size := hBlt
 have HS : Hid (∀ x y, (((W0.setCell ⟨bA, 2, none⟩ x).setCell ⟨bA, 3, none⟩ y).cell? ⟨bB, 2, none⟩ = some (.int .i64 mn) ∧ ((W0.setCell ⟨bA, 2, none⟩ x).setCell ⟨bA, 3, none⟩ y).cell? ⟨bB, 3, none⟩ = some (.int .i64 mx)) ∧ w.heap.size ≤ ((W0.setCell ⟨bA, 2, none⟩ x).setCell ⟨bA, 3, none⟩ y).heap.size) := fun x y => ⟨⟨(cell_setCell_other _ _ _ _ (by exact hAB)).trans ((cell_setCell_other _ _ _ _ (by exact hAB)).trans k2), (cell_setCell_other _ _ _ _ (by exact hAB)).trans ((cell_setCell_other _ _ _ _ (by exact hAB)).trans k3)⟩, by simp; exact HK0.out.size⟩
 have HS1 : Hid (∀ x, ((W0.setCell ⟨bA, 2, none⟩ x).cell? ⟨bB, 2, none⟩ = some (.int .i64 mn) ∧ (W0.setCell ⟨bA, 2, none⟩ x).cell? ⟨bB, 3, none⟩ = some (.int .i64 mx)) ∧ w.heap.size ≤ (W0.setCell ⟨bA, 2, none⟩ x).heap.size) := fun x => ⟨⟨(cell_setCell_other _ _ _ _ (by exact hAB)).trans k2, (cell_setCell_other _ _ _ _ (by exact hAB)).trans k3⟩, by simp; exact HK0.out.size⟩
 refine wp_region_held_drew (S := (fun W => (W.cell? ⟨bB, 2, none⟩ = some (.int .i64 mn) ∧ W.cell? ⟨bB, 3, none⟩ = some (.int .i64 mx)) ∧ w.heap.size ≤ W.heap.size)) (by kernel_rfl) ?_ (fun hHeld => ?_)
 ·exact ⟨⟨k2, k3⟩, HK0.out.size⟩
 refine tkC 0 (oi := ⟨some 55, _, _, _, _, _⟩) (v := ?_) rfl (by kernel_rfl) (fun _ _ _ h => h) (by rfl) ?_ hHeld ?_
 rotate_left
 ·(intro w hSw; obtain ⟨⟨c0, c1⟩, hb⟩ := hSw; refine .inl ?_; go_simp; (try with_reducible rfl))
 try simp only [pU1, pU2, pU3, pU4]
 refine tkC 1 (oi := ⟨some 56, _, _, _, _, _⟩) (v := ?_) rfl (by kernel_rfl) (fun _ _ _ h => h) (by rfl) ?_ hHeld ?_
 rotate_left
 ·(intro w hSw; obtain ⟨⟨c0, c1⟩, hb⟩ := hSw; refine .inl ?_; go_simp; (try with_reducible rfl))
 try simp only [pU1, pU2, pU3, pU4]
 refine tkC 2 (oi := ⟨some 57, _, _, _, _, _⟩) (v := ?_) rfl (by kernel_rfl) (fun _ _ _ h => h) (by rfl) ?_ hHeld ?_
 rotate_left
 ·(intro w hSw; obtain ⟨⟨c0, c1⟩, hb⟩ := hSw; refine .inl ?_; go_simp; (try with_reducible rfl))
 try simp only [pU1, pU2, pU3, pU4]
 refine tkC 6 (oi := ⟨some 61, _, _, _, _, _⟩) (v := ?_) rfl (by kernel_rfl) (fun _ _ _ h => h) (by rfl) ?_ hHeld ?_
 rotate_left
 ·(intro w hSw; obtain ⟨⟨c0, c1⟩, hb⟩ := hSw; refine .inl ?_; go_simp; (try with_reducible rfl))
 try simp only [pU1, pU2, pU3, pU4]
 refine tkC 7 (oi := ⟨some 62, _, _, _, _, _⟩) (v := ?_) rfl (by kernel_rfl) (fun _ _ _ h => h) (by rfl) ?_ hHeld ?_
 rotate_left
 ·(intro w hSw; obtain ⟨⟨c0, c1⟩, hb⟩ := hSw; refine .inl ?_; go_simp; (try with_reducible rfl))
 try simp only [pU1, pU2, pU3, pU4]
 refine tkC 8 (oi := ⟨some 63, _, _, _, _, _⟩) (v := ?_) rfl (by kernel_rfl) (fun _ _ _ h => h) (by rfl) ?_ hHeld ?_
 rotate_left
 ·(intro w hSw; obtain ⟨⟨c0, c1⟩, hb⟩ := hSw; refine .inl ?_; go_simp; (try with_reducible rfl))
 try simp only [pU1, pU2, pU3, pU4]
 refine wpAnyH_ready (rs := [3, 9]) (by kernel_rfl) (by simp) ?_
 refine AllReadyH.cons (o := ⟨some 58, _, _, _, _, _⟩) rfl (fun K hK => ?_) (AllReadyH.cons (o := ⟨some 64, _, _, _, _, _⟩) rfl (fun K hK => ?_) (AllReadyH.nil))
 ·
  go_simp
  refine hK.out _ _ hHeld (fun hHeld => ?_)
  clear hK
  try simp only [pU1, pU2, pU3, pU4]
  refine tkC 4 (oi := ⟨some 59, _, _, _, _, _⟩) (v := ?_) rfl (by kernel_rfl) (fun _ _ _ h => h) (by rfl) ?_ hHeld ?_
  rotate_left
  ·(intro w hSw; obtain ⟨⟨c0, c1⟩, hb⟩ := hSw; refine .inl ?_; go_simp; (try with_reducible rfl))
  try simp only [pU1, pU2, pU3, pU4]
  refine tkC 5 (oi := ⟨some 60, _, _, _, _, _⟩) (v := ?_) rfl (by kernel_rfl) (fun _ _ _ h => h) (by rfl) ?_ hHeld ?_
  rotate_left
  ·intro w hSw
   apply enters
   ·go_simp
    exact ⟨rfl, rfl⟩
   ·exact CC.out _ _
  try simp only [pU1, pU2, pU3, pU4]
  refine wpAnyH_ready (rs := [9]) (by kernel_rfl) (by simp) ?_
  refine AllReadyH.cons (o := ⟨some 64, _, _, _, _, _⟩) rfl (fun K hK => ?_) (AllReadyH.nil)
  go_simp
  refine hK.out _ _ hHeld (fun hHeld => ?_)
  clear hK
  try simp only [pU1, pU2, pU3, pU4]
  refine tkC 10 (oi := ⟨some 65, _, _, _, _, _⟩) (v := ?_) rfl (by kernel_rfl) (fun _ _ _ h => h) (by rfl) ?_ hHeld ?_
  rotate_left
  ·(intro w hSw; obtain ⟨⟨c0, c1⟩, hb⟩ := hSw; refine .inl ?_; go_simp; (try with_reducible rfl))
  try simp only [pU1, pU2, pU3, pU4]
  refine tkC 11 (oi := ⟨some 66, _, _, _, _, _⟩) (v := ?_) rfl (by kernel_rfl) (fun _ _ _ h => h) (by rfl) ?_ hHeld ?_
  rotate_left
  ·intro w hSw
   apply enters
   ·go_simp
    exact ⟨rfl, rfl⟩
   ·exact CC.out _ _
  try simp only [pU1, pU2, pU3, pU4]
  refine tkC 12 (oi := ⟨some 67, _, _, _, _, _⟩) (v := ?_) rfl (by kernel_rfl) (fun _ _ _ h => h) (by rfl) ?_ hHeld ?_
  rotate_left
  ·(intro w hSw; obtain ⟨⟨c0, c1⟩, hb⟩ := hSw; refine .inl ?_; go_simp; (try with_reducible rfl))
  try simp only [pU1, pU2, pU3, pU4]
  refine wpAnyH_ready (rs := [13]) (by kernel_rfl) (by simp) ?_
  refine AllReadyH.cons (o := ⟨none, _, _, _, _, _⟩) rfl (fun K hK => ?_) (AllReadyH.nil)
  go_simp
  refine hK.out _ _ (HS1.out _) (fun hHeld => ?_)
  clear hK
  try simp only [pU1, pU2, pU3, pU4]
  refine tkC 14 (oi := ⟨some 68, _, _, _, _, _⟩) (v := ?_) rfl (by kernel_rfl) (fun _ _ _ h => h) (by rfl) ?_ hHeld ?_
  rotate_left
  ·(intro w hSw; obtain ⟨⟨c0, c1⟩, hb⟩ := hSw; refine .inl ?_; go_simp; (try with_reducible rfl))
  try simp only [pU1, pU2, pU3, pU4]
  refine wpAnyH_ready (rs := [15]) (by kernel_rfl) (by simp) ?_
  refine AllReadyH.cons (o := ⟨none, _, _, _, _, _⟩) rfl (fun K hK => ?_) (AllReadyH.nil)
  go_simp
  refine hK.out _ _ (HS.out _ _) (fun hHeld => ?_)
  clear hK
  try simp only [pU1, pU2, pU3, pU4]
  refine wpAnyH_done (by kernel_rfl) ?_ _
  have HE2 : Hid ((((W0.setCell ⟨bA, 2, none⟩ (.int .i64 (capI (IntKind.i64.wrap (mn * l))))).setCell ⟨bA, 3, none⟩ (.int .i64 (capI (IntKind.i64.wrap (mx * m))))).drew).heap[bA]? = some (.cells #[.int .i64 (d + 1), .int .i64 g, .int .i64 (capI (IntKind.i64.wrap (mn * l))), .int .i64 (capI (IntKind.i64.wrap (mx * m))), .bool en, .bool true] 98 (0, 0))) := heap_drew0 (heap_setCell_same _ _ 3 _ _ _ (heap_setCell_same _ _ 2 _ _ _ HA.out))
  have HX2 : Hid (Kept w (((W0.setCell ⟨bA, 2, none⟩ (.int .i64 (capI (IntKind.i64.wrap (mn * l))))).setCell ⟨bA, 3, none⟩ (.int .i64 (capI (IntKind.i64.wrap (mx * m))))).drew)) := Below.drew (Below.setCell (Below.setCell HK0.out hwA _) hwA _)
  have HC2 : Hid ((((W0.setCell ⟨bA, 2, none⟩ (.int .i64 (capI (IntKind.i64.wrap (mn * l))))).setCell ⟨bA, 3, none⟩ (.int .i64 (capI (IntKind.i64.wrap (mx * m))))).drew).heap[bC]? = some (.cells #[.int .i64 0, .int .i64 0, .int .i64 0, .int .i64 0, .bool false, .bool false] 98 (0, 0))) := heap_drew0 ((heap_set_out _ _ _ _ hAC).trans ((heap_set_out _ _ _ _ hAC).trans HC.out))
  obtain ⟨wy, hwy⟩ : ∃ x, x = ((W0.setCell ⟨bA, 2, none⟩ (.int .i64 (capI (IntKind.i64.wrap (mn * l))))).setCell ⟨bA, 3, none⟩ (.int .i64 (capI (IntKind.i64.wrap (mx * m))))).drew := ⟨_, rfl⟩
  rw [← hwy] at HE2 HX2 HC2 ⊢
  clear hwy hHeld k0 k1 k2 k3 k4 HS HS1 HA HC HK0
  go_wp2_with (first | ((refine wpList_load_row ?c0 98 (.tmp 2) ?c1 bA ?c2 98 #[.int .i64 (d + 1), .int .i64 g, .int .i64 (capI (IntKind.i64.wrap (mn * l))), .int .i64 (capI (IntKind.i64.wrap (mx * m))), .bool en, .bool true] (0, 0) _ HE2.out Tryz.underlying98 ?c3 sizeFc ?_); (case c0 => with_reducible rfl); (case c1 => with_reducible rfl); (case c2 => rfl); (case c3 => rfl)) | ((refine wpList_store_row ?c0 98 (.tmp 4) (.tmp 69) ?c1 bC #[.int .i64 (d + 1), .int .i64 g, .int .i64 (capI (IntKind.i64.wrap (mn * l))), .int .i64 (capI (IntKind.i64.wrap (mx * m))), .bool en, .bool true] ?c2 ?c3 _ _ HC2.out ?c4 ?c5 ?c6 ?_); (case c0 => with_reducible rfl); (case c1 => with_reducible rfl); (case c2 => rfl); (case c3 => rfl); (case c4 => exact sizeFc); (case c5 => rfl); (case c6 => simp [Value.oneCell'])))
  exact bodyPost_ret (results_cell_row Tryz.results71 _ _ bC _ #[.int .i64 (d + 1), .int .i64 g, .int .i64 (capI (IntKind.i64.wrap (mn * l))), .int .i64 (capI (IntKind.i64.wrap (mx * m))), .bool en, .bool true] (0, 0) _ rfl (setRow_heap _ _ _ _ _ _ HC2.out) Tryz.underlying98 rfl sizeFc) rfl ⟨rfl, below_setRow HX2.out hwC _⟩
 ·
  go_simp
  refine hK.out _ _ hHeld (fun hHeld => ?_)
  clear hK
  try simp only [pU1, pU2, pU3, pU4]
  refine tkC 10 (oi := ⟨some 65, _, _, _, _, _⟩) (v := ?_) rfl (by kernel_rfl) (fun _ _ _ h => h) (by rfl) ?_ hHeld ?_
  rotate_left
  ·(intro w hSw; obtain ⟨⟨c0, c1⟩, hb⟩ := hSw; refine .inl ?_; go_simp; (try with_reducible rfl))
  try simp only [pU1, pU2, pU3, pU4]
  refine wpAnyH_ready (rs := [3]) (by kernel_rfl) (by simp) ?_
  refine AllReadyH.cons (o := ⟨some 58, _, _, _, _, _⟩) rfl (fun K hK => ?_) (AllReadyH.nil)
  go_simp
  refine hK.out _ _ hHeld (fun hHeld => ?_)
  clear hK
  try simp only [pU1, pU2, pU3, pU4]
  refine tkC 4 (oi := ⟨some 59, _, _, _, _, _⟩) (v := ?_) rfl (by kernel_rfl) (fun _ _ _ h => h) (by rfl) ?_ hHeld ?_
  rotate_left
  ·(intro w hSw; obtain ⟨⟨c0, c1⟩, hb⟩ := hSw; refine .inl ?_; go_simp; (try with_reducible rfl))
  try simp only [pU1, pU2, pU3, pU4]
  refine tkC 5 (oi := ⟨some 60, _, _, _, _, _⟩) (v := ?_) rfl (by kernel_rfl) (fun _ _ _ h => h) (by rfl) ?_ hHeld ?_
  rotate_left
  ·intro w hSw
   apply enters
   ·go_simp
    exact ⟨rfl, rfl⟩
   ·exact CC.out _ _
  try simp only [pU1, pU2, pU3, pU4]
  refine tkC 11 (oi := ⟨some 66, _, _, _, _, _⟩) (v := ?_) rfl (by kernel_rfl) (fun _ _ _ h => h) (by rfl) ?_ hHeld ?_
  rotate_left
  ·intro w hSw
   apply enters
   ·go_simp
    exact ⟨rfl, rfl⟩
   ·exact CC.out _ _
  try simp only [pU1, pU2, pU3, pU4]
  refine tkC 12 (oi := ⟨some 67, _, _, _, _, _⟩) (v := ?_) rfl (by kernel_rfl) (fun _ _ _ h => h) (by rfl) ?_ hHeld ?_
  rotate_left
  ·(intro w hSw; obtain ⟨⟨c0, c1⟩, hb⟩ := hSw; refine .inl ?_; go_simp; (try with_reducible rfl))
  try simp only [pU1, pU2, pU3, pU4]
  refine wpAnyH_ready (rs := [13]) (by kernel_rfl) (by simp) ?_
  refine AllReadyH.cons (o := ⟨none, _, _, _, _, _⟩) rfl (fun K hK => ?_) (AllReadyH.nil)
  go_simp
  refine hK.out _ _ (HS1.out _) (fun hHeld => ?_)
  clear hK
  try simp only [pU1, pU2, pU3, pU4]
  refine tkC 14 (oi := ⟨some 68, _, _, _, _, _⟩) (v := ?_) rfl (by kernel_rfl) (fun _ _ _ h => h) (by rfl) ?_ hHeld ?_
  rotate_left
  ·(intro w hSw; obtain ⟨⟨c0, c1⟩, hb⟩ := hSw; refine .inl ?_; go_simp; (try with_reducible rfl))
  try simp only [pU1, pU2, pU3, pU4]
  refine wpAnyH_ready (rs := [15]) (by kernel_rfl) (by simp) ?_
  refine AllReadyH.cons (o := ⟨none, _, _, _, _, _⟩) rfl (fun K hK => ?_) (AllReadyH.nil)
  go_simp
  refine hK.out _ _ (HS.out _ _) (fun hHeld => ?_)
  clear hK
  try simp only [pU1, pU2, pU3, pU4]
  refine wpAnyH_done (by kernel_rfl) ?_ _
  have HE2 : Hid ((((W0.setCell ⟨bA, 2, none⟩ (.int .i64 (capI (IntKind.i64.wrap (mn * l))))).setCell ⟨bA, 3, none⟩ (.int .i64 (capI (IntKind.i64.wrap (mx * m))))).drew).heap[bA]? = some (.cells #[.int .i64 (d + 1), .int .i64 g, .int .i64 (capI (IntKind.i64.wrap (mn * l))), .int .i64 (capI (IntKind.i64.wrap (mx * m))), .bool en, .bool true] 98 (0, 0))) := heap_drew0 (heap_setCell_same _ _ 3 _ _ _ (heap_setCell_same _ _ 2 _ _ _ HA.out))
  have HX2 : Hid (Kept w (((W0.setCell ⟨bA, 2, none⟩ (.int .i64 (capI (IntKind.i64.wrap (mn * l))))).setCell ⟨bA, 3, none⟩ (.int .i64 (capI (IntKind.i64.wrap (mx * m))))).drew)) := Below.drew (Below.setCell (Below.setCell HK0.out hwA _) hwA _)
  have HC2 : Hid ((((W0.setCell ⟨bA, 2, none⟩ (.int .i64 (capI (IntKind.i64.wrap (mn * l))))).setCell ⟨bA, 3, none⟩ (.int .i64 (capI (IntKind.i64.wrap (mx * m))))).drew).heap[bC]? = some (.cells #[.int .i64 0, .int .i64 0, .int .i64 0, .int .i64 0, .bool false, .bool false] 98 (0, 0))) := heap_drew0 ((heap_set_out _ _ _ _ hAC).trans ((heap_set_out _ _ _ _ hAC).trans HC.out))
  obtain ⟨wy, hwy⟩ : ∃ x, x = ((W0.setCell ⟨bA, 2, none⟩ (.int .i64 (capI (IntKind.i64.wrap (mn * l))))).setCell ⟨bA, 3, none⟩ (.int .i64 (capI (IntKind.i64.wrap (mx * m))))).drew := ⟨_, rfl⟩
  rw [← hwy] at HE2 HX2 HC2 ⊢
  clear hwy hHeld k0 k1 k2 k3 k4 HS HS1 HA HC HK0
  go_wp2_with (first | ((refine wpList_load_row ?c0 98 (.tmp 2) ?c1 bA ?c2 98 #[.int .i64 (d + 1), .int .i64 g, .int .i64 (capI (IntKind.i64.wrap (mn * l))), .int .i64 (capI (IntKind.i64.wrap (mx * m))), .bool en, .bool true] (0, 0) _ HE2.out Tryz.underlying98 ?c3 sizeFc ?_); (case c0 => with_reducible rfl); (case c1 => with_reducible rfl); (case c2 => rfl); (case c3 => rfl)) | ((refine wpList_store_row ?c0 98 (.tmp 4) (.tmp 69) ?c1 bC #[.int .i64 (d + 1), .int .i64 g, .int .i64 (capI (IntKind.i64.wrap (mn * l))), .int .i64 (capI (IntKind.i64.wrap (mx * m))), .bool en, .bool true] ?c2 ?c3 _ _ HC2.out ?c4 ?c5 ?c6 ?_); (case c0 => with_reducible rfl); (case c1 => with_reducible rfl); (case c2 => rfl); (case c3 => rfl); (case c4 => exact sizeFc); (case c5 => rfl); (case c6 => simp [Value.oneCell'])))
  exact bodyPost_ret (results_cell_row Tryz.results71 _ _ bC _ #[.int .i64 (d + 1), .int .i64 g, .int .i64 (capI (IntKind.i64.wrap (mn * l))), .int .i64 (capI (IntKind.i64.wrap (mx * m))), .bool en, .bool true] (0, 0) _ rfl (setRow_heap _ _ _ _ _ _ HC2.out) Tryz.underlying98 rfl sizeFc) rfl ⟨rfl, below_setRow HX2.out hwC _⟩
set_option maxRecDepth 20000 in
set_option maxHeartbeats 2000000 in
theorem rep_c3 (hd : 0 ≤ d ∧ d ≤ 1000000) (hl0 : l = 0) (hx : mx ≠ -1) (hx2 : 0 < mx) (hx3 : ¬ 1 < mx) : Calls Tryz.prog 71 #[fctV ⟨d, g, l, m, en, false⟩, ndV 5 A1 sn c1 mn mx lz A2 un c2] w fun e w' => e = .returned (.agg #[.int .i64 (d + 1), .int .i64 g, .int .i64 (capI (IntKind.i64.wrap (mn * l))), .int .i64 (capI (IntKind.i64.wrap (mx * m))), .bool en, .bool false]) ∧ Kept w w' := by
 obtain ⟨hd1, hd2⟩ := hd
 have l1 : (l == 0) = true := by simp [hl0]
 clear hl0
 have x1 : (mx == -1) = false := by simp [hx]
 clear hx
 have CC := Lib.hid capped_any
 unfold fctV
 dsimp only
 go_enter Tryz.func71, Tryz.ntmps71
 go_upto_region 10 with fail
 obtain ⟨W0, hW0⟩ : ∃ x, x = ((w.alloc (.cells #[.int .i64 (d + 1), .int .i64 g, .int .i64 l, .int .i64 m, .bool en, .bool false] 98)).alloc (.cells #[.int .u8 5, .slice A1 sn c1, .int .i64 mn, .int .i64 mx, .bool lz, .slice A2 un c2] 25)).alloc (.cells #[.int .i64 0, .int .i64 0, .int .i64 0, .int .i64 0, .bool false, .bool false] 98) := ⟨_, rfl⟩
 rw [← hW0]
 have hA : W0.heap[w.heap.size]? = some (.cells #[.int .i64 (d + 1), .int .i64 g, .int .i64 l, .int .i64 m, .bool en, .bool false] 98 (0, 0)) := by rw [hW0]; exact (Below.heap_alloc _ _ _ (by simp; omega)).trans ((Below.heap_alloc _ _ _ (by simp)).trans (heap_alloc_new w _))
 have hB : W0.heap[w.heap.size + 1]? = some (.cells #[.int .u8 5, .slice A1 sn c1, .int .i64 mn, .int .i64 mx, .bool lz, .slice A2 un c2] 25 (0, 0)) := by
  have := heap_alloc_new (w.alloc (.cells #[.int .i64 (d + 1), .int .i64 g, .int .i64 l, .int .i64 m, .bool en, .bool false] 98)) (.cells #[.int .u8 5, .slice A1 sn c1, .int .i64 mn, .int .i64 mx, .bool lz, .slice A2 un c2] 25)
  rw [World.size_alloc] at this
  rw [hW0]
  exact (Below.heap_alloc _ _ _ (by simp)).trans this
 have HC : Hid (W0.heap[w.heap.size + 1 + 1]? = some (.cells #[.int .i64 0, .int .i64 0, .int .i64 0, .int .i64 0, .bool false, .bool false] 98 (0, 0))) := by rw [hW0]; exact alloc_new2 _ _ _ _
 have HK0 : Hid (Kept w W0) := by rw [hW0]; exact (((Below.refl _ w).alloc (Nat.le_refl _) _).alloc (by simp) _).alloc (by simp; omega) _
 have HA := Lib.hid hA
 have k0 : W0.cell? ⟨w.heap.size, 2, none⟩ = some (.int .i64 l) := by rw [cell_of_row _ _ _ _ _ _ hA]; rfl
 have k1 : W0.cell? ⟨w.heap.size, 3, none⟩ = some (.int .i64 m) := by rw [cell_of_row _ _ _ _ _ _ hA]; rfl
 have k2 : W0.cell? ⟨w.heap.size + 1, 2, none⟩ = some (.int .i64 mn) := by rw [cell_of_row _ _ _ _ _ _ hB]; rfl
 have k3 : W0.cell? ⟨w.heap.size + 1, 3, none⟩ = some (.int .i64 mx) := by rw [cell_of_row _ _ _ _ _ _ hB]; rfl
 have k4 : ∀ j, W0.frozen? ⟨w.heap.size, j, none⟩ = false := fun j => by simp [World.frozen?, show W0.heap[w.heap.size]? = _ from hA]
 obtain ⟨bA, hbA⟩ : ∃ b, b = w.heap.size := ⟨_, rfl⟩
 obtain ⟨bB, hbB⟩ : ∃ b, b = w.heap.size + 1 := ⟨_, rfl⟩
 obtain ⟨bC, hbC⟩ : ∃ b, b = w.heap.size + 1 + 1 := ⟨_, rfl⟩
 have hAC : bA ≠ bC := by omega
 have hAB : bA ≠ bB := by omega
 have hBlt : bB < W0.heap.size := by rw [hbB]; exact heap_lt hB
 have hwA : w.heap.size ≤ bA := by omega
 have hwC : w.heap.size ≤ bC := by omega
 rw [← hbC] at HC
 rw [← hbA] at HA k0 k1 k4
 rw [← hbB] at k2 k3
 rw [← hbC, ← hbB, ← hbA]
 clear hW0 hA hB hbA hbB hbC
 have hb0 := Below.refl W0.heap.size W0
 have hbB : bB < W0.heap.size := hBlt
 have HS : Hid (∀ x y, (((W0.setCell ⟨bA, 2, none⟩ x).setCell ⟨bA, 3, none⟩ y).cell? ⟨bB, 2, none⟩ = some (.int .i64 mn) ∧ ((W0.setCell ⟨bA, 2, none⟩ x).setCell ⟨bA, 3, none⟩ y).cell? ⟨bB, 3, none⟩ = some (.int .i64 mx)) ∧ w.heap.size ≤ ((W0.setCell ⟨bA, 2, none⟩ x).setCell ⟨bA, 3, none⟩ y).heap.size) := fun x y => ⟨⟨(cell_setCell_other _ _ _ _ (by exact hAB)).trans ((cell_setCell_other _ _ _ _ (by exact hAB)).trans k2), (cell_setCell_other _ _ _ _ (by exact hAB)).trans ((cell_setCell_other _ _ _ _ (by exact hAB)).trans k3)⟩, by simp; exact HK0.out.size⟩
 have HS1 : Hid (∀ x, ((W0.setCell ⟨bA, 2, none⟩ x).cell? ⟨bB, 2, none⟩ = some (.int .i64 mn) ∧ (W0.setCell ⟨bA, 2, none⟩ x).cell? ⟨bB, 3, none⟩ = some (.int .i64 mx)) ∧ w.heap.size ≤ (W0.setCell ⟨bA, 2, none⟩ x).heap.size) := fun x => ⟨⟨(cell_setCell_other _ _ _ _ (by exact hAB)).trans k2, (cell_setCell_other _ _ _ _ (by exact hAB)).trans k3⟩, by simp; exact HK0.out.size⟩
 refine wp_region_held_drew (S := (fun W => (W.cell? ⟨bB, 2, none⟩ = some (.int .i64 mn) ∧ W.cell? ⟨bB, 3, none⟩ = some (.int .i64 mx)) ∧ w.heap.size ≤ W.heap.size)) (by kernel_rfl) ?_ (fun hHeld => ?_)
 ·exact ⟨⟨k2, k3⟩, HK0.out.size⟩
 refine tkC 0 (oi := ⟨some 55, _, _, _, _, _⟩) (v := ?_) rfl (by kernel_rfl) (fun _ _ _ h => h) (by rfl) ?_ hHeld ?_
 rotate_left
 ·(intro w hSw; obtain ⟨⟨c0, c1⟩, hb⟩ := hSw; refine .inl ?_; go_simp; (try with_reducible rfl))
 try simp only [pU1, pU2, pU3, pU4]
 refine tkC 1 (oi := ⟨some 56, _, _, _, _, _⟩) (v := ?_) rfl (by kernel_rfl) (fun _ _ _ h => h) (by rfl) ?_ hHeld ?_
 rotate_left
 ·(intro w hSw; obtain ⟨⟨c0, c1⟩, hb⟩ := hSw; refine .inl ?_; go_simp; (try with_reducible rfl))
 try simp only [pU1, pU2, pU3, pU4]
 refine tkC 2 (oi := ⟨some 57, _, _, _, _, _⟩) (v := ?_) rfl (by kernel_rfl) (fun _ _ _ h => h) (by rfl) ?_ hHeld ?_
 rotate_left
 ·(intro w hSw; obtain ⟨⟨c0, c1⟩, hb⟩ := hSw; refine .inl ?_; go_simp; (try with_reducible rfl))
 try simp only [pU1, pU2, pU3, pU4]
 refine tkC 6 (oi := ⟨some 61, _, _, _, _, _⟩) (v := ?_) rfl (by kernel_rfl) (fun _ _ _ h => h) (by rfl) ?_ hHeld ?_
 rotate_left
 ·(intro w hSw; obtain ⟨⟨c0, c1⟩, hb⟩ := hSw; refine .inl ?_; go_simp; (try with_reducible rfl))
 try simp only [pU1, pU2, pU3, pU4]
 refine tkC 7 (oi := ⟨some 62, _, _, _, _, _⟩) (v := ?_) rfl (by kernel_rfl) (fun _ _ _ h => h) (by rfl) ?_ hHeld ?_
 rotate_left
 ·(intro w hSw; obtain ⟨⟨c0, c1⟩, hb⟩ := hSw; refine .inl ?_; go_simp; (try with_reducible rfl))
 try simp only [pU1, pU2, pU3, pU4]
 refine tkC 8 (oi := ⟨some 63, _, _, _, _, _⟩) (v := ?_) rfl (by kernel_rfl) (fun _ _ _ h => h) (by rfl) ?_ hHeld ?_
 rotate_left
 ·(intro w hSw; obtain ⟨⟨c0, c1⟩, hb⟩ := hSw; refine .inl ?_; go_simp; (try with_reducible rfl))
 try simp only [pU1, pU2, pU3, pU4]
 refine wpAnyH_ready (rs := [3, 9]) (by kernel_rfl) (by simp) ?_
 refine AllReadyH.cons (o := ⟨some 58, _, _, _, _, _⟩) rfl (fun K hK => ?_) (AllReadyH.cons (o := ⟨some 64, _, _, _, _, _⟩) rfl (fun K hK => ?_) (AllReadyH.nil))
 ·
  go_simp
  refine hK.out _ _ hHeld (fun hHeld => ?_)
  clear hK
  try simp only [pU1, pU2, pU3, pU4]
  refine tkC 4 (oi := ⟨some 59, _, _, _, _, _⟩) (v := ?_) rfl (by kernel_rfl) (fun _ _ _ h => h) (by rfl) ?_ hHeld ?_
  rotate_left
  ·(intro w hSw; obtain ⟨⟨c0, c1⟩, hb⟩ := hSw; refine .inl ?_; go_simp; (try with_reducible rfl))
  try simp only [pU1, pU2, pU3, pU4]
  refine tkC 5 (oi := ⟨some 60, _, _, _, _, _⟩) (v := ?_) rfl (by kernel_rfl) (fun _ _ _ h => h) (by rfl) ?_ hHeld ?_
  rotate_left
  ·intro w hSw
   apply enters
   ·go_simp
    exact ⟨rfl, rfl⟩
   ·exact CC.out _ _
  try simp only [pU1, pU2, pU3, pU4]
  refine wpAnyH_ready (rs := [9]) (by kernel_rfl) (by simp) ?_
  refine AllReadyH.cons (o := ⟨some 64, _, _, _, _, _⟩) rfl (fun K hK => ?_) (AllReadyH.nil)
  go_simp
  refine hK.out _ _ hHeld (fun hHeld => ?_)
  clear hK
  try simp only [pU1, pU2, pU3, pU4]
  refine tkC 10 (oi := ⟨some 65, _, _, _, _, _⟩) (v := ?_) rfl (by kernel_rfl) (fun _ _ _ h => h) (by rfl) ?_ hHeld ?_
  rotate_left
  ·(intro w hSw; obtain ⟨⟨c0, c1⟩, hb⟩ := hSw; refine .inl ?_; go_simp; (try with_reducible rfl))
  try simp only [pU1, pU2, pU3, pU4]
  refine tkC 11 (oi := ⟨some 66, _, _, _, _, _⟩) (v := ?_) rfl (by kernel_rfl) (fun _ _ _ h => h) (by rfl) ?_ hHeld ?_
  rotate_left
  ·intro w hSw
   apply enters
   ·go_simp
    exact ⟨rfl, rfl⟩
   ·exact CC.out _ _
  try simp only [pU1, pU2, pU3, pU4]
  refine tkC 12 (oi := ⟨some 67, _, _, _, _, _⟩) (v := ?_) rfl (by kernel_rfl) (fun _ _ _ h => h) (by rfl) ?_ hHeld ?_
  rotate_left
  ·(intro w hSw; obtain ⟨⟨c0, c1⟩, hb⟩ := hSw; refine .inl ?_; go_simp; (try with_reducible rfl))
  try simp only [pU1, pU2, pU3, pU4]
  refine wpAnyH_ready (rs := [13]) (by kernel_rfl) (by simp) ?_
  refine AllReadyH.cons (o := ⟨none, _, _, _, _, _⟩) rfl (fun K hK => ?_) (AllReadyH.nil)
  go_simp
  refine hK.out _ _ (HS1.out _) (fun hHeld => ?_)
  clear hK
  try simp only [pU1, pU2, pU3, pU4]
  refine tkC 14 (oi := ⟨some 68, _, _, _, _, _⟩) (v := ?_) rfl (by kernel_rfl) (fun _ _ _ h => h) (by rfl) ?_ hHeld ?_
  rotate_left
  ·(intro w hSw; obtain ⟨⟨c0, c1⟩, hb⟩ := hSw; refine .inl ?_; go_simp; (try with_reducible rfl))
  try simp only [pU1, pU2, pU3, pU4]
  refine wpAnyH_ready (rs := [15]) (by kernel_rfl) (by simp) ?_
  refine AllReadyH.cons (o := ⟨none, _, _, _, _, _⟩) rfl (fun K hK => ?_) (AllReadyH.nil)
  go_simp
  refine hK.out _ _ (HS.out _ _) (fun hHeld => ?_)
  clear hK
  try simp only [pU1, pU2, pU3, pU4]
  refine wpAnyH_done (by kernel_rfl) ?_ _
  have HE2 : Hid ((((W0.setCell ⟨bA, 2, none⟩ (.int .i64 (capI (IntKind.i64.wrap (mn * l))))).setCell ⟨bA, 3, none⟩ (.int .i64 (capI (IntKind.i64.wrap (mx * m))))).drew).heap[bA]? = some (.cells #[.int .i64 (d + 1), .int .i64 g, .int .i64 (capI (IntKind.i64.wrap (mn * l))), .int .i64 (capI (IntKind.i64.wrap (mx * m))), .bool en, .bool false] 98 (0, 0))) := heap_drew0 (heap_setCell_same _ _ 3 _ _ _ (heap_setCell_same _ _ 2 _ _ _ HA.out))
  have HX2 : Hid (Kept w (((W0.setCell ⟨bA, 2, none⟩ (.int .i64 (capI (IntKind.i64.wrap (mn * l))))).setCell ⟨bA, 3, none⟩ (.int .i64 (capI (IntKind.i64.wrap (mx * m))))).drew)) := Below.drew (Below.setCell (Below.setCell HK0.out hwA _) hwA _)
  have HC2 : Hid ((((W0.setCell ⟨bA, 2, none⟩ (.int .i64 (capI (IntKind.i64.wrap (mn * l))))).setCell ⟨bA, 3, none⟩ (.int .i64 (capI (IntKind.i64.wrap (mx * m))))).drew).heap[bC]? = some (.cells #[.int .i64 0, .int .i64 0, .int .i64 0, .int .i64 0, .bool false, .bool false] 98 (0, 0))) := heap_drew0 ((heap_set_out _ _ _ _ hAC).trans ((heap_set_out _ _ _ _ hAC).trans HC.out))
  obtain ⟨wy, hwy⟩ : ∃ x, x = ((W0.setCell ⟨bA, 2, none⟩ (.int .i64 (capI (IntKind.i64.wrap (mn * l))))).setCell ⟨bA, 3, none⟩ (.int .i64 (capI (IntKind.i64.wrap (mx * m))))).drew := ⟨_, rfl⟩
  rw [← hwy] at HE2 HX2 HC2 ⊢
  clear hwy hHeld k0 k1 k2 k3 k4 HS HS1 HA HC HK0
  go_wp2_with (first | ((refine wpList_load_row ?c0 98 (.tmp 2) ?c1 bA ?c2 98 #[.int .i64 (d + 1), .int .i64 g, .int .i64 (capI (IntKind.i64.wrap (mn * l))), .int .i64 (capI (IntKind.i64.wrap (mx * m))), .bool en, .bool false] (0, 0) _ HE2.out Tryz.underlying98 ?c3 sizeFc ?_); (case c0 => with_reducible rfl); (case c1 => with_reducible rfl); (case c2 => rfl); (case c3 => rfl)) | ((refine wpList_store_row ?c0 98 (.tmp 4) (.tmp 69) ?c1 bC #[.int .i64 (d + 1), .int .i64 g, .int .i64 (capI (IntKind.i64.wrap (mn * l))), .int .i64 (capI (IntKind.i64.wrap (mx * m))), .bool en, .bool false] ?c2 ?c3 _ _ HC2.out ?c4 ?c5 ?c6 ?_); (case c0 => with_reducible rfl); (case c1 => with_reducible rfl); (case c2 => rfl); (case c3 => rfl); (case c4 => exact sizeFc); (case c5 => rfl); (case c6 => simp [Value.oneCell'])))
  exact bodyPost_ret (results_cell_row Tryz.results71 _ _ bC _ #[.int .i64 (d + 1), .int .i64 g, .int .i64 (capI (IntKind.i64.wrap (mn * l))), .int .i64 (capI (IntKind.i64.wrap (mx * m))), .bool en, .bool false] (0, 0) _ rfl (setRow_heap _ _ _ _ _ _ HC2.out) Tryz.underlying98 rfl sizeFc) rfl ⟨rfl, below_setRow HX2.out hwC _⟩
 ·
  go_simp
  refine hK.out _ _ hHeld (fun hHeld => ?_)
  clear hK
  try simp only [pU1, pU2, pU3, pU4]
  refine tkC 10 (oi := ⟨some 65, _, _, _, _, _⟩) (v := ?_) rfl (by kernel_rfl) (fun _ _ _ h => h) (by rfl) ?_ hHeld ?_
  rotate_left
  ·(intro w hSw; obtain ⟨⟨c0, c1⟩, hb⟩ := hSw; refine .inl ?_; go_simp; (try with_reducible rfl))
  try simp only [pU1, pU2, pU3, pU4]
  refine wpAnyH_ready (rs := [3]) (by kernel_rfl) (by simp) ?_
  refine AllReadyH.cons (o := ⟨some 58, _, _, _, _, _⟩) rfl (fun K hK => ?_) (AllReadyH.nil)
  go_simp
  refine hK.out _ _ hHeld (fun hHeld => ?_)
  clear hK
  try simp only [pU1, pU2, pU3, pU4]
  refine tkC 4 (oi := ⟨some 59, _, _, _, _, _⟩) (v := ?_) rfl (by kernel_rfl) (fun _ _ _ h => h) (by rfl) ?_ hHeld ?_
  rotate_left
  ·(intro w hSw; obtain ⟨⟨c0, c1⟩, hb⟩ := hSw; refine .inl ?_; go_simp; (try with_reducible rfl))
  try simp only [pU1, pU2, pU3, pU4]
  refine tkC 5 (oi := ⟨some 60, _, _, _, _, _⟩) (v := ?_) rfl (by kernel_rfl) (fun _ _ _ h => h) (by rfl) ?_ hHeld ?_
  rotate_left
  ·intro w hSw
   apply enters
   ·go_simp
    exact ⟨rfl, rfl⟩
   ·exact CC.out _ _
  try simp only [pU1, pU2, pU3, pU4]
  refine tkC 11 (oi := ⟨some 66, _, _, _, _, _⟩) (v := ?_) rfl (by kernel_rfl) (fun _ _ _ h => h) (by rfl) ?_ hHeld ?_
  rotate_left
  ·intro w hSw
   apply enters
   ·go_simp
    exact ⟨rfl, rfl⟩
   ·exact CC.out _ _
  try simp only [pU1, pU2, pU3, pU4]
  refine tkC 12 (oi := ⟨some 67, _, _, _, _, _⟩) (v := ?_) rfl (by kernel_rfl) (fun _ _ _ h => h) (by rfl) ?_ hHeld ?_
  rotate_left
  ·(intro w hSw; obtain ⟨⟨c0, c1⟩, hb⟩ := hSw; refine .inl ?_; go_simp; (try with_reducible rfl))
  try simp only [pU1, pU2, pU3, pU4]
  refine wpAnyH_ready (rs := [13]) (by kernel_rfl) (by simp) ?_
  refine AllReadyH.cons (o := ⟨none, _, _, _, _, _⟩) rfl (fun K hK => ?_) (AllReadyH.nil)
  go_simp
  refine hK.out _ _ (HS1.out _) (fun hHeld => ?_)
  clear hK
  try simp only [pU1, pU2, pU3, pU4]
  refine tkC 14 (oi := ⟨some 68, _, _, _, _, _⟩) (v := ?_) rfl (by kernel_rfl) (fun _ _ _ h => h) (by rfl) ?_ hHeld ?_
  rotate_left
  ·(intro w hSw; obtain ⟨⟨c0, c1⟩, hb⟩ := hSw; refine .inl ?_; go_simp; (try with_reducible rfl))
  try simp only [pU1, pU2, pU3, pU4]
  refine wpAnyH_ready (rs := [15]) (by kernel_rfl) (by simp) ?_
  refine AllReadyH.cons (o := ⟨none, _, _, _, _, _⟩) rfl (fun K hK => ?_) (AllReadyH.nil)
  go_simp
  refine hK.out _ _ (HS.out _ _) (fun hHeld => ?_)
  clear hK
  try simp only [pU1, pU2, pU3, pU4]
  refine wpAnyH_done (by kernel_rfl) ?_ _
  have HE2 : Hid ((((W0.setCell ⟨bA, 2, none⟩ (.int .i64 (capI (IntKind.i64.wrap (mn * l))))).setCell ⟨bA, 3, none⟩ (.int .i64 (capI (IntKind.i64.wrap (mx * m))))).drew).heap[bA]? = some (.cells #[.int .i64 (d + 1), .int .i64 g, .int .i64 (capI (IntKind.i64.wrap (mn * l))), .int .i64 (capI (IntKind.i64.wrap (mx * m))), .bool en, .bool false] 98 (0, 0))) := heap_drew0 (heap_setCell_same _ _ 3 _ _ _ (heap_setCell_same _ _ 2 _ _ _ HA.out))
  have HX2 : Hid (Kept w (((W0.setCell ⟨bA, 2, none⟩ (.int .i64 (capI (IntKind.i64.wrap (mn * l))))).setCell ⟨bA, 3, none⟩ (.int .i64 (capI (IntKind.i64.wrap (mx * m))))).drew)) := Below.drew (Below.setCell (Below.setCell HK0.out hwA _) hwA _)
  have HC2 : Hid ((((W0.setCell ⟨bA, 2, none⟩ (.int .i64 (capI (IntKind.i64.wrap (mn * l))))).setCell ⟨bA, 3, none⟩ (.int .i64 (capI (IntKind.i64.wrap (mx * m))))).drew).heap[bC]? = some (.cells #[.int .i64 0, .int .i64 0, .int .i64 0, .int .i64 0, .bool false, .bool false] 98 (0, 0))) := heap_drew0 ((heap_set_out _ _ _ _ hAC).trans ((heap_set_out _ _ _ _ hAC).trans HC.out))
  obtain ⟨wy, hwy⟩ : ∃ x, x = ((W0.setCell ⟨bA, 2, none⟩ (.int .i64 (capI (IntKind.i64.wrap (mn * l))))).setCell ⟨bA, 3, none⟩ (.int .i64 (capI (IntKind.i64.wrap (mx * m))))).drew := ⟨_, rfl⟩
  rw [← hwy] at HE2 HX2 HC2 ⊢
  clear hwy hHeld k0 k1 k2 k3 k4 HS HS1 HA HC HK0
  go_wp2_with (first | ((refine wpList_load_row ?c0 98 (.tmp 2) ?c1 bA ?c2 98 #[.int .i64 (d + 1), .int .i64 g, .int .i64 (capI (IntKind.i64.wrap (mn * l))), .int .i64 (capI (IntKind.i64.wrap (mx * m))), .bool en, .bool false] (0, 0) _ HE2.out Tryz.underlying98 ?c3 sizeFc ?_); (case c0 => with_reducible rfl); (case c1 => with_reducible rfl); (case c2 => rfl); (case c3 => rfl)) | ((refine wpList_store_row ?c0 98 (.tmp 4) (.tmp 69) ?c1 bC #[.int .i64 (d + 1), .int .i64 g, .int .i64 (capI (IntKind.i64.wrap (mn * l))), .int .i64 (capI (IntKind.i64.wrap (mx * m))), .bool en, .bool false] ?c2 ?c3 _ _ HC2.out ?c4 ?c5 ?c6 ?_); (case c0 => with_reducible rfl); (case c1 => with_reducible rfl); (case c2 => rfl); (case c3 => rfl); (case c4 => exact sizeFc); (case c5 => rfl); (case c6 => simp [Value.oneCell'])))
  exact bodyPost_ret (results_cell_row Tryz.results71 _ _ bC _ #[.int .i64 (d + 1), .int .i64 g, .int .i64 (capI (IntKind.i64.wrap (mn * l))), .int .i64 (capI (IntKind.i64.wrap (mx * m))), .bool en, .bool false] (0, 0) _ rfl (setRow_heap _ _ _ _ _ _ HC2.out) Tryz.underlying98 rfl sizeFc) rfl ⟨rfl, below_setRow HX2.out hwC _⟩
set_option maxRecDepth 20000 in
set_option maxHeartbeats 2000000 in
theorem rep_c4 (hd : 0 ≤ d ∧ d ≤ 1000000) (hl0 : l = 0) (hx : mx ≠ -1) (hx2 : ¬ 0 < mx) : Calls Tryz.prog 71 #[fctV ⟨d, g, l, m, en, false⟩, ndV 5 A1 sn c1 mn mx lz A2 un c2] w fun e w' => e = .returned (.agg #[.int .i64 (d + 1), .int .i64 g, .int .i64 (capI (IntKind.i64.wrap (mn * l))), .int .i64 (capI (IntKind.i64.wrap (mx * m))), .bool false, .bool false]) ∧ Kept w w' := by
 obtain ⟨hd1, hd2⟩ := hd
 have l1 : (l == 0) = true := by simp [hl0]
 clear hl0
 have x1 : (mx == -1) = false := by simp [hx]
 have x3 : ¬ 1 < mx := by omega
 clear hx
 have CC := Lib.hid capped_any
 unfold fctV
 dsimp only
 go_enter Tryz.func71, Tryz.ntmps71
 go_upto_region 10 with fail
 obtain ⟨W0, hW0⟩ : ∃ x, x = ((w.alloc (.cells #[.int .i64 (d + 1), .int .i64 g, .int .i64 l, .int .i64 m, .bool false, .bool false] 98)).alloc (.cells #[.int .u8 5, .slice A1 sn c1, .int .i64 mn, .int .i64 mx, .bool lz, .slice A2 un c2] 25)).alloc (.cells #[.int .i64 0, .int .i64 0, .int .i64 0, .int .i64 0, .bool false, .bool false] 98) := ⟨_, rfl⟩
 rw [← hW0]
 have hA : W0.heap[w.heap.size]? = some (.cells #[.int .i64 (d + 1), .int .i64 g, .int .i64 l, .int .i64 m, .bool false, .bool false] 98 (0, 0)) := by rw [hW0]; exact (Below.heap_alloc _ _ _ (by simp; omega)).trans ((Below.heap_alloc _ _ _ (by simp)).trans (heap_alloc_new w _))
 have hB : W0.heap[w.heap.size + 1]? = some (.cells #[.int .u8 5, .slice A1 sn c1, .int .i64 mn, .int .i64 mx, .bool lz, .slice A2 un c2] 25 (0, 0)) := by
  have := heap_alloc_new (w.alloc (.cells #[.int .i64 (d + 1), .int .i64 g, .int .i64 l, .int .i64 m, .bool false, .bool false] 98)) (.cells #[.int .u8 5, .slice A1 sn c1, .int .i64 mn, .int .i64 mx, .bool lz, .slice A2 un c2] 25)
  rw [World.size_alloc] at this
  rw [hW0]
  exact (Below.heap_alloc _ _ _ (by simp)).trans this
 have HC : Hid (W0.heap[w.heap.size + 1 + 1]? = some (.cells #[.int .i64 0, .int .i64 0, .int .i64 0, .int .i64 0, .bool false, .bool false] 98 (0, 0))) := by rw [hW0]; exact alloc_new2 _ _ _ _
 have HK0 : Hid (Kept w W0) := by rw [hW0]; exact (((Below.refl _ w).alloc (Nat.le_refl _) _).alloc (by simp) _).alloc (by simp; omega) _
 have HA := Lib.hid hA
 have k0 : W0.cell? ⟨w.heap.size, 2, none⟩ = some (.int .i64 l) := by rw [cell_of_row _ _ _ _ _ _ hA]; rfl
 have k1 : W0.cell? ⟨w.heap.size, 3, none⟩ = some (.int .i64 m) := by rw [cell_of_row _ _ _ _ _ _ hA]; rfl
 have k2 : W0.cell? ⟨w.heap.size + 1, 2, none⟩ = some (.int .i64 mn) := by rw [cell_of_row _ _ _ _ _ _ hB]; rfl
 have k3 : W0.cell? ⟨w.heap.size + 1, 3, none⟩ = some (.int .i64 mx) := by rw [cell_of_row _ _ _ _ _ _ hB]; rfl
 have k4 : ∀ j, W0.frozen? ⟨w.heap.size, j, none⟩ = false := fun j => by simp [World.frozen?, show W0.heap[w.heap.size]? = _ from hA]
 obtain ⟨bA, hbA⟩ : ∃ b, b = w.heap.size := ⟨_, rfl⟩
 obtain ⟨bB, hbB⟩ : ∃ b, b = w.heap.size + 1 := ⟨_, rfl⟩
 obtain ⟨bC, hbC⟩ : ∃ b, b = w.heap.size + 1 + 1 := ⟨_, rfl⟩
 have hAC : bA ≠ bC := by omega
 have hAB : bA ≠ bB := by omega
 have hBlt : bB < W0.heap.size := by rw [hbB]; exact heap_lt hB
 have hwA : w.heap.size ≤ bA := by omega
 have hwC : w.heap.size ≤ bC := by omega
 rw [← hbC] at HC
 rw [← hbA] at HA k0 k1 k4
 rw [← hbB] at k2 k3
 rw [← hbC, ← hbB, ← hbA]
 clear hW0 hA hB hbA hbB hbC
 have hb0 := Below.refl W0.heap.size W0
 have hbB : bB < W0.heap.size := hBlt
 have HS : Hid (∀ x y, (((W0.setCell ⟨bA, 2, none⟩ x).setCell ⟨bA, 3, none⟩ y).cell? ⟨bB, 2, none⟩ = some (.int .i64 mn) ∧ ((W0.setCell ⟨bA, 2, none⟩ x).setCell ⟨bA, 3, none⟩ y).cell? ⟨bB, 3, none⟩ = some (.int .i64 mx)) ∧ w.heap.size ≤ ((W0.setCell ⟨bA, 2, none⟩ x).setCell ⟨bA, 3, none⟩ y).heap.size) := fun x y => ⟨⟨(cell_setCell_other _ _ _ _ (by exact hAB)).trans ((cell_setCell_other _ _ _ _ (by exact hAB)).trans k2), (cell_setCell_other _ _ _ _ (by exact hAB)).trans ((cell_setCell_other _ _ _ _ (by exact hAB)).trans k3)⟩, by simp; exact HK0.out.size⟩
 have HS1 : Hid (∀ x, ((W0.setCell ⟨bA, 2, none⟩ x).cell? ⟨bB, 2, none⟩ = some (.int .i64 mn) ∧ (W0.setCell ⟨bA, 2, none⟩ x).cell? ⟨bB, 3, none⟩ = some (.int .i64 mx)) ∧ w.heap.size ≤ (W0.setCell ⟨bA, 2, none⟩ x).heap.size) := fun x => ⟨⟨(cell_setCell_other _ _ _ _ (by exact hAB)).trans k2, (cell_setCell_other _ _ _ _ (by exact hAB)).trans k3⟩, by simp; exact HK0.out.size⟩
 refine wp_region_held_drew (S := (fun W => (W.cell? ⟨bB, 2, none⟩ = some (.int .i64 mn) ∧ W.cell? ⟨bB, 3, none⟩ = some (.int .i64 mx)) ∧ w.heap.size ≤ W.heap.size)) (by kernel_rfl) ?_ (fun hHeld => ?_)
 ·exact ⟨⟨k2, k3⟩, HK0.out.size⟩
 refine tkC 0 (oi := ⟨some 55, _, _, _, _, _⟩) (v := ?_) rfl (by kernel_rfl) (fun _ _ _ h => h) (by rfl) ?_ hHeld ?_
 rotate_left
 ·(intro w hSw; obtain ⟨⟨c0, c1⟩, hb⟩ := hSw; refine .inl ?_; go_simp; (try with_reducible rfl))
 try simp only [pU1, pU2, pU3, pU4]
 refine tkC 1 (oi := ⟨some 56, _, _, _, _, _⟩) (v := ?_) rfl (by kernel_rfl) (fun _ _ _ h => h) (by rfl) ?_ hHeld ?_
 rotate_left
 ·(intro w hSw; obtain ⟨⟨c0, c1⟩, hb⟩ := hSw; refine .inl ?_; go_simp; (try with_reducible rfl))
 try simp only [pU1, pU2, pU3, pU4]
 refine tkC 2 (oi := ⟨some 57, _, _, _, _, _⟩) (v := ?_) rfl (by kernel_rfl) (fun _ _ _ h => h) (by rfl) ?_ hHeld ?_
 rotate_left
 ·(intro w hSw; obtain ⟨⟨c0, c1⟩, hb⟩ := hSw; refine .inl ?_; go_simp; (try with_reducible rfl))
 try simp only [pU1, pU2, pU3, pU4]
 refine tkC 6 (oi := ⟨some 61, _, _, _, _, _⟩) (v := ?_) rfl (by kernel_rfl) (fun _ _ _ h => h) (by rfl) ?_ hHeld ?_
 rotate_left
 ·(intro w hSw; obtain ⟨⟨c0, c1⟩, hb⟩ := hSw; refine .inl ?_; go_simp; (try with_reducible rfl))
 try simp only [pU1, pU2, pU3, pU4]
 refine tkC 7 (oi := ⟨some 62, _, _, _, _, _⟩) (v := ?_) rfl (by kernel_rfl) (fun _ _ _ h => h) (by rfl) ?_ hHeld ?_
 rotate_left
 ·(intro w hSw; obtain ⟨⟨c0, c1⟩, hb⟩ := hSw; refine .inl ?_; go_simp; (try with_reducible rfl))
 try simp only [pU1, pU2, pU3, pU4]
 refine tkC 8 (oi := ⟨some 63, _, _, _, _, _⟩) (v := ?_) rfl (by kernel_rfl) (fun _ _ _ h => h) (by rfl) ?_ hHeld ?_
 rotate_left
 ·(intro w hSw; obtain ⟨⟨c0, c1⟩, hb⟩ := hSw; refine .inl ?_; go_simp; (try with_reducible rfl))
 try simp only [pU1, pU2, pU3, pU4]
 refine wpAnyH_ready (rs := [3, 9]) (by kernel_rfl) (by simp) ?_
 refine AllReadyH.cons (o := ⟨some 58, _, _, _, _, _⟩) rfl (fun K hK => ?_) (AllReadyH.cons (o := ⟨some 64, _, _, _, _, _⟩) rfl (fun K hK => ?_) (AllReadyH.nil))
 ·
  go_simp
  refine hK.out _ _ hHeld (fun hHeld => ?_)
  clear hK
  try simp only [pU1, pU2, pU3, pU4]
  refine tkC 4 (oi := ⟨some 59, _, _, _, _, _⟩) (v := ?_) rfl (by kernel_rfl) (fun _ _ _ h => h) (by rfl) ?_ hHeld ?_
  rotate_left
  ·(intro w hSw; obtain ⟨⟨c0, c1⟩, hb⟩ := hSw; refine .inl ?_; go_simp; (try with_reducible rfl))
  try simp only [pU1, pU2, pU3, pU4]
  refine tkC 5 (oi := ⟨some 60, _, _, _, _, _⟩) (v := ?_) rfl (by kernel_rfl) (fun _ _ _ h => h) (by rfl) ?_ hHeld ?_
  rotate_left
  ·intro w hSw
   apply enters
   ·go_simp
    exact ⟨rfl, rfl⟩
   ·exact CC.out _ _
  try simp only [pU1, pU2, pU3, pU4]
  refine wpAnyH_ready (rs := [9]) (by kernel_rfl) (by simp) ?_
  refine AllReadyH.cons (o := ⟨some 64, _, _, _, _, _⟩) rfl (fun K hK => ?_) (AllReadyH.nil)
  go_simp
  refine hK.out _ _ hHeld (fun hHeld => ?_)
  clear hK
  try simp only [pU1, pU2, pU3, pU4]
  refine tkC 10 (oi := ⟨some 65, _, _, _, _, _⟩) (v := ?_) rfl (by kernel_rfl) (fun _ _ _ h => h) (by rfl) ?_ hHeld ?_
  rotate_left
  ·(intro w hSw; obtain ⟨⟨c0, c1⟩, hb⟩ := hSw; refine .inl ?_; go_simp; (try with_reducible rfl))
  try simp only [pU1, pU2, pU3, pU4]
  refine tkC 11 (oi := ⟨some 66, _, _, _, _, _⟩) (v := ?_) rfl (by kernel_rfl) (fun _ _ _ h => h) (by rfl) ?_ hHeld ?_
  rotate_left
  ·intro w hSw
   apply enters
   ·go_simp
    exact ⟨rfl, rfl⟩
   ·exact CC.out _ _
  try simp only [pU1, pU2, pU3, pU4]
  refine tkC 12 (oi := ⟨some 67, _, _, _, _, _⟩) (v := ?_) rfl (by kernel_rfl) (fun _ _ _ h => h) (by rfl) ?_ hHeld ?_
  rotate_left
  ·(intro w hSw; obtain ⟨⟨c0, c1⟩, hb⟩ := hSw; refine .inl ?_; go_simp; (try with_reducible rfl))
  try simp only [pU1, pU2, pU3, pU4]
  refine wpAnyH_ready (rs := [13]) (by kernel_rfl) (by simp) ?_
  refine AllReadyH.cons (o := ⟨none, _, _, _, _, _⟩) rfl (fun K hK => ?_) (AllReadyH.nil)
  go_simp
  refine hK.out _ _ (HS1.out _) (fun hHeld => ?_)
  clear hK
  try simp only [pU1, pU2, pU3, pU4]
  refine tkC 14 (oi := ⟨some 68, _, _, _, _, _⟩) (v := ?_) rfl (by kernel_rfl) (fun _ _ _ h => h) (by rfl) ?_ hHeld ?_
  rotate_left
  ·(intro w hSw; obtain ⟨⟨c0, c1⟩, hb⟩ := hSw; refine .inl ?_; go_simp; (try with_reducible rfl))
  try simp only [pU1, pU2, pU3, pU4]
  refine wpAnyH_ready (rs := [15]) (by kernel_rfl) (by simp) ?_
  refine AllReadyH.cons (o := ⟨none, _, _, _, _, _⟩) rfl (fun K hK => ?_) (AllReadyH.nil)
  go_simp
  refine hK.out _ _ (HS.out _ _) (fun hHeld => ?_)
  clear hK
  try simp only [pU1, pU2, pU3, pU4]
  refine wpAnyH_done (by kernel_rfl) ?_ _
  have HE2 : Hid ((((W0.setCell ⟨bA, 2, none⟩ (.int .i64 (capI (IntKind.i64.wrap (mn * l))))).setCell ⟨bA, 3, none⟩ (.int .i64 (capI (IntKind.i64.wrap (mx * m))))).drew).heap[bA]? = some (.cells #[.int .i64 (d + 1), .int .i64 g, .int .i64 (capI (IntKind.i64.wrap (mn * l))), .int .i64 (capI (IntKind.i64.wrap (mx * m))), .bool false, .bool false] 98 (0, 0))) := heap_drew0 (heap_setCell_same _ _ 3 _ _ _ (heap_setCell_same _ _ 2 _ _ _ HA.out))
  have HX2 : Hid (Kept w (((W0.setCell ⟨bA, 2, none⟩ (.int .i64 (capI (IntKind.i64.wrap (mn * l))))).setCell ⟨bA, 3, none⟩ (.int .i64 (capI (IntKind.i64.wrap (mx * m))))).drew)) := Below.drew (Below.setCell (Below.setCell HK0.out hwA _) hwA _)
  have HC2 : Hid ((((W0.setCell ⟨bA, 2, none⟩ (.int .i64 (capI (IntKind.i64.wrap (mn * l))))).setCell ⟨bA, 3, none⟩ (.int .i64 (capI (IntKind.i64.wrap (mx * m))))).drew).heap[bC]? = some (.cells #[.int .i64 0, .int .i64 0, .int .i64 0, .int .i64 0, .bool false, .bool false] 98 (0, 0))) := heap_drew0 ((heap_set_out _ _ _ _ hAC).trans ((heap_set_out _ _ _ _ hAC).trans HC.out))
  obtain ⟨wy, hwy⟩ : ∃ x, x = ((W0.setCell ⟨bA, 2, none⟩ (.int .i64 (capI (IntKind.i64.wrap (mn * l))))).setCell ⟨bA, 3, none⟩ (.int .i64 (capI (IntKind.i64.wrap (mx * m))))).drew := ⟨_, rfl⟩
  rw [← hwy] at HE2 HX2 HC2 ⊢
  clear hwy hHeld k0 k1 k2 k3 k4 HS HS1 HA HC HK0
  go_wp2_with (first | ((refine wpList_load_row ?c0 98 (.tmp 2) ?c1 bA ?c2 98 #[.int .i64 (d + 1), .int .i64 g, .int .i64 (capI (IntKind.i64.wrap (mn * l))), .int .i64 (capI (IntKind.i64.wrap (mx * m))), .bool false, .bool false] (0, 0) _ HE2.out Tryz.underlying98 ?c3 sizeFc ?_); (case c0 => with_reducible rfl); (case c1 => with_reducible rfl); (case c2 => rfl); (case c3 => rfl)) | ((refine wpList_store_row ?c0 98 (.tmp 4) (.tmp 69) ?c1 bC #[.int .i64 (d + 1), .int .i64 g, .int .i64 (capI (IntKind.i64.wrap (mn * l))), .int .i64 (capI (IntKind.i64.wrap (mx * m))), .bool false, .bool false] ?c2 ?c3 _ _ HC2.out ?c4 ?c5 ?c6 ?_); (case c0 => with_reducible rfl); (case c1 => with_reducible rfl); (case c2 => rfl); (case c3 => rfl); (case c4 => exact sizeFc); (case c5 => rfl); (case c6 => simp [Value.oneCell'])))
  exact bodyPost_ret (results_cell_row Tryz.results71 _ _ bC _ #[.int .i64 (d + 1), .int .i64 g, .int .i64 (capI (IntKind.i64.wrap (mn * l))), .int .i64 (capI (IntKind.i64.wrap (mx * m))), .bool false, .bool false] (0, 0) _ rfl (setRow_heap _ _ _ _ _ _ HC2.out) Tryz.underlying98 rfl sizeFc) rfl ⟨rfl, below_setRow HX2.out hwC _⟩
 ·
  go_simp
  refine hK.out _ _ hHeld (fun hHeld => ?_)
  clear hK
  try simp only [pU1, pU2, pU3, pU4]
  refine tkC 10 (oi := ⟨some 65, _, _, _, _, _⟩) (v := ?_) rfl (by kernel_rfl) (fun _ _ _ h => h) (by rfl) ?_ hHeld ?_
  rotate_left
  ·(intro w hSw; obtain ⟨⟨c0, c1⟩, hb⟩ := hSw; refine .inl ?_; go_simp; (try with_reducible rfl))
  try simp only [pU1, pU2, pU3, pU4]
  refine wpAnyH_ready (rs := [3]) (by kernel_rfl) (by simp) ?_
  refine AllReadyH.cons (o := ⟨some 58, _, _, _, _, _⟩) rfl (fun K hK => ?_) (AllReadyH.nil)
  go_simp
  refine hK.out _ _ hHeld (fun hHeld => ?_)
  clear hK
  try simp only [pU1, pU2, pU3, pU4]
  refine tkC 4 (oi := ⟨some 59, _, _, _, _, _⟩) (v := ?_) rfl (by kernel_rfl) (fun _ _ _ h => h) (by rfl) ?_ hHeld ?_
  rotate_left
  ·(intro w hSw; obtain ⟨⟨c0, c1⟩, hb⟩ := hSw; refine .inl ?_; go_simp; (try with_reducible rfl))
  try simp only [pU1, pU2, pU3, pU4]
  refine tkC 5 (oi := ⟨some 60, _, _, _, _, _⟩) (v := ?_) rfl (by kernel_rfl) (fun _ _ _ h => h) (by rfl) ?_ hHeld ?_
  rotate_left
  ·intro w hSw
   apply enters
   ·go_simp
    exact ⟨rfl, rfl⟩
   ·exact CC.out _ _
  try simp only [pU1, pU2, pU3, pU4]
  refine tkC 11 (oi := ⟨some 66, _, _, _, _, _⟩) (v := ?_) rfl (by kernel_rfl) (fun _ _ _ h => h) (by rfl) ?_ hHeld ?_
  rotate_left
  ·intro w hSw
   apply enters
   ·go_simp
    exact ⟨rfl, rfl⟩
   ·exact CC.out _ _
  try simp only [pU1, pU2, pU3, pU4]
  refine tkC 12 (oi := ⟨some 67, _, _, _, _, _⟩) (v := ?_) rfl (by kernel_rfl) (fun _ _ _ h => h) (by rfl) ?_ hHeld ?_
  rotate_left
  ·(intro w hSw; obtain ⟨⟨c0, c1⟩, hb⟩ := hSw; refine .inl ?_; go_simp; (try with_reducible rfl))
  try simp only [pU1, pU2, pU3, pU4]
  refine wpAnyH_ready (rs := [13]) (by kernel_rfl) (by simp) ?_
  refine AllReadyH.cons (o := ⟨none, _, _, _, _, _⟩) rfl (fun K hK => ?_) (AllReadyH.nil)
  go_simp
  refine hK.out _ _ (HS1.out _) (fun hHeld => ?_)
  clear hK
  try simp only [pU1, pU2, pU3, pU4]
  refine tkC 14 (oi := ⟨some 68, _, _, _, _, _⟩) (v := ?_) rfl (by kernel_rfl) (fun _ _ _ h => h) (by rfl) ?_ hHeld ?_
  rotate_left
  ·(intro w hSw; obtain ⟨⟨c0, c1⟩, hb⟩ := hSw; refine .inl ?_; go_simp; (try with_reducible rfl))
  try simp only [pU1, pU2, pU3, pU4]
  refine wpAnyH_ready (rs := [15]) (by kernel_rfl) (by simp) ?_
  refine AllReadyH.cons (o := ⟨none, _, _, _, _, _⟩) rfl (fun K hK => ?_) (AllReadyH.nil)
  go_simp
  refine hK.out _ _ (HS.out _ _) (fun hHeld => ?_)
  clear hK
  try simp only [pU1, pU2, pU3, pU4]
  refine wpAnyH_done (by kernel_rfl) ?_ _
  have HE2 : Hid ((((W0.setCell ⟨bA, 2, none⟩ (.int .i64 (capI (IntKind.i64.wrap (mn * l))))).setCell ⟨bA, 3, none⟩ (.int .i64 (capI (IntKind.i64.wrap (mx * m))))).drew).heap[bA]? = some (.cells #[.int .i64 (d + 1), .int .i64 g, .int .i64 (capI (IntKind.i64.wrap (mn * l))), .int .i64 (capI (IntKind.i64.wrap (mx * m))), .bool false, .bool false] 98 (0, 0))) := heap_drew0 (heap_setCell_same _ _ 3 _ _ _ (heap_setCell_same _ _ 2 _ _ _ HA.out))
  have HX2 : Hid (Kept w (((W0.setCell ⟨bA, 2, none⟩ (.int .i64 (capI (IntKind.i64.wrap (mn * l))))).setCell ⟨bA, 3, none⟩ (.int .i64 (capI (IntKind.i64.wrap (mx * m))))).drew)) := Below.drew (Below.setCell (Below.setCell HK0.out hwA _) hwA _)
  have HC2 : Hid ((((W0.setCell ⟨bA, 2, none⟩ (.int .i64 (capI (IntKind.i64.wrap (mn * l))))).setCell ⟨bA, 3, none⟩ (.int .i64 (capI (IntKind.i64.wrap (mx * m))))).drew).heap[bC]? = some (.cells #[.int .i64 0, .int .i64 0, .int .i64 0, .int .i64 0, .bool false, .bool false] 98 (0, 0))) := heap_drew0 ((heap_set_out _ _ _ _ hAC).trans ((heap_set_out _ _ _ _ hAC).trans HC.out))
  obtain ⟨wy, hwy⟩ : ∃ x, x = ((W0.setCell ⟨bA, 2, none⟩ (.int .i64 (capI (IntKind.i64.wrap (mn * l))))).setCell ⟨bA, 3, none⟩ (.int .i64 (capI (IntKind.i64.wrap (mx * m))))).drew := ⟨_, rfl⟩
  rw [← hwy] at HE2 HX2 HC2 ⊢
  clear hwy hHeld k0 k1 k2 k3 k4 HS HS1 HA HC HK0
  go_wp2_with (first | ((refine wpList_load_row ?c0 98 (.tmp 2) ?c1 bA ?c2 98 #[.int .i64 (d + 1), .int .i64 g, .int .i64 (capI (IntKind.i64.wrap (mn * l))), .int .i64 (capI (IntKind.i64.wrap (mx * m))), .bool false, .bool false] (0, 0) _ HE2.out Tryz.underlying98 ?c3 sizeFc ?_); (case c0 => with_reducible rfl); (case c1 => with_reducible rfl); (case c2 => rfl); (case c3 => rfl)) | ((refine wpList_store_row ?c0 98 (.tmp 4) (.tmp 69) ?c1 bC #[.int .i64 (d + 1), .int .i64 g, .int .i64 (capI (IntKind.i64.wrap (mn * l))), .int .i64 (capI (IntKind.i64.wrap (mx * m))), .bool false, .bool false] ?c2 ?c3 _ _ HC2.out ?c4 ?c5 ?c6 ?_); (case c0 => with_reducible rfl); (case c1 => with_reducible rfl); (case c2 => rfl); (case c3 => rfl); (case c4 => exact sizeFc); (case c5 => rfl); (case c6 => simp [Value.oneCell'])))
  exact bodyPost_ret (results_cell_row Tryz.results71 _ _ bC _ #[.int .i64 (d + 1), .int .i64 g, .int .i64 (capI (IntKind.i64.wrap (mn * l))), .int .i64 (capI (IntKind.i64.wrap (mx * m))), .bool false, .bool false] (0, 0) _ rfl (setRow_heap _ _ _ _ _ _ HC2.out) Tryz.underlying98 rfl sizeFc) rfl ⟨rfl, below_setRow HX2.out hwC _⟩
end
end Go.Proofs.YtmgkdmbifecekaaGreatDoor
