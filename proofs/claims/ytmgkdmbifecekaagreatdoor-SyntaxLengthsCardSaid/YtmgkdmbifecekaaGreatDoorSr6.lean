/-
  Package syntax: what is enclosed.
-/
import Derived.Test.YtmgkdmbifecekaaGreatDoorMlau
import Derived.Test.YtmgkdmbifecekaaGreatDoorMlal
set_option linter.all false
set_option linter.unusedSimpArgs false
set_option linter.unusedVariables false
set_option linter.unusedSectionVars false
namespace Go.Proofs.YtmgkdmbifecekaaGreatDoor
open Go.RowKit Go.Shelf
/-- What a reader of trees answers. -/
def NdPost (g : Nat) (o : Option (Tree × Bs)) (W : World) (e : Ending) (w' : World) : Prop :=
  W.grownBy w' (some g) ∧ match o with
    | some (t, r) => ∃ k A1 sn c1 mn mx lz A2 un c2, e = .returned (.tuple #[ndV k A1 sn c1 mn mx lz A2 un c2, .bool true]) ∧ NodeM W.heap.size w' t (ndV k A1 sn c1 mn mx lz A2 un c2) ∧ RdrAt w' g (b8 r)
    | none => ∃ k A1 sn c1 mn mx lz A2 un c2 q, e = .returned (.tuple #[ndV k A1 sn c1 mn mx lz A2 un c2, .bool false]) ∧ RdrAt w' g (b8 q)
/-- A node in a cell, and a bool: what a function hands back. -/
theorem res_node {fn : Func} {p u : Tmp} (h : fn.results = #[.cell p 25, .tmp u]) (tmps : Array Value) (w : World) (g : Nat) (cs : Array Value) (hs : cs.size = 6) (hp : tmps.getD p undef = .pointer (some ⟨g, 0, none⟩)) (hg : w.heap[g]? = some (.cells cs 25 (0, 0))) :
    (results fn tmps).run Tryz.prog w = .ok (.tuple #[.agg cs, tmps.getD u undef]) w := by
  rw [results_cell_tmp h, hp]
  have hl := run_loadVar_at (P := Tryz.prog) w ⟨g, 0, none⟩ 25 cs _ (fun j v hv => by rw [add0, cell_of_row _ _ _ _ _ _ hg]; exact hv) Tryz.underlying25 rfl (by rw [sizeNd, hs])
  simp [asAddr, hl, Result.andThen]
def encO (o : Option (Tree × Bs)) : Option (Tree × Bs) := match o with
  | none => none
  | some (t, r) => if Lib.hasPrefix r [41] = true then some (t, Lib.trimPrefix r [41]) else none
theorem rdr_grow {w w' : World} {g : Nat} {q : Bs} (h : RdrAt w g (b8 q)) (hk : Kept w w') : RdrAt w' g (b8 q) := heap_kept hk h
set_option maxRecDepth 10000 in
set_option maxHeartbeats 4000000 in
theorem enc_none (g : Nat) (W : World) (hg : g < W.heap.size) (CP : Hid (∀ W', Kept W W' → Calls Tryz.prog 44 #[.pointer (some ⟨g, 0, none⟩)] W' (NdPost g (none) W'))) : Calls Tryz.prog 140 #[.pointer (some ⟨g, 0, none⟩)] W (NdPost g (encO (none)) W) := by
  have hK0 : Kept W (W.alloc (.cells #[.int .u8 0, .slice none 0 0, .int .i64 0, .int .i64 0, .bool false, .slice none 0 0] 25)) := (Below.refl _ W).alloc (Nat.le_refl _) _
  have C1 := Lib.hid (CP.out _ hK0)
  have h2 : (W.alloc (.cells #[.int .u8 0, .slice none 0 0, .int .i64 0, .int .i64 0, .bool false, .slice none 0 0] 25)).heap[W.heap.size]? = some (.cells #[.int .u8 0, .slice none 0 0, .int .i64 0, .int .i64 0, .bool false, .slice none 0 0] 25 (0, 0)) := heap_alloc_new W _
  clear CP
  go_enter Tryz.func140, Tryz.ntmps140
  go_wp2_with fail
  refine C1.out.mono ?_
  rintro e w1 hpost
  unfold NdPost at hpost
  obtain ⟨g1, hpost⟩ := hpost
  obtain ⟨k, A1, sn, c1, mn, mx, lz, A2, un, c2, q, rfl, hr⟩ := hpost
  have h2' := grown_heap g1 h2 (by intro e9; cases e9; omega)
  have hk2 : Kept w1 (w1.alloc (.cells #[.int .u8 k, .slice A1 sn c1, .int .i64 mn, .int .i64 mx, .bool lz, .slice A2 un c2] 25)) := (Below.refl _ w1).alloc (Nat.le_refl _) _
  unfold ndV
  go_upto_region 2 with fail
  obtain ⟨b2, hb2⟩ : ∃ b, b = W.heap.size := ⟨_, rfl⟩
  rw [← hb2] at h2 h2' ⊢
  have hb2w : W.heap.size ≤ b2 := by omega
  have hb2e : b2 < W.heap.size + 1 := by omega
  have hg2 : g ≠ b2 := by omega
  have G1 : Hid (W.grownBy w1 (some g)) := grown_two hK0 g1
  obtain ⟨w2, hw2⟩ : ∃ x, x = w1.alloc (.cells #[.int .u8 k, .slice A1 sn c1, .int .i64 mn, .int .i64 mx, .bool lz, .slice A2 un c2] 25) := ⟨_, rfl⟩
  rw [← hw2] at hk2
  have h4 : w2.heap[w1.heap.size]? = some (.cells #[.int .u8 k, .slice A1 sn c1, .int .i64 mn, .int .i64 mx, .bool lz, .slice A2 un c2] 25 (0, 0)) := by rw [hw2]; exact heap_alloc_new w1 _
  have hb24 : b2 ≠ w1.heap.size := by have := heap_lt h2'; omega
  have hg4 : g ≠ w1.heap.size := by have := heap_lt hr; omega
  rw [← hw2]
  clear hw2 C1 hb2
  obtain ⟨b4, hb4⟩ : ∃ b, b = w1.heap.size := ⟨_, rfl⟩
  rw [← hb4] at h4 hb24 hg4 ⊢
  have hb4w : b2 < b4 := by have := heap_lt h2'; omega
  have Hr := Lib.hid (rdr_grow hr (below_kept hk2 (below_drew0 (Below.refl _ w2))))
  have H2 := Lib.hid (heap_kept (below_drew0 hk2) h2')
  have H2w := Lib.hid (heap_kept hk2 h2')
  have H4w := Lib.hid h4
  have Hrw := Lib.hid (rdr_grow hr hk2)
  have G2w : Hid (W.grownBy w2 (some g)) := grown_trans G1.out (grown_of_kept hk2)
  have H4 : Hid (w2.drew.heap[b4]? = _) := heap_drew0 h4
  have G2 : Hid (W.grownBy w2.drew (some g)) := grown_trans G1.out (grown_of_kept (below_drew0 hk2))
  clear hr h2 h2' h4 hk2 G1 g1
  refine wp_region_held_drew (S := fun W => W.heap[b4]? = some (.cells #[.int .u8 k, .slice A1 sn c1, .int .i64 mn, .int .i64 mx, .bool lz, .slice A2 un c2] 25 (0, 0))) (by kernel_rfl) ?_ (fun hHeld => ?_)
  · exact H4.out
  refine wpAnyH_takeC (i := 0) (oi := ⟨some 11, _, _, _, _, _⟩) rfl (by kernel_rfl) (by kernel_rfl) (by kernel_rfl) (fun _ _ _ h => h) (yieldsC_row rfl 25 _ rfl ⟨b4, 0, none⟩ rfl #[.int .u8 k, .slice A1 sn c1, .int .i64 mn, .int .i64 mx, .bool lz, .slice A2 un c2] _ (fun w hw => row_cells hw) Tryz.underlying25 rfl sizeNd) hHeld ?_
  try simp only [pU1, pU2, pU3, pU4]
  refine tkC 1 (oi := ⟨some 12, _, _, _, _, _⟩) (v := ?_) rfl (by kernel_rfl) (fun _ _ _ h => h) (by rfl) ?_ hHeld ?_
  rotate_left
  · (intro w hSw; obtain hx := hSw; refine .inl ?_; go_simp; (try with_reducible rfl))
  try simp only [pU1, pU2, pU3, pU4]
  refine tkC 2 (oi := ⟨some 13, _, _, _, _, _⟩) (v := ?_) rfl (by kernel_rfl) (fun _ _ _ h => h) (by rfl) ?_ hHeld ?_
  rotate_left
  · (intro w hSw; obtain hx := hSw; refine .inl ?_; go_simp; (try with_reducible rfl))
  try simp only [pU1, pU2, pU3, pU4]
  refine wpAnyH_takeC (i := 3) (oi := ⟨some 14, _, _, _, _, _⟩) rfl (by kernel_rfl) (by kernel_rfl) (by kernel_rfl) (fun _ _ _ h => h) (Or.inr ⟨by rfl, rfl⟩) hHeld ?_
  try simp only [pU1, pU2, pU3, pU4]
  refine wpAnyH_takeC (i := 4) (oi := ⟨some 15, _, _, _, _, _⟩) rfl (by kernel_rfl) (by kernel_rfl) (by kernel_rfl) (fun _ _ _ h => h) (Or.inr ⟨by rfl, rfl⟩) hHeld ?_
  try simp only [pU1, pU2, pU3, pU4]
  refine tkC 5 (oi := ⟨some 16, _, _, _, _, _⟩) (v := ?_) rfl (by kernel_rfl) (fun _ _ _ h => h) (by rfl) ?_ hHeld ?_
  rotate_left
  · (intro w hSw; obtain hx := hSw; refine .inl ?_; go_simp; (try with_reducible rfl))
  try simp only [pU1, pU2, pU3, pU4]
  refine wpAnyH_ready (rs := [6]) (by kernel_rfl) (by simp) ?_
  refine AllReadyH.cons (o := ⟨none, _, _, _, _, _⟩) rfl (fun K hK => ?_) (AllReadyH.nil)
  have z0 := row_cells H2w.out 0 _ rfl
  have z1 := row_cells H2w.out 1 _ rfl
  have z2 := row_cells H2w.out 2 _ rfl
  have z3 := row_cells H2w.out 3 _ rfl
  have z4 := row_cells H2w.out 4 _ rfl
  have z5 := row_cells H2w.out 5 _ rfl
  rw [add0] at z0 z1 z2 z3 z4 z5
  have zf : ∀ j, w2.frozen? ⟨b2, j, none⟩ = false := fun j => by simp [World.frozen?, show w2.heap[b2]? = _ from H2w.out]
  go_simp
  rw [setCell6 H2w.out]
  refine hK.out _ _ (heap_drew0 ((heap_setRow_out (w := w2) (Ne.symm hb24) _).trans H4w.out)) (fun hHeld2 => ?_)
  replace hHeld := hHeld2
  clear hHeld2
  clear hK
  try simp only [pU1, pU2, pU3, pU4]
  refine tkC 7 (oi := ⟨some 3, _, _, _, _, _⟩) (v := ?_) rfl (by kernel_rfl) (fun _ _ _ h => h) (by rfl) ?_ hHeld ?_
  rotate_left
  · (intro w hSw; obtain hx := hSw; refine .inl ?_; go_simp; (try with_reducible rfl))
  try simp only [pU1, pU2, pU3, pU4]
  refine wpAnyH_done (by kernel_rfl) ?_ _
  go_wp2_with fail
  refine bodyPost_ret (res_node Tryz.results140 _ _ b2 #[.int .u8 k, .slice A1 sn c1, .int .i64 mn, .int .i64 mx, .bool lz, .slice A2 un c2] rfl rfl (heap_drew0 (setRow_heap _ _ _ _ _ _ H2w.out))) rfl ?_
  unfold NdPost encO
  exact ⟨grown_trans (grown_setRow G2w.out hb2w _) (grown_of_kept (Below.drew (Below.refl _ _))), k, A1, sn, c1, mn, mx, lz, A2, un, c2, q, rfl, heap_drew0 ((heap_setRow_out hg2 _).trans Hrw.out)⟩
set_option maxRecDepth 10000 in
set_option maxHeartbeats 4000000 in
theorem enc_no (g : Nat) (t : Tree) (r : Bs) (hb : Lib.hasPrefix r [41] = false) (W : World) (hg : g < W.heap.size) (CP : Hid (∀ W', Kept W W' → Calls Tryz.prog 44 #[.pointer (some ⟨g, 0, none⟩)] W' (NdPost g (some (t, r)) W'))) : Calls Tryz.prog 140 #[.pointer (some ⟨g, 0, none⟩)] W (NdPost g (encO (some (t, r))) W) := by
  have hK0 : Kept W (W.alloc (.cells #[.int .u8 0, .slice none 0 0, .int .i64 0, .int .i64 0, .bool false, .slice none 0 0] 25)) := (Below.refl _ W).alloc (Nat.le_refl _) _
  have C1 := Lib.hid (CP.out _ hK0)
  have h2 : (W.alloc (.cells #[.int .u8 0, .slice none 0 0, .int .i64 0, .int .i64 0, .bool false, .slice none 0 0] 25)).heap[W.heap.size]? = some (.cells #[.int .u8 0, .slice none 0 0, .int .i64 0, .int .i64 0, .bool false, .slice none 0 0] 25 (0, 0)) := heap_alloc_new W _
  clear CP
  go_enter Tryz.func140, Tryz.ntmps140
  go_wp2_with fail
  refine C1.out.mono ?_
  rintro e w1 hpost
  unfold NdPost at hpost
  obtain ⟨g1, hpost⟩ := hpost
  obtain ⟨k, A1, sn, c1, mn, mx, lz, A2, un, c2, rfl, hn, hr⟩ := hpost
  have h2' := grown_heap g1 h2 (by intro e9; cases e9; omega)
  have hk2 : Kept w1 (w1.alloc (.cells #[.int .u8 k, .slice A1 sn c1, .int .i64 mn, .int .i64 mx, .bool lz, .slice A2 un c2] 25)) := (Below.refl _ w1).alloc (Nat.le_refl _) _
  unfold ndV
  go_upto_region 2 with fail
  obtain ⟨b2, hb2⟩ : ∃ b, b = W.heap.size := ⟨_, rfl⟩
  rw [← hb2] at h2 h2' ⊢
  have hb2w : W.heap.size ≤ b2 := by omega
  have hb2e : b2 < W.heap.size + 1 := by omega
  have hg2 : g ≠ b2 := by omega
  have G1 : Hid (W.grownBy w1 (some g)) := grown_two hK0 g1
  obtain ⟨w2, hw2⟩ : ∃ x, x = w1.alloc (.cells #[.int .u8 k, .slice A1 sn c1, .int .i64 mn, .int .i64 mx, .bool lz, .slice A2 un c2] 25) := ⟨_, rfl⟩
  rw [← hw2] at hk2
  have h4 : w2.heap[w1.heap.size]? = some (.cells #[.int .u8 k, .slice A1 sn c1, .int .i64 mn, .int .i64 mx, .bool lz, .slice A2 un c2] 25 (0, 0)) := by rw [hw2]; exact heap_alloc_new w1 _
  have hb24 : b2 ≠ w1.heap.size := by have := heap_lt h2'; omega
  have hg4 : g ≠ w1.heap.size := by have := heap_lt hr; omega
  rw [← hw2]
  clear hw2 C1 hb2
  obtain ⟨b4, hb4⟩ : ∃ b, b = w1.heap.size := ⟨_, rfl⟩
  rw [← hb4] at h4 hb24 hg4 ⊢
  have hb4w : b2 < b4 := by have := heap_lt h2'; omega
  have Hr := Lib.hid (rdr_grow hr (below_kept hk2 (below_drew0 (Below.refl _ w2))))
  have H2 := Lib.hid (heap_kept (below_drew0 hk2) h2')
  have H2w := Lib.hid (heap_kept hk2 h2')
  have H4w := Lib.hid h4
  have Hrw := Lib.hid (rdr_grow hr hk2)
  have G2w : Hid (W.grownBy w2 (some g)) := grown_trans G1.out (grown_of_kept hk2)
  have H4 : Hid (w2.drew.heap[b4]? = _) := heap_drew0 h4
  have G2 : Hid (W.grownBy w2.drew (some g)) := grown_trans G1.out (grown_of_kept (below_drew0 hk2))
  have Hn := Lib.hid (NodeM.kept hn (Nat.le_refl _) (below_drew0 hk2))
  clear hr h2 h2' h4 hk2 G1 g1 hn
  refine wp_region_held_drew (S := fun W => W.heap[b4]? = some (.cells #[.int .u8 k, .slice A1 sn c1, .int .i64 mn, .int .i64 mx, .bool lz, .slice A2 un c2] 25 (0, 0))) (by kernel_rfl) ?_ (fun hHeld => ?_)
  · exact H4.out
  refine wpAnyH_takeC (i := 0) (oi := ⟨some 11, _, _, _, _, _⟩) rfl (by kernel_rfl) (by kernel_rfl) (by kernel_rfl) (fun _ _ _ h => h) (yieldsC_row rfl 25 _ rfl ⟨b4, 0, none⟩ rfl #[.int .u8 k, .slice A1 sn c1, .int .i64 mn, .int .i64 mx, .bool lz, .slice A2 un c2] _ (fun w hw => row_cells hw) Tryz.underlying25 rfl sizeNd) hHeld ?_
  try simp only [pU1, pU2, pU3, pU4]
  refine tkC 1 (oi := ⟨some 12, _, _, _, _, _⟩) (v := ?_) rfl (by kernel_rfl) (fun _ _ _ h => h) (by rfl) ?_ hHeld ?_
  rotate_left
  · (intro w hSw; obtain hx := hSw; refine .inl ?_; go_simp; (try with_reducible rfl))
  try simp only [pU1, pU2, pU3, pU4]
  refine tkC 2 (oi := ⟨some 13, _, _, _, _, _⟩) (v := ?_) rfl (by kernel_rfl) (fun _ _ _ h => h) (by rfl) ?_ hHeld ?_
  rotate_left
  · (intro w hSw; obtain hx := hSw; refine .inl ?_; go_simp; (try with_reducible rfl))
  try simp only [pU1, pU2, pU3, pU4]
  refine tkC 3 (oi := ⟨some 14, _, _, _, _, _⟩) (v := ?_) rfl (by kernel_rfl) (fun _ _ _ h => h) (by rfl) ?_ hHeld ?_
  rotate_left
  · (intro w hSw; obtain hx := hSw; refine .inl ?_; go_simp; (try with_reducible rfl))
  try simp only [pU1, pU2, pU3, pU4]
  refine wpAnyH_ready (rs := [4]) (by kernel_rfl) (by simp) ?_
  refine AllReadyH.cons (o := ⟨some 15, _, _, _, _, _⟩) rfl (fun K hK => ?_) (AllReadyH.nil)
  go_simp
  refine (take_b g r [41] false hb _ Hr.out).mono ?_
  rintro e w8 ⟨rfl, hr8, hg8⟩
  have S8 := grown_heap hg8 hHeld (by intro e9; cases e9; exact hg4 rfl)
  have H28 := Lib.hid (grown_heap hg8 H2.out (by intro e9; cases e9; exact hg2 rfl))
  have Hn8 := Lib.hid (NodeM.grown Hn.out (Nat.le_refl _) hg8 (by simp; omega))
  have G8 : Hid (W.grownBy w8 (some g)) := grown_trans G2.out hg8
  have Hr8 := Lib.hid hr8
  refine hK.out _ _ S8 (fun hHeld2 => ?_)
  clear hHeld
  have hHeld := hHeld2
  clear hHeld2 S8 hr8 hg8
  clear hK
  try simp only [pU1, pU2, pU3, pU4]
  refine tkC 5 (oi := ⟨some 16, _, _, _, _, _⟩) (v := ?_) rfl (by kernel_rfl) (fun _ _ _ h => h) (by rfl) ?_ hHeld ?_
  rotate_left
  · (intro w hSw; obtain hx := hSw; refine .inl ?_; go_simp; (try with_reducible rfl))
  try simp only [pU1, pU2, pU3, pU4]
  refine wpAnyH_ready (rs := [6]) (by kernel_rfl) (by simp) ?_
  refine AllReadyH.cons (o := ⟨none, _, _, _, _, _⟩) rfl (fun K hK => ?_) (AllReadyH.nil)
  have z0 := row_cells H28.out 0 _ rfl
  have z1 := row_cells H28.out 1 _ rfl
  have z2 := row_cells H28.out 2 _ rfl
  have z3 := row_cells H28.out 3 _ rfl
  have z4 := row_cells H28.out 4 _ rfl
  have z5 := row_cells H28.out 5 _ rfl
  rw [add0] at z0 z1 z2 z3 z4 z5
  have zf : ∀ j, w8.frozen? ⟨b2, j, none⟩ = false := fun j => by simp [World.frozen?, show w8.heap[b2]? = _ from H28.out]
  go_simp
  rw [setCell6 H28.out]
  refine hK.out _ _ ((heap_setRow_out (w := w8) (Ne.symm hb24) _).trans hHeld) (fun hHeld2 => ?_)
  replace hHeld := hHeld2
  clear hHeld2
  clear hK
  try simp only [pU1, pU2, pU3, pU4]
  refine tkC 7 (oi := ⟨some 3, _, _, _, _, _⟩) (v := ?_) rfl (by kernel_rfl) (fun _ _ _ h => h) (by rfl) ?_ hHeld ?_
  rotate_left
  · (intro w hSw; obtain hx := hSw; refine .inl ?_; go_simp; (try with_reducible rfl))
  try simp only [pU1, pU2, pU3, pU4]
  refine wpAnyH_done (by kernel_rfl) ?_ _
  go_wp2_with fail
  refine bodyPost_ret (res_node Tryz.results140 _ _ b2 #[.int .u8 k, .slice A1 sn c1, .int .i64 mn, .int .i64 mx, .bool lz, .slice A2 un c2] rfl rfl (setRow_heap _ _ _ _ _ _ H28.out)) rfl ?_
  unfold NdPost encO
  dsimp only
  rw [hb]
  exact ⟨grown_setRow G8.out hb2w _, k, A1, sn, c1, mn, mx, lz, A2, un, c2, _, rfl, (heap_setRow_out hg2 _).trans Hr8.out⟩
set_option maxRecDepth 10000 in
set_option maxHeartbeats 4000000 in
theorem enc_yes (g : Nat) (t : Tree) (r : Bs) (hb : Lib.hasPrefix r [41] = true) (W : World) (hg : g < W.heap.size) (CP : Hid (∀ W', Kept W W' → Calls Tryz.prog 44 #[.pointer (some ⟨g, 0, none⟩)] W' (NdPost g (some (t, r)) W'))) : Calls Tryz.prog 140 #[.pointer (some ⟨g, 0, none⟩)] W (NdPost g (encO (some (t, r))) W) := by
  have hK0 : Kept W (W.alloc (.cells #[.int .u8 0, .slice none 0 0, .int .i64 0, .int .i64 0, .bool false, .slice none 0 0] 25)) := (Below.refl _ W).alloc (Nat.le_refl _) _
  have C1 := Lib.hid (CP.out _ hK0)
  have h2 : (W.alloc (.cells #[.int .u8 0, .slice none 0 0, .int .i64 0, .int .i64 0, .bool false, .slice none 0 0] 25)).heap[W.heap.size]? = some (.cells #[.int .u8 0, .slice none 0 0, .int .i64 0, .int .i64 0, .bool false, .slice none 0 0] 25 (0, 0)) := heap_alloc_new W _
  clear CP
  go_enter Tryz.func140, Tryz.ntmps140
  go_wp2_with fail
  refine C1.out.mono ?_
  rintro e w1 hpost
  unfold NdPost at hpost
  obtain ⟨g1, hpost⟩ := hpost
  obtain ⟨k, A1, sn, c1, mn, mx, lz, A2, un, c2, rfl, hn, hr⟩ := hpost
  have h2' := grown_heap g1 h2 (by intro e9; cases e9; omega)
  have hk2 : Kept w1 (w1.alloc (.cells #[.int .u8 k, .slice A1 sn c1, .int .i64 mn, .int .i64 mx, .bool lz, .slice A2 un c2] 25)) := (Below.refl _ w1).alloc (Nat.le_refl _) _
  unfold ndV
  go_upto_region 2 with fail
  obtain ⟨b2, hb2⟩ : ∃ b, b = W.heap.size := ⟨_, rfl⟩
  rw [← hb2] at h2 h2' ⊢
  have hb2w : W.heap.size ≤ b2 := by omega
  have hb2e : b2 < W.heap.size + 1 := by omega
  have hg2 : g ≠ b2 := by omega
  have G1 : Hid (W.grownBy w1 (some g)) := grown_two hK0 g1
  obtain ⟨w2, hw2⟩ : ∃ x, x = w1.alloc (.cells #[.int .u8 k, .slice A1 sn c1, .int .i64 mn, .int .i64 mx, .bool lz, .slice A2 un c2] 25) := ⟨_, rfl⟩
  rw [← hw2] at hk2
  have h4 : w2.heap[w1.heap.size]? = some (.cells #[.int .u8 k, .slice A1 sn c1, .int .i64 mn, .int .i64 mx, .bool lz, .slice A2 un c2] 25 (0, 0)) := by rw [hw2]; exact heap_alloc_new w1 _
  have hb24 : b2 ≠ w1.heap.size := by have := heap_lt h2'; omega
  have hg4 : g ≠ w1.heap.size := by have := heap_lt hr; omega
  rw [← hw2]
  clear hw2 C1 hb2
  obtain ⟨b4, hb4⟩ : ∃ b, b = w1.heap.size := ⟨_, rfl⟩
  rw [← hb4] at h4 hb24 hg4 ⊢
  have hb4w : b2 < b4 := by have := heap_lt h2'; omega
  have Hr := Lib.hid (rdr_grow hr (below_kept hk2 (below_drew0 (Below.refl _ w2))))
  have H2 := Lib.hid (heap_kept (below_drew0 hk2) h2')
  have H2w := Lib.hid (heap_kept hk2 h2')
  have H4w := Lib.hid h4
  have Hrw := Lib.hid (rdr_grow hr hk2)
  have G2w : Hid (W.grownBy w2 (some g)) := grown_trans G1.out (grown_of_kept hk2)
  have H4 : Hid (w2.drew.heap[b4]? = _) := heap_drew0 h4
  have G2 : Hid (W.grownBy w2.drew (some g)) := grown_trans G1.out (grown_of_kept (below_drew0 hk2))
  have Hn := Lib.hid (NodeM.kept hn (Nat.le_refl _) (below_drew0 hk2))
  clear hr h2 h2' h4 hk2 G1 g1 hn
  refine wp_region_held_drew (S := fun W => W.heap[b4]? = some (.cells #[.int .u8 k, .slice A1 sn c1, .int .i64 mn, .int .i64 mx, .bool lz, .slice A2 un c2] 25 (0, 0))) (by kernel_rfl) ?_ (fun hHeld => ?_)
  · exact H4.out
  refine wpAnyH_takeC (i := 0) (oi := ⟨some 11, _, _, _, _, _⟩) rfl (by kernel_rfl) (by kernel_rfl) (by kernel_rfl) (fun _ _ _ h => h) (yieldsC_row rfl 25 _ rfl ⟨b4, 0, none⟩ rfl #[.int .u8 k, .slice A1 sn c1, .int .i64 mn, .int .i64 mx, .bool lz, .slice A2 un c2] _ (fun w hw => row_cells hw) Tryz.underlying25 rfl sizeNd) hHeld ?_
  try simp only [pU1, pU2, pU3, pU4]
  refine tkC 1 (oi := ⟨some 12, _, _, _, _, _⟩) (v := ?_) rfl (by kernel_rfl) (fun _ _ _ h => h) (by rfl) ?_ hHeld ?_
  rotate_left
  · (intro w hSw; obtain hx := hSw; refine .inl ?_; go_simp; (try with_reducible rfl))
  try simp only [pU1, pU2, pU3, pU4]
  refine tkC 2 (oi := ⟨some 13, _, _, _, _, _⟩) (v := ?_) rfl (by kernel_rfl) (fun _ _ _ h => h) (by rfl) ?_ hHeld ?_
  rotate_left
  · (intro w hSw; obtain hx := hSw; refine .inl ?_; go_simp; (try with_reducible rfl))
  try simp only [pU1, pU2, pU3, pU4]
  refine tkC 3 (oi := ⟨some 14, _, _, _, _, _⟩) (v := ?_) rfl (by kernel_rfl) (fun _ _ _ h => h) (by rfl) ?_ hHeld ?_
  rotate_left
  · (intro w hSw; obtain hx := hSw; refine .inl ?_; go_simp; (try with_reducible rfl))
  try simp only [pU1, pU2, pU3, pU4]
  refine wpAnyH_ready (rs := [4]) (by kernel_rfl) (by simp) ?_
  refine AllReadyH.cons (o := ⟨some 15, _, _, _, _, _⟩) rfl (fun K hK => ?_) (AllReadyH.nil)
  go_simp
  refine (take_b g r [41] true hb _ Hr.out).mono ?_
  rintro e w8 ⟨rfl, hr8, hg8⟩
  have S8 := grown_heap hg8 hHeld (by intro e9; cases e9; exact hg4 rfl)
  have H28 := Lib.hid (grown_heap hg8 H2.out (by intro e9; cases e9; exact hg2 rfl))
  have Hn8 := Lib.hid (NodeM.grown Hn.out (Nat.le_refl _) hg8 (by simp; omega))
  have G8 : Hid (W.grownBy w8 (some g)) := grown_trans G2.out hg8
  have Hr8 := Lib.hid hr8
  refine hK.out _ _ S8 (fun hHeld2 => ?_)
  clear hHeld
  have hHeld := hHeld2
  clear hHeld2 S8 hr8 hg8
  clear hK
  try simp only [pU1, pU2, pU3, pU4]
  refine tkC 5 (oi := ⟨some 16, _, _, _, _, _⟩) (v := ?_) rfl (by kernel_rfl) (fun _ _ _ h => h) (by rfl) ?_ hHeld ?_
  rotate_left
  · (intro w hSw; obtain hx := hSw; refine .inl ?_; go_simp; (try with_reducible rfl))
  try simp only [pU1, pU2, pU3, pU4]
  refine wpAnyH_ready (rs := [6]) (by kernel_rfl) (by simp) ?_
  refine AllReadyH.cons (o := ⟨none, _, _, _, _, _⟩) rfl (fun K hK => ?_) (AllReadyH.nil)
  have z0 := row_cells H28.out 0 _ rfl
  have z1 := row_cells H28.out 1 _ rfl
  have z2 := row_cells H28.out 2 _ rfl
  have z3 := row_cells H28.out 3 _ rfl
  have z4 := row_cells H28.out 4 _ rfl
  have z5 := row_cells H28.out 5 _ rfl
  rw [add0] at z0 z1 z2 z3 z4 z5
  have zf : ∀ j, w8.frozen? ⟨b2, j, none⟩ = false := fun j => by simp [World.frozen?, show w8.heap[b2]? = _ from H28.out]
  go_simp
  rw [setCell6 H28.out]
  refine hK.out _ _ ((heap_setRow_out (w := w8) (Ne.symm hb24) _).trans hHeld) (fun hHeld2 => ?_)
  replace hHeld := hHeld2
  clear hHeld2
  clear hK
  try simp only [pU1, pU2, pU3, pU4]
  refine tkC 7 (oi := ⟨some 3, _, _, _, _, _⟩) (v := ?_) rfl (by kernel_rfl) (fun _ _ _ h => h) (by rfl) ?_ hHeld ?_
  rotate_left
  · (intro w hSw; obtain hx := hSw; refine .inl ?_; go_simp; (try with_reducible rfl))
  try simp only [pU1, pU2, pU3, pU4]
  refine wpAnyH_done (by kernel_rfl) ?_ _
  go_wp2_with fail
  refine bodyPost_ret (res_node Tryz.results140 _ _ b2 #[.int .u8 k, .slice A1 sn c1, .int .i64 mn, .int .i64 mx, .bool lz, .slice A2 un c2] rfl rfl (setRow_heap _ _ _ _ _ _ H28.out)) rfl ?_
  unfold NdPost encO
  dsimp only
  rw [hb]
  exact ⟨grown_setRow G8.out hb2w _, k, A1, sn, c1, mn, mx, lz, A2, un, c2, rfl, NodeM.set Hn8.out (by simp) (by simp; omega) _, (heap_setRow_out hg2 _).trans Hr8.out⟩
end Go.Proofs.YtmgkdmbifecekaaGreatDoor
