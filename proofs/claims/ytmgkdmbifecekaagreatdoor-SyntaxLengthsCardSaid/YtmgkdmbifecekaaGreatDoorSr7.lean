/-
  Package syntax: atoms.
-/
import Derived.Test.YtmgkdmbifecekaaGreatDoorSr6
set_option linter.all false
set_option linter.unusedSimpArgs false
set_option linter.unusedVariables false
set_option linter.unusedSectionVars false
namespace Go.Proofs.YtmgkdmbifecekaaGreatDoor
open Go.RowKit Go.Shelf
abbrev NdC (F : FuncId) (g : Nat) (l : Bs) (o : Option (Tree × Bs)) : Prop := ∀ W, RdrAt W g (b8 l) → Calls Tryz.prog F #[.pointer (some ⟨g, 0, none⟩)] W (NdPost g o W)
set_option maxRecDepth 10000 in
set_option maxHeartbeats 4000000 in
theorem atom_part_some (g : Nat) (l : Bs) (t : Tree) (r : Bs) (h1 : Lib.hasPrefix l [40, 63, 58] = true) (CE : NdC 140 g (Lib.trimPrefix l [40, 63, 58]) (some (t, r))) (W : World) (hr : RdrAt W g (b8 l)) : Calls Tryz.prog 118 #[.pointer (some ⟨g, 0, none⟩)] W (NdPost g (some (t, r)) W) := by
  have Hr0 := Lib.hid hr
  have hgW := heap_lt hr
  have hK0 : Kept W (W.alloc (.cells #[.int .u8 0, .slice none 0 0, .int .i64 0, .int .i64 0, .bool false, .slice none 0 0] 25)) := (Below.refl _ W).alloc (Nat.le_refl _) _
  have h2 := heap_alloc_new W (.cells #[.int .u8 0, .slice none 0 0, .int .i64 0, .int .i64 0, .bool false, .slice none 0 0] 25)
  have Hr := Lib.hid (rdr_grow hr hK0)
  have Hg : Hid (W.grownBy (W.alloc (.cells #[.int .u8 0, .slice none 0 0, .int .i64 0, .int .i64 0, .bool false, .slice none 0 0] 25)) (some g)) := grown_of_kept hK0
  have H2 := Lib.hid h2
  have hgb : g ≠ W.heap.size := by omega
  clear hr h2 hK0
  go_enter Tryz.func118, Tryz.ntmps118
  go_wp2_with fail
  refine (take_b g l [40, 63, 58] true h1 _ Hr.out).mono ?_
  rintro e w1 ⟨rfl, hr1, hg1⟩
  replace Hr := Lib.hid hr1
  replace Hg : Hid (W.grownBy w1 (some g)) := grown_trans Hg.out hg1
  replace H2 := Lib.hid (grown_heap hg1 H2.out (by intro e9; cases e9; exact hgb rfl))
  clear hr1 hg1
  go_wp2_with fail
  refine (CE _ Hr.out).mono ?_
  rintro e w2 hpost
  unfold NdPost at hpost
  obtain ⟨hg2, hpost⟩ := hpost
  obtain ⟨k, A1, sn, c1, mn, mx, lz, A2, un, c2, rfl, hn, hr2⟩ := hpost
  replace Hr := Lib.hid hr2
  have Hn := Lib.hid (hn.grow (b' := W.heap.size + 1) (by have := heap_lt H2.out; omega) (Nat.le_refl _) (fun _ _ _ => rfl))
  replace Hg : Hid (W.grownBy w2 (some g)) := grown_trans Hg.out hg2
  replace H2 := Lib.hid (grown_heap hg2 H2.out (by intro e9; cases e9; exact hgb rfl))
  unfold ndV
  dsimp only
  go_wp2_with (first | ((refine wpList_store_row ?c0 25 (.tmp 2) (.tmp 12) ?c1 W.heap.size #[.int .u8 k, .slice A1 sn c1, .int .i64 mn, .int .i64 mx, .bool lz, .slice A2 un c2] ?c2 ?c3 _ _ H2.out ?c4 ?c5 ?c6 ?_); (case c0 => with_reducible rfl); (case c1 => with_reducible rfl); (case c2 => rfl); (case c3 => rfl); (case c4 => exact sizeNd); (case c5 => rfl); (case c6 => simp [Value.oneCell'])))
  refine bodyPost_ret (res_node Tryz.results118 _ _ W.heap.size #[.int .u8 k, .slice A1 sn c1, .int .i64 mn, .int .i64 mx, .bool lz, .slice A2 un c2] rfl rfl (setRow_heap _ _ _ _ _ _ H2.out)) rfl ?_
  unfold NdPost
  exact ⟨grown_setRow Hg.out (Nat.le_refl _) _, k, A1, sn, c1, mn, mx, lz, A2, un, c2, rfl, NodeM.set Hn.out (by omega) (by omega) _, (heap_setRow_out hgb _).trans Hr.out⟩
set_option maxRecDepth 10000 in
set_option maxHeartbeats 4000000 in
theorem atom_part_none (g : Nat) (l : Bs) (h1 : Lib.hasPrefix l [40, 63, 58] = true) (CE : NdC 140 g (Lib.trimPrefix l [40, 63, 58]) (none)) (W : World) (hr : RdrAt W g (b8 l)) : Calls Tryz.prog 118 #[.pointer (some ⟨g, 0, none⟩)] W (NdPost g (none) W) := by
  have Hr0 := Lib.hid hr
  have hgW := heap_lt hr
  have hK0 : Kept W (W.alloc (.cells #[.int .u8 0, .slice none 0 0, .int .i64 0, .int .i64 0, .bool false, .slice none 0 0] 25)) := (Below.refl _ W).alloc (Nat.le_refl _) _
  have h2 := heap_alloc_new W (.cells #[.int .u8 0, .slice none 0 0, .int .i64 0, .int .i64 0, .bool false, .slice none 0 0] 25)
  have Hr := Lib.hid (rdr_grow hr hK0)
  have Hg : Hid (W.grownBy (W.alloc (.cells #[.int .u8 0, .slice none 0 0, .int .i64 0, .int .i64 0, .bool false, .slice none 0 0] 25)) (some g)) := grown_of_kept hK0
  have H2 := Lib.hid h2
  have hgb : g ≠ W.heap.size := by omega
  clear hr h2 hK0
  go_enter Tryz.func118, Tryz.ntmps118
  go_wp2_with fail
  refine (take_b g l [40, 63, 58] true h1 _ Hr.out).mono ?_
  rintro e w1 ⟨rfl, hr1, hg1⟩
  replace Hr := Lib.hid hr1
  replace Hg : Hid (W.grownBy w1 (some g)) := grown_trans Hg.out hg1
  replace H2 := Lib.hid (grown_heap hg1 H2.out (by intro e9; cases e9; exact hgb rfl))
  clear hr1 hg1
  go_wp2_with fail
  refine (CE _ Hr.out).mono ?_
  rintro e w2 hpost
  unfold NdPost at hpost
  obtain ⟨hg2, hpost⟩ := hpost
  obtain ⟨k, A1, sn, c1, mn, mx, lz, A2, un, c2, q, rfl, hr2⟩ := hpost
  replace Hr := Lib.hid hr2
  replace Hg : Hid (W.grownBy w2 (some g)) := grown_trans Hg.out hg2
  replace H2 := Lib.hid (grown_heap hg2 H2.out (by intro e9; cases e9; exact hgb rfl))
  unfold ndV
  dsimp only
  go_wp2_with (first | ((refine wpList_store_row ?c0 25 (.tmp 2) (.tmp 12) ?c1 W.heap.size #[.int .u8 k, .slice A1 sn c1, .int .i64 mn, .int .i64 mx, .bool lz, .slice A2 un c2] ?c2 ?c3 _ _ H2.out ?c4 ?c5 ?c6 ?_); (case c0 => with_reducible rfl); (case c1 => with_reducible rfl); (case c2 => rfl); (case c3 => rfl); (case c4 => exact sizeNd); (case c5 => rfl); (case c6 => simp [Value.oneCell'])))
  refine bodyPost_ret (res_node Tryz.results118 _ _ W.heap.size #[.int .u8 k, .slice A1 sn c1, .int .i64 mn, .int .i64 mx, .bool lz, .slice A2 un c2] rfl rfl (setRow_heap _ _ _ _ _ _ H2.out)) rfl ?_
  unfold NdPost
  exact ⟨grown_setRow Hg.out (Nat.le_refl _) _, k, A1, sn, c1, mn, mx, lz, A2, un, c2, q, rfl, (heap_setRow_out hgb _).trans Hr.out⟩
set_option maxRecDepth 10000 in
set_option maxHeartbeats 4000000 in
theorem atom_group_some (g : Nat) (l : Bs) (t : Tree) (r : Bs) (h1 : Lib.hasPrefix l [40, 63, 58] = false) (h3 : Lib.hasPrefix l [40] = true) (CE : NdC 140 g (Lib.trimPrefix l [40]) (some (t, r))) (W : World) (hr : RdrAt W g (b8 l)) : Calls Tryz.prog 118 #[.pointer (some ⟨g, 0, none⟩)] W (NdPost g (some (.mk 6 [] 0 0 false [t], r)) W) := by
  have Hr0 := Lib.hid hr
  have hgW := heap_lt hr
  have hK0 : Kept W (W.alloc (.cells #[.int .u8 0, .slice none 0 0, .int .i64 0, .int .i64 0, .bool false, .slice none 0 0] 25)) := (Below.refl _ W).alloc (Nat.le_refl _) _
  have h2 := heap_alloc_new W (.cells #[.int .u8 0, .slice none 0 0, .int .i64 0, .int .i64 0, .bool false, .slice none 0 0] 25)
  have Hr := Lib.hid (rdr_grow hr hK0)
  have Hg : Hid (W.grownBy (W.alloc (.cells #[.int .u8 0, .slice none 0 0, .int .i64 0, .int .i64 0, .bool false, .slice none 0 0] 25)) (some g)) := grown_of_kept hK0
  have H2 := Lib.hid h2
  have hgb : g ≠ W.heap.size := by omega
  clear hr h2 hK0
  go_enter Tryz.func118, Tryz.ntmps118
  go_wp2_with fail
  refine (take_b g l [40, 63, 58] false h1 _ Hr.out).mono ?_
  rintro e w1 ⟨rfl, hr1, hg1⟩
  rw [trim_no h1] at hr1
  replace Hr := Lib.hid hr1
  replace Hg : Hid (W.grownBy w1 (some g)) := grown_trans Hg.out hg1
  replace H2 := Lib.hid (grown_heap hg1 H2.out (by intro e9; cases e9; exact hgb rfl))
  clear hr1 hg1
  go_wp2_with fail
  refine (take_b g l [40] true h3 _ Hr.out).mono ?_
  rintro e w2 ⟨rfl, hr2, hg2⟩
  replace Hr := Lib.hid hr2
  replace Hg : Hid (W.grownBy w2 (some g)) := grown_trans Hg.out hg2
  replace H2 := Lib.hid (grown_heap hg2 H2.out (by intro e9; cases e9; exact hgb rfl))
  clear hr2 hg2
  go_wp2_with fail
  refine (CE _ Hr.out).mono ?_
  rintro e w3 hpost
  unfold NdPost at hpost
  obtain ⟨hg3, hpost⟩ := hpost
  obtain ⟨k, A1, sn, c1, mn, mx, lz, A2, un, c2, rfl, hn, hr3⟩ := hpost
  replace Hr := Lib.hid hr3
  have Hn := Lib.hid (hn.grow (b' := W.heap.size + 1) (by have := heap_lt H2.out; omega) (Nat.le_refl _) (fun _ _ _ => rfl))
  replace Hg : Hid (W.grownBy w3 (some g)) := grown_trans Hg.out hg3
  replace H2 := Lib.hid (grown_heap hg3 H2.out (by intro e9; cases e9; exact hgb rfl))
  unfold ndV
  dsimp only
  have hk4 : Kept w3 ((w3.alloc (.cells #[.int .u8 k, .slice A1 sn c1, .int .i64 mn, .int .i64 mx, .bool lz, .slice A2 un c2] 25)).alloc (.cells #[.int .u8 k, .slice A1 sn c1, .int .i64 mn, .int .i64 mx, .bool lz, .slice A2 un c2] 25)) := ((Below.refl _ w3).alloc (Nat.le_refl _) _).alloc (by simp) _
  have H24 := Lib.hid (heap_kept hk4 H2.out)
  have h5 : ((w3.alloc (.cells #[.int .u8 k, .slice A1 sn c1, .int .i64 mn, .int .i64 mx, .bool lz, .slice A2 un c2] 25)).alloc (.cells #[.int .u8 k, .slice A1 sn c1, .int .i64 mn, .int .i64 mx, .bool lz, .slice A2 un c2] 25)).heap[w3.heap.size + 1]? = some (.cells #[.int .u8 k, .slice A1 sn c1, .int .i64 mn, .int .i64 mx, .bool lz, .slice A2 un c2] 25 (0, 0)) := al_new _ _ (by simp)
  have Hr4 := Lib.hid (rdr_grow Hr.out hk4)
  have Hg4 : Hid (W.grownBy ((w3.alloc (.cells #[.int .u8 k, .slice A1 sn c1, .int .i64 mn, .int .i64 mx, .bool lz, .slice A2 un c2] 25)).alloc (.cells #[.int .u8 k, .slice A1 sn c1, .int .i64 mn, .int .i64 mx, .bool lz, .slice A2 un c2] 25)) (some g)) := grown_trans Hg.out (grown_of_kept hk4)
  have Hn4 := Lib.hid (NodeM.kept Hn.out (Nat.le_refl _) hk4)
  go_wp2_with (first | ((refine wpList_store_row ?c0 25 (.tmp 2) (.tmp 23) ?c1 W.heap.size #[.int .u8 6, .slice none 0 0, .int .i64 0, .int .i64 0, .bool false, .slice (some ⟨w3.heap.size + 1, 0, none⟩) 1 1] ?c2 ?c3 _ _ H24.out ?c4 ?c5 ?c6 ?_); (case c0 => with_reducible rfl); (case c1 => with_reducible rfl); (case c2 => rfl); (case c3 => rfl); (case c4 => exact sizeNd); (case c5 => rfl); (case c6 => simp [Value.oneCell'])))
  refine bodyPost_ret (res_node Tryz.results118 _ _ W.heap.size #[.int .u8 6, .slice none 0 0, .int .i64 0, .int .i64 0, .bool false, .slice (some ⟨w3.heap.size + 1, 0, none⟩) 1 1] rfl rfl (setRow_heap _ _ _ _ _ _ H24.out)) rfl ?_
  unfold NdPost
  obtain ⟨cs, hcs, hnc⟩ := Hn4.out
  have hcs2 : cs = [.int .u8 k, .slice A1 sn c1, .int .i64 mn, .int .i64 mx, .bool lz, .slice A2 un c2] := by
    have := congrArg (fun v => match v with | Value.agg a => a.toList | _ => []) hcs
    simpa using this.symm
  subst hcs2
  exact ⟨grown_setRow Hg4.out (Nat.le_refl _) _, 6, none, 0, 0, 0, 0, false, some ⟨w3.heap.size + 1, 0, none⟩, 1, 1, rfl, NodeM.set (one_mask (b := W.heap.size + 1) (by have := heap_lt H2.out; omega) hnc h5) (by omega) (by omega) _, (heap_setRow_out hgb _).trans Hr4.out⟩
set_option maxRecDepth 10000 in
set_option maxHeartbeats 4000000 in
theorem atom_group_none (g : Nat) (l : Bs) (h1 : Lib.hasPrefix l [40, 63, 58] = false) (h3 : Lib.hasPrefix l [40] = true) (CE : NdC 140 g (Lib.trimPrefix l [40]) (none)) (W : World) (hr : RdrAt W g (b8 l)) : Calls Tryz.prog 118 #[.pointer (some ⟨g, 0, none⟩)] W (NdPost g (none) W) := by
  have Hr0 := Lib.hid hr
  have hgW := heap_lt hr
  have hK0 : Kept W (W.alloc (.cells #[.int .u8 0, .slice none 0 0, .int .i64 0, .int .i64 0, .bool false, .slice none 0 0] 25)) := (Below.refl _ W).alloc (Nat.le_refl _) _
  have h2 := heap_alloc_new W (.cells #[.int .u8 0, .slice none 0 0, .int .i64 0, .int .i64 0, .bool false, .slice none 0 0] 25)
  have Hr := Lib.hid (rdr_grow hr hK0)
  have Hg : Hid (W.grownBy (W.alloc (.cells #[.int .u8 0, .slice none 0 0, .int .i64 0, .int .i64 0, .bool false, .slice none 0 0] 25)) (some g)) := grown_of_kept hK0
  have H2 := Lib.hid h2
  have hgb : g ≠ W.heap.size := by omega
  clear hr h2 hK0
  go_enter Tryz.func118, Tryz.ntmps118
  go_wp2_with fail
  refine (take_b g l [40, 63, 58] false h1 _ Hr.out).mono ?_
  rintro e w1 ⟨rfl, hr1, hg1⟩
  rw [trim_no h1] at hr1
  replace Hr := Lib.hid hr1
  replace Hg : Hid (W.grownBy w1 (some g)) := grown_trans Hg.out hg1
  replace H2 := Lib.hid (grown_heap hg1 H2.out (by intro e9; cases e9; exact hgb rfl))
  clear hr1 hg1
  go_wp2_with fail
  refine (take_b g l [40] true h3 _ Hr.out).mono ?_
  rintro e w2 ⟨rfl, hr2, hg2⟩
  replace Hr := Lib.hid hr2
  replace Hg : Hid (W.grownBy w2 (some g)) := grown_trans Hg.out hg2
  replace H2 := Lib.hid (grown_heap hg2 H2.out (by intro e9; cases e9; exact hgb rfl))
  clear hr2 hg2
  go_wp2_with fail
  refine (CE _ Hr.out).mono ?_
  rintro e w3 hpost
  unfold NdPost at hpost
  obtain ⟨hg3, hpost⟩ := hpost
  obtain ⟨k, A1, sn, c1, mn, mx, lz, A2, un, c2, q, rfl, hr3⟩ := hpost
  replace Hr := Lib.hid hr3
  replace Hg : Hid (W.grownBy w3 (some g)) := grown_trans Hg.out hg3
  replace H2 := Lib.hid (grown_heap hg3 H2.out (by intro e9; cases e9; exact hgb rfl))
  unfold ndV
  dsimp only
  have hk4 : Kept w3 ((w3.alloc (.cells #[.int .u8 k, .slice A1 sn c1, .int .i64 mn, .int .i64 mx, .bool lz, .slice A2 un c2] 25)).alloc (.cells #[.int .u8 k, .slice A1 sn c1, .int .i64 mn, .int .i64 mx, .bool lz, .slice A2 un c2] 25)) := ((Below.refl _ w3).alloc (Nat.le_refl _) _).alloc (by simp) _
  have H24 := Lib.hid (heap_kept hk4 H2.out)
  have h5 : ((w3.alloc (.cells #[.int .u8 k, .slice A1 sn c1, .int .i64 mn, .int .i64 mx, .bool lz, .slice A2 un c2] 25)).alloc (.cells #[.int .u8 k, .slice A1 sn c1, .int .i64 mn, .int .i64 mx, .bool lz, .slice A2 un c2] 25)).heap[w3.heap.size + 1]? = some (.cells #[.int .u8 k, .slice A1 sn c1, .int .i64 mn, .int .i64 mx, .bool lz, .slice A2 un c2] 25 (0, 0)) := al_new _ _ (by simp)
  have Hr4 := Lib.hid (rdr_grow Hr.out hk4)
  have Hg4 : Hid (W.grownBy ((w3.alloc (.cells #[.int .u8 k, .slice A1 sn c1, .int .i64 mn, .int .i64 mx, .bool lz, .slice A2 un c2] 25)).alloc (.cells #[.int .u8 k, .slice A1 sn c1, .int .i64 mn, .int .i64 mx, .bool lz, .slice A2 un c2] 25)) (some g)) := grown_trans Hg.out (grown_of_kept hk4)
  go_wp2_with (first | ((refine wpList_store_row ?c0 25 (.tmp 2) (.tmp 23) ?c1 W.heap.size #[.int .u8 6, .slice none 0 0, .int .i64 0, .int .i64 0, .bool false, .slice (some ⟨w3.heap.size + 1, 0, none⟩) 1 1] ?c2 ?c3 _ _ H24.out ?c4 ?c5 ?c6 ?_); (case c0 => with_reducible rfl); (case c1 => with_reducible rfl); (case c2 => rfl); (case c3 => rfl); (case c4 => exact sizeNd); (case c5 => rfl); (case c6 => simp [Value.oneCell'])))
  refine bodyPost_ret (res_node Tryz.results118 _ _ W.heap.size #[.int .u8 6, .slice none 0 0, .int .i64 0, .int .i64 0, .bool false, .slice (some ⟨w3.heap.size + 1, 0, none⟩) 1 1] rfl rfl (setRow_heap _ _ _ _ _ _ H24.out)) rfl ?_
  unfold NdPost
  exact ⟨grown_setRow Hg4.out (Nat.le_refl _) _, 6, none, 0, 0, 0, 0, false, some ⟨w3.heap.size + 1, 0, none⟩, 1, 1, q, rfl, (heap_setRow_out hgb _).trans Hr4.out⟩
set_option maxRecDepth 10000 in
set_option maxHeartbeats 4000000 in
theorem atom_set_some (g : Nat) (l : Bs) (L : List Rng) (r : Bs) (hs : setP l = some (L, r)) (h1 : Lib.hasPrefix l [40, 63, 58] = false) (h3 : Lib.hasPrefix l [40] = false) (CS : ∀ W, RdrAt W g (b8 l) → Calls Tryz.prog 141 #[.pointer (some ⟨g, 0, none⟩)] W (SetPost g l W)) (W : World) (hr : RdrAt W g (b8 l)) : Calls Tryz.prog 118 #[.pointer (some ⟨g, 0, none⟩)] W (NdPost g (some (.mk 2 L 0 0 false [], r)) W) := by
  have Hr0 := Lib.hid hr
  have hgW := heap_lt hr
  have hK0 : Kept W (W.alloc (.cells #[.int .u8 0, .slice none 0 0, .int .i64 0, .int .i64 0, .bool false, .slice none 0 0] 25)) := (Below.refl _ W).alloc (Nat.le_refl _) _
  have h2 := heap_alloc_new W (.cells #[.int .u8 0, .slice none 0 0, .int .i64 0, .int .i64 0, .bool false, .slice none 0 0] 25)
  have Hr := Lib.hid (rdr_grow hr hK0)
  have Hg : Hid (W.grownBy (W.alloc (.cells #[.int .u8 0, .slice none 0 0, .int .i64 0, .int .i64 0, .bool false, .slice none 0 0] 25)) (some g)) := grown_of_kept hK0
  have H2 := Lib.hid h2
  have hgb : g ≠ W.heap.size := by omega
  clear hr h2 hK0
  go_enter Tryz.func118, Tryz.ntmps118
  go_wp2_with fail
  refine (take_b g l [40, 63, 58] false h1 _ Hr.out).mono ?_
  rintro e w1 ⟨rfl, hr1, hg1⟩
  rw [trim_no h1] at hr1
  replace Hr := Lib.hid hr1
  replace Hg : Hid (W.grownBy w1 (some g)) := grown_trans Hg.out hg1
  replace H2 := Lib.hid (grown_heap hg1 H2.out (by intro e9; cases e9; exact hgb rfl))
  clear hr1 hg1
  go_wp2_with fail
  refine (take_b g l [40] false h3 _ Hr.out).mono ?_
  rintro e w2 ⟨rfl, hr2, hg2⟩
  rw [trim_no h3] at hr2
  replace Hr := Lib.hid hr2
  replace Hg : Hid (W.grownBy w2 (some g)) := grown_trans Hg.out hg2
  replace H2 := Lib.hid (grown_heap hg2 H2.out (by intro e9; cases e9; exact hgb rfl))
  clear hr2 hg2
  go_wp2_with fail
  refine (CS _ Hr.out).mono ?_
  rintro e w3 hpost
  unfold SetPost at hpost
  rw [hs] at hpost
  obtain ⟨hg3, hpost⟩ := hpost
  obtain ⟨A, c, rfl, hL, hlen, hr3⟩ := hpost
  have HL := Lib.hid (hL.grow (b' := W.heap.size + 1) (by have := heap_lt H2.out; omega) (Nat.le_refl _) (fun _ _ _ => rfl))
  have Hlen := Lib.hid hlen
  replace Hr := Lib.hid hr3
  replace Hg : Hid (W.grownBy w3 (some g)) := grown_trans Hg.out hg3
  replace H2 := Lib.hid (grown_heap hg3 H2.out (by intro e9; cases e9; exact hgb rfl))
  clear hr3 hg3 hL hlen
  go_wp2_with (first | ((refine wpList_store_row ?c0 25 (.tmp 2) (.tmp 31) ?c1 W.heap.size #[.int .u8 2, .slice A L.length c, .int .i64 0, .int .i64 0, .bool false, .slice none 0 0] ?c2 ?c3 _ _ H2.out ?c4 ?c5 ?c6 ?_); (case c0 => with_reducible rfl); (case c1 => with_reducible rfl); (case c2 => rfl); (case c3 => rfl); (case c4 => exact sizeNd); (case c5 => rfl); (case c6 => simp [Value.oneCell'])))
  refine bodyPost_ret (res_node Tryz.results118 _ _ W.heap.size #[.int .u8 2, .slice A L.length c, .int .i64 0, .int .i64 0, .bool false, .slice none 0 0] rfl rfl (setRow_heap _ _ _ _ _ _ H2.out)) rfl ?_
  unfold NdPost
  exact ⟨grown_setRow Hg.out (Nat.le_refl _) _, 2, A, L.length, c, 0, 0, false, none, 0, 0, rfl, NodeM.set (set_mask Hlen.out HL.out) (by omega) (by omega) _, (heap_setRow_out hgb _).trans Hr.out⟩
set_option maxRecDepth 10000 in
set_option maxHeartbeats 4000000 in
theorem atom_set_none (g : Nat) (l : Bs) (hs : setP l = none) (h1 : Lib.hasPrefix l [40, 63, 58] = false) (h3 : Lib.hasPrefix l [40] = false) (CS : ∀ W, RdrAt W g (b8 l) → Calls Tryz.prog 141 #[.pointer (some ⟨g, 0, none⟩)] W (SetPost g l W)) (W : World) (hr : RdrAt W g (b8 l)) : Calls Tryz.prog 118 #[.pointer (some ⟨g, 0, none⟩)] W (NdPost g (none) W) := by
  have Hr0 := Lib.hid hr
  have hgW := heap_lt hr
  have hK0 : Kept W (W.alloc (.cells #[.int .u8 0, .slice none 0 0, .int .i64 0, .int .i64 0, .bool false, .slice none 0 0] 25)) := (Below.refl _ W).alloc (Nat.le_refl _) _
  have h2 := heap_alloc_new W (.cells #[.int .u8 0, .slice none 0 0, .int .i64 0, .int .i64 0, .bool false, .slice none 0 0] 25)
  have Hr := Lib.hid (rdr_grow hr hK0)
  have Hg : Hid (W.grownBy (W.alloc (.cells #[.int .u8 0, .slice none 0 0, .int .i64 0, .int .i64 0, .bool false, .slice none 0 0] 25)) (some g)) := grown_of_kept hK0
  have H2 := Lib.hid h2
  have hgb : g ≠ W.heap.size := by omega
  clear hr h2 hK0
  go_enter Tryz.func118, Tryz.ntmps118
  go_wp2_with fail
  refine (take_b g l [40, 63, 58] false h1 _ Hr.out).mono ?_
  rintro e w1 ⟨rfl, hr1, hg1⟩
  rw [trim_no h1] at hr1
  replace Hr := Lib.hid hr1
  replace Hg : Hid (W.grownBy w1 (some g)) := grown_trans Hg.out hg1
  replace H2 := Lib.hid (grown_heap hg1 H2.out (by intro e9; cases e9; exact hgb rfl))
  clear hr1 hg1
  go_wp2_with fail
  refine (take_b g l [40] false h3 _ Hr.out).mono ?_
  rintro e w2 ⟨rfl, hr2, hg2⟩
  rw [trim_no h3] at hr2
  replace Hr := Lib.hid hr2
  replace Hg : Hid (W.grownBy w2 (some g)) := grown_trans Hg.out hg2
  replace H2 := Lib.hid (grown_heap hg2 H2.out (by intro e9; cases e9; exact hgb rfl))
  clear hr2 hg2
  go_wp2_with fail
  refine (CS _ Hr.out).mono ?_
  rintro e w3 hpost
  unfold SetPost at hpost
  rw [hs] at hpost
  obtain ⟨hg3, hpost⟩ := hpost
  obtain ⟨A, n, c, q, rfl, hr3⟩ := hpost
  replace Hr := Lib.hid hr3
  replace Hg : Hid (W.grownBy w3 (some g)) := grown_trans Hg.out hg3
  replace H2 := Lib.hid (grown_heap hg3 H2.out (by intro e9; cases e9; exact hgb rfl))
  clear hr3 hg3
  go_wp2_with (first | ((refine wpList_store_row ?c0 25 (.tmp 2) (.tmp 31) ?c1 W.heap.size #[.int .u8 2, .slice A n c, .int .i64 0, .int .i64 0, .bool false, .slice none 0 0] ?c2 ?c3 _ _ H2.out ?c4 ?c5 ?c6 ?_); (case c0 => with_reducible rfl); (case c1 => with_reducible rfl); (case c2 => rfl); (case c3 => rfl); (case c4 => exact sizeNd); (case c5 => rfl); (case c6 => simp [Value.oneCell'])))
  refine bodyPost_ret (res_node Tryz.results118 _ _ W.heap.size #[.int .u8 2, .slice A n c, .int .i64 0, .int .i64 0, .bool false, .slice none 0 0] rfl rfl (setRow_heap _ _ _ _ _ _ H2.out)) rfl ?_
  unfold NdPost
  exact ⟨grown_setRow Hg.out (Nat.le_refl _) _, 2, A, n, c, 0, 0, false, none, 0, 0, q, rfl, (heap_setRow_out hgb _).trans Hr.out⟩
end Go.Proofs.YtmgkdmbifecekaaGreatDoor
