/-
 Package syntax: items.
-/
import Derived.Test.YtmgkdmbifecekaaGreatDoorSr7
set_option linter.all false
set_option linter.unusedSimpArgs false
set_option linter.unusedVariables false
set_option linter.unusedSectionVars false
namespace Go.Proofs.YtmgkdmbifecekaaGreatDoor
open Go.RowKit Go.Shelf
theorem grown_setCell_hi {W w : World} {r : Option Nat} {b : Nat} (h : W.grownBy w r) (hb : W.heap.size ≤ b) (i : Nat) (v : Value) : W.grownBy (w.setCell ⟨b, i, none⟩ v) r := by
 have hB := Below.setCell (p := ⟨b, i, none⟩) (Below.refl b w) (Nat.le_refl b) v
 exact ⟨hB.os.trans h.os, hB.tape.trans h.tape, hB.output.trans h.output, Nat.le_trans h.size hB.size, fun k hk hne => (hB.block k (by omega)).trans (h.block k hk hne)⟩
set_option maxRecDepth 10000 in
set_option maxHeartbeats 4000000 in
theorem item_none (g : Nat) (l : Bs) (CA : NdC 118 g l none) (W : World) (hr : RdrAt W g (b8 l)) : Calls Tryz.prog 95 #[.pointer (some ⟨g, 0, none⟩)] W (NdPost g (none) W) := by
 have hgW := heap_lt hr
 have hK0 : Kept W (W.alloc (.cells #[.int .u8 0, .slice none 0 0, .int .i64 0, .int .i64 0, .bool false, .slice none 0 0] 25)) := (Below.refl _ W).alloc (Nat.le_refl _) _
 have H2 := Lib.hid (heap_alloc_new W (.cells #[.int .u8 0, .slice none 0 0, .int .i64 0, .int .i64 0, .bool false, .slice none 0 0] 25))
 have Hr := Lib.hid (rdr_grow hr hK0)
 have Hg : Hid (W.grownBy (W.alloc (.cells #[.int .u8 0, .slice none 0 0, .int .i64 0, .int .i64 0, .bool false, .slice none 0 0] 25)) (some g)) := grown_of_kept hK0
 have hgb : g ≠ W.heap.size := by omega
 clear hr hK0
 go_enter Tryz.func95, Tryz.ntmps95
 go_wp2_with fail
 refine (CA _ Hr.out).mono ?_
 rintro e w1 hpost
 unfold NdPost at hpost
 obtain ⟨hg1, hpost⟩ := hpost
 obtain ⟨k, A1, sn, c1, mn, mx, lz, A2, un, c2, q, rfl, hr1⟩ := hpost
 replace Hr := Lib.hid hr1
 replace Hg : Hid (W.grownBy w1 (some g)) := grown_trans Hg.out hg1
 replace H2 := Lib.hid (grown_heap hg1 H2.out (by intro e9; cases e9; exact hgb rfl))
 clear hg1 hr1 CA
 unfold ndV
 dsimp only
 have hk4 : Kept w1 (w1.alloc (.cells #[.int .u8 k, .slice A1 sn c1, .int .i64 mn, .int .i64 mx, .bool lz, .slice A2 un c2] 25)) := (Below.refl _ w1).alloc (Nat.le_refl _) _
 have H2a := Lib.hid (heap_kept hk4 H2.out)
 have Hra := Lib.hid (rdr_grow Hr.out hk4)
 have Hga : Hid (W.grownBy (w1.alloc (.cells #[.int .u8 k, .slice A1 sn c1, .int .i64 mn, .int .i64 mx, .bool lz, .slice A2 un c2] 25)) (some g)) := grown_trans Hg.out (grown_of_kept hk4)
 go_wp2_with (first | ((refine wpList_store_row ?c0 25 (.tmp 2) (.tmp 14) ?c1 W.heap.size #[.int .u8 0, .slice none 0 0, .int .i64 0, .int .i64 0, .bool false, .slice none 0 0] ?c2 ?c3 _ _ H2a.out ?c4 ?c5 ?c6 ?_); (case c0 => with_reducible rfl); (case c1 => with_reducible rfl); (case c2 => rfl); (case c3 => rfl); (case c4 => exact sizeNd); (case c5 => rfl); (case c6 => simp [Value.oneCell'])))
 refine bodyPost_ret (res_node Tryz.results95 _ _ W.heap.size #[.int .u8 0, .slice none 0 0, .int .i64 0, .int .i64 0, .bool false, .slice none 0 0] rfl rfl (setRow_heap _ _ _ _ _ _ H2a.out)) rfl ?_
 unfold NdPost
 exact ⟨grown_setRow Hga.out (Nat.le_refl _) _, 0, none, 0, 0, 0, 0, false, none, 0, 0, q, rfl, (heap_setRow_out hgb _).trans Hra.out⟩
set_option maxRecDepth 10000 in
set_option maxHeartbeats 4000000 in
theorem item_star (g : Nat) (l : Bs) (t : Tree) (l1 : Bs) (CA : NdC 118 g l (some (t, l1))) (h42 : Lib.hasPrefix l1 [42] = true) (W : World) (hr : RdrAt W g (b8 l)) : Calls Tryz.prog 95 #[.pointer (some ⟨g, 0, none⟩)] W (NdPost g (some (.mk 5 [] 0 (-1) (Lib.hasPrefix (Lib.trimPrefix l1 [42]) [63]) [t], Lib.trimPrefix (Lib.trimPrefix l1 [42]) [63])) W) := by
 have hgW := heap_lt hr
 have hK0 : Kept W (W.alloc (.cells #[.int .u8 0, .slice none 0 0, .int .i64 0, .int .i64 0, .bool false, .slice none 0 0] 25)) := (Below.refl _ W).alloc (Nat.le_refl _) _
 have H2 := Lib.hid (heap_alloc_new W (.cells #[.int .u8 0, .slice none 0 0, .int .i64 0, .int .i64 0, .bool false, .slice none 0 0] 25))
 have Hr := Lib.hid (rdr_grow hr hK0)
 have Hg : Hid (W.grownBy (W.alloc (.cells #[.int .u8 0, .slice none 0 0, .int .i64 0, .int .i64 0, .bool false, .slice none 0 0] 25)) (some g)) := grown_of_kept hK0
 have hgb : g ≠ W.heap.size := by omega
 clear hr hK0
 go_enter Tryz.func95, Tryz.ntmps95
 go_wp2_with fail
 refine (CA _ Hr.out).mono ?_
 rintro e w1 hpost
 unfold NdPost at hpost
 obtain ⟨hg1, hpost⟩ := hpost
 obtain ⟨k, A1, sn, c1, mn, mx, lz, A2, un, c2, rfl, hn, hr1⟩ := hpost
 replace Hr := Lib.hid hr1
 have Hn := Lib.hid (hn.grow (b' := W.heap.size + 1) (by simp) (Nat.le_refl _) (fun _ _ _ => rfl))
 replace Hg : Hid (W.grownBy w1 (some g)) := grown_trans Hg.out hg1
 replace H2 := Lib.hid (grown_heap hg1 H2.out (by intro e9; cases e9; exact hgb rfl))
 clear hg1 hr1 CA hn
 unfold ndV
 dsimp only
 go_upto_region 6 with fail
 obtain ⟨w5, hw5⟩ : ∃ x, x = (((w1.alloc (.cells #[.int .u8 k, .slice A1 sn c1, .int .i64 mn, .int .i64 mx, .bool lz, .slice A2 un c2] 25)).alloc (.cells #[.int .u8 k, .slice A1 sn c1, .int .i64 mn, .int .i64 mx, .bool lz, .slice A2 un c2] 25)).alloc (.cells #[.int .u8 5, .slice none 0 0, .int .i64 0, .int .i64 0, .bool false, .slice (some ⟨w1.heap.size + 1, 0, none⟩) 1 1] 25)) := ⟨_, rfl⟩
 rw [← hw5]
 have hk5 : Kept w1 w5 := by rw [hw5]; exact (((Below.refl _ w1).alloc (Nat.le_refl _) _).alloc (by simp) _).alloc (by simp; omega) _
 have Hs : Hid (w5.heap[w1.heap.size + 1]? = some (.cells #[.int .u8 k, .slice A1 sn c1, .int .i64 mn, .int .i64 mx, .bool lz, .slice A2 un c2] 25 (0, 0))) := by rw [hw5]; exact al_old (al_new _ _ (by simp))
 have H4 : Hid (w5.heap[w1.heap.size]? = some (.cells #[.int .u8 k, .slice A1 sn c1, .int .i64 mn, .int .i64 mx, .bool lz, .slice A2 un c2] 25 (0, 0))) := by rw [hw5]; exact al_old (al_old (al_new _ _ rfl))
 have H6 : Hid (w5.heap[w1.heap.size + 1 + 1]? = some (.cells #[.int .u8 5, .slice none 0 0, .int .i64 0, .int .i64 0, .bool false, .slice (some ⟨w1.heap.size + 1, 0, none⟩) 1 1] 25 (0, 0))) := by rw [hw5]; exact al_new _ _ (by simp)
 have hg1w := heap_lt Hr.out
 have h2w := heap_lt H2.out
 replace Hr := Lib.hid (rdr_grow Hr.out hk5)
 replace H2 := Lib.hid (heap_kept hk5 H2.out)
 replace Hg : Hid (W.grownBy w5 (some g)) := grown_trans Hg.out (grown_of_kept hk5)
 have Gx : Hid (w1.grownBy w5 (some g)) := grown_of_kept hk5
 clear hw5 hk5
 obtain ⟨b4, hb4⟩ : ∃ b, b = w1.heap.size := ⟨_, rfl⟩
 obtain ⟨bs, hbs⟩ : ∃ b, b = w1.heap.size + 1 := ⟨_, rfl⟩
 obtain ⟨b6, hb6⟩ : ∃ b, b = w1.heap.size + 1 + 1 := ⟨_, rfl⟩
 rw [← hb6, ← hbs] at H6
 rw [← hbs] at Hs
 rw [← hb4] at H4
 rw [← hb6, ← hbs, ← hb4]
 have hs6 : b6 ≠ bs := by omega
 have h62 : b6 ≠ W.heap.size := by omega
 have h64 : b6 ≠ b4 := by omega
 have h6g : b6 ≠ g := by omega
 have hsg : bs ≠ g := by omega
 have h4g : b4 ≠ g := by omega
 have h6w : w1.heap.size ≤ b6 := by omega
 have h6W : W.heap.size ≤ b6 := by omega
 have hsW : W.heap.size + 1 ≤ bs := by omega
 clear hb4 hbs hb6
 go_wp2_with fail
 refine (take_b g l1 [42] true h42 _ Hr.out).mono ?_
 rintro e w10 ⟨rfl, hr10, hg10⟩
 replace Hr := Lib.hid hr10
 replace Hg : Hid (W.grownBy w10 (some g)) := grown_trans Hg.out hg10
 replace Gx : Hid (w1.grownBy w10 (some g)) := grown_trans Gx.out hg10
 replace H2 := Lib.hid (grown_heap hg10 H2.out (by intro e9; cases e9; exact hgb rfl))
 replace Hs := Lib.hid (grown_heap hg10 Hs.out (by intro e9; cases e9; exact (Ne.symm hsg) rfl))
 replace H4 := Lib.hid (grown_heap hg10 H4.out (by intro e9; cases e9; exact (Ne.symm h4g) rfl))
 replace H6 := Lib.hid (grown_heap hg10 H6.out (by intro e9; cases e9; exact (Ne.symm h6g) rfl))
 clear hr10 hg10
 have zfa : ∀ j, w10.frozen? ⟨b6, j, none⟩ = false := fun j => by simp [World.frozen?, show w10.heap[b6]? = _ from H6.out]
 have za3 := row_cells H6.out 3 _ rfl
 rw [add0] at za3
 have H6n : Hid ((w10.setCell ⟨b6, 3, none⟩ (.int .i64 (-1))).heap[b6]? = some (.cells #[.int .u8 5, .slice none 0 0, .int .i64 0, .int .i64 (-1), .bool false, .slice (some ⟨bs, 0, none⟩) 1 1] 25 (0, 0))) := (heap_setCell_same _ _ 3 _ _ _ H6.out)
 have H2n : Hid ((w10.setCell ⟨b6, 3, none⟩ (.int .i64 (-1))).heap[W.heap.size]? = some (.cells #[.int .u8 0, .slice none 0 0, .int .i64 0, .int .i64 0, .bool false, .slice none 0 0] 25 (0, 0))) := ((heap_set_out _ _ _ _ h62).trans H2.out)
 have Hsn : Hid ((w10.setCell ⟨b6, 3, none⟩ (.int .i64 (-1))).heap[bs]? = some (.cells #[.int .u8 k, .slice A1 sn c1, .int .i64 mn, .int .i64 mx, .bool lz, .slice A2 un c2] 25 (0, 0))) := ((heap_set_out _ _ _ _ hs6).trans Hs.out)
 have H4n : Hid ((w10.setCell ⟨b6, 3, none⟩ (.int .i64 (-1))).heap[b4]? = some (.cells #[.int .u8 k, .slice A1 sn c1, .int .i64 mn, .int .i64 mx, .bool lz, .slice A2 un c2] 25 (0, 0))) := ((heap_set_out _ _ _ _ h64).trans H4.out)
 have Hrn : Hid (RdrAt (w10.setCell ⟨b6, 3, none⟩ (.int .i64 (-1))) g (b8 (Lib.trimPrefix l1 [42]))) := ((heap_set_out _ _ _ _ h6g).trans Hr.out)
 have Hgn : Hid (W.grownBy (w10.setCell ⟨b6, 3, none⟩ (.int .i64 (-1))) (some g)) := (grown_setCell_hi Hg.out h6W _ _)
 have Gxn : Hid (w1.grownBy (w10.setCell ⟨b6, 3, none⟩ (.int .i64 (-1))) (some g)) := (grown_setCell_hi Gx.out h6w _ _)
 go_wp2_with fail
 refine (take_b g (Lib.trimPrefix l1 [42]) [63] (Lib.hasPrefix (Lib.trimPrefix l1 [42]) [63]) rfl _ Hrn.out).mono ?_
 rintro e w30 ⟨rfl, hr30, hg30⟩
 have hrZ := Lib.hid hr30
 have hgZ : Hid (W.grownBy w30 (some g)) := grown_trans Hgn.out hg30
 have gxZ : Hid (w1.grownBy w30 (some g)) := grown_trans Gxn.out hg30
 replace H2 := Lib.hid (grown_heap hg30 H2n.out (by intro e9; cases e9; exact hgb rfl))
 replace Hs := Lib.hid (grown_heap hg30 Hsn.out (by intro e9; cases e9; exact (Ne.symm hsg) rfl))
 replace H4 := Lib.hid (grown_heap hg30 H4n.out (by intro e9; cases e9; exact (Ne.symm h4g) rfl))
 replace H6 := Lib.hid (grown_heap hg30 H6n.out (by intro e9; cases e9; exact (Ne.symm h6g) rfl))
 clear hr30 hg30 H2n Hsn H4n H6n Hrn Hgn Gxn Hr Hg Gx zfa za3
 have Hr := hrZ
 have Hg := hgZ
 have Gx := gxZ
 clear hrZ hgZ gxZ
 obtain ⟨lb, hlb⟩ : ∃ b, b = Lib.hasPrefix (Lib.trimPrefix l1 [42]) [63] := ⟨_, rfl⟩
 have Hlb := Lib.hid hlb
 rw [← hlb]
 clear hlb
 have zfb : ∀ j, w30.frozen? ⟨b6, j, none⟩ = false := fun j => by simp [World.frozen?, show w30.heap[b6]? = _ from H6.out]
 have zb4 := row_cells H6.out 4 _ rfl
 rw [add0] at zb4
 have H6n : Hid ((w30.setCell ⟨b6, 4, none⟩ (.bool lb)).heap[b6]? = some (.cells #[.int .u8 5, .slice none 0 0, .int .i64 0, .int .i64 (-1), .bool lb, .slice (some ⟨bs, 0, none⟩) 1 1] 25 (0, 0))) := (heap_setCell_same _ _ 4 _ _ _ H6.out)
 have H2n : Hid ((w30.setCell ⟨b6, 4, none⟩ (.bool lb)).heap[W.heap.size]? = some (.cells #[.int .u8 0, .slice none 0 0, .int .i64 0, .int .i64 0, .bool false, .slice none 0 0] 25 (0, 0))) := ((heap_set_out _ _ _ _ h62).trans H2.out)
 have Hsn : Hid ((w30.setCell ⟨b6, 4, none⟩ (.bool lb)).heap[bs]? = some (.cells #[.int .u8 k, .slice A1 sn c1, .int .i64 mn, .int .i64 mx, .bool lz, .slice A2 un c2] 25 (0, 0))) := ((heap_set_out _ _ _ _ hs6).trans Hs.out)
 have H4n : Hid ((w30.setCell ⟨b6, 4, none⟩ (.bool lb)).heap[b4]? = some (.cells #[.int .u8 k, .slice A1 sn c1, .int .i64 mn, .int .i64 mx, .bool lz, .slice A2 un c2] 25 (0, 0))) := ((heap_set_out _ _ _ _ h64).trans H4.out)
 have Hrn : Hid (RdrAt (w30.setCell ⟨b6, 4, none⟩ (.bool lb)) g (b8 (Lib.trimPrefix (Lib.trimPrefix l1 [42]) [63]))) := ((heap_set_out _ _ _ _ h6g).trans Hr.out)
 have Hgn : Hid (W.grownBy (w30.setCell ⟨b6, 4, none⟩ (.bool lb)) (some g)) := (grown_setCell_hi Hg.out h6W _ _)
 have Gxn : Hid (w1.grownBy (w30.setCell ⟨b6, 4, none⟩ (.bool lb)) (some g)) := (grown_setCell_hi Gx.out h6w _ _)
 go_wp2_with (first | ((refine wpList_load_row ?c0 25 (.tmp 6) ?c1 b6 ?c2 25 #[.int .u8 5, .slice none 0 0, .int .i64 0, .int .i64 (-1), .bool lb, .slice (some ⟨bs, 0, none⟩) 1 1] (0, 0) _ H6n.out Tryz.underlying25 ?c3 sizeNd ?_); (case c0 => with_reducible rfl); (case c1 => with_reducible rfl); (case c2 => rfl); (case c3 => rfl)) | ((refine wpList_store_row ?c0 25 (.tmp 2) (.tmp 46) ?c1 W.heap.size #[.int .u8 5, .slice none 0 0, .int .i64 0, .int .i64 (-1), .bool lb, .slice (some ⟨bs, 0, none⟩) 1 1] ?c2 ?c3 _ _ H2n.out ?c4 ?c5 ?c6 ?_); (case c0 => with_reducible rfl); (case c1 => with_reducible rfl); (case c2 => rfl); (case c3 => rfl); (case c4 => exact sizeNd); (case c5 => rfl); (case c6 => simp [Value.oneCell'])))
 refine bodyPost_ret (res_node Tryz.results95 _ _ W.heap.size #[.int .u8 5, .slice none 0 0, .int .i64 0, .int .i64 (-1), .bool lb, .slice (some ⟨bs, 0, none⟩) 1 1] rfl rfl (setRow_heap _ _ _ _ _ _ H2n.out)) rfl ?_
 unfold NdPost
 obtain ⟨cs, hcs, hnc⟩ := NodeM.grown Hn.out (Nat.le_refl _) Gxn.out (by omega)
 have hcs2 : cs = [.int .u8 k, .slice A1 sn c1, .int .i64 mn, .int .i64 mx, .bool lz, .slice A2 un c2] := by
  have := congrArg (fun v => match v with | Value.agg a => a.toList | _ => []) hcs
  simpa using this.symm
 subst hcs2
 have hlb := Hlb.out
 exact ⟨grown_setRow Hgn.out (Nat.le_refl _) _, 5, none, 0, 0, 0, (-1), lb, some ⟨bs, 0, none⟩, 1, 1, rfl, by rw [← hlb]; exact NodeM.set (one_mask (b := W.heap.size + 1) hsW hnc Hsn.out) (by omega) (by omega) _, (heap_setRow_out hgb _).trans Hrn.out⟩
set_option maxRecDepth 10000 in
set_option maxHeartbeats 4000000 in
theorem item_plus (g : Nat) (l : Bs) (t : Tree) (l1 : Bs) (CA : NdC 118 g l (some (t, l1))) (h42 : Lib.hasPrefix l1 [42] = false) (h43 : Lib.hasPrefix l1 [43] = true) (W : World) (hr : RdrAt W g (b8 l)) : Calls Tryz.prog 95 #[.pointer (some ⟨g, 0, none⟩)] W (NdPost g (some (.mk 5 [] 1 (-1) (Lib.hasPrefix (Lib.trimPrefix l1 [43]) [63]) [t], Lib.trimPrefix (Lib.trimPrefix l1 [43]) [63])) W) := by
 have hgW := heap_lt hr
 have hK0 : Kept W (W.alloc (.cells #[.int .u8 0, .slice none 0 0, .int .i64 0, .int .i64 0, .bool false, .slice none 0 0] 25)) := (Below.refl _ W).alloc (Nat.le_refl _) _
 have H2 := Lib.hid (heap_alloc_new W (.cells #[.int .u8 0, .slice none 0 0, .int .i64 0, .int .i64 0, .bool false, .slice none 0 0] 25))
 have Hr := Lib.hid (rdr_grow hr hK0)
 have Hg : Hid (W.grownBy (W.alloc (.cells #[.int .u8 0, .slice none 0 0, .int .i64 0, .int .i64 0, .bool false, .slice none 0 0] 25)) (some g)) := grown_of_kept hK0
 have hgb : g ≠ W.heap.size := by omega
 clear hr hK0
 go_enter Tryz.func95, Tryz.ntmps95
 go_wp2_with fail
 refine (CA _ Hr.out).mono ?_
 rintro e w1 hpost
 unfold NdPost at hpost
 obtain ⟨hg1, hpost⟩ := hpost
 obtain ⟨k, A1, sn, c1, mn, mx, lz, A2, un, c2, rfl, hn, hr1⟩ := hpost
 replace Hr := Lib.hid hr1
 have Hn := Lib.hid (hn.grow (b' := W.heap.size + 1) (by simp) (Nat.le_refl _) (fun _ _ _ => rfl))
 replace Hg : Hid (W.grownBy w1 (some g)) := grown_trans Hg.out hg1
 replace H2 := Lib.hid (grown_heap hg1 H2.out (by intro e9; cases e9; exact hgb rfl))
 clear hg1 hr1 CA hn
 unfold ndV
 dsimp only
 go_upto_region 6 with fail
 obtain ⟨w5, hw5⟩ : ∃ x, x = (((w1.alloc (.cells #[.int .u8 k, .slice A1 sn c1, .int .i64 mn, .int .i64 mx, .bool lz, .slice A2 un c2] 25)).alloc (.cells #[.int .u8 k, .slice A1 sn c1, .int .i64 mn, .int .i64 mx, .bool lz, .slice A2 un c2] 25)).alloc (.cells #[.int .u8 5, .slice none 0 0, .int .i64 0, .int .i64 0, .bool false, .slice (some ⟨w1.heap.size + 1, 0, none⟩) 1 1] 25)) := ⟨_, rfl⟩
 rw [← hw5]
 have hk5 : Kept w1 w5 := by rw [hw5]; exact (((Below.refl _ w1).alloc (Nat.le_refl _) _).alloc (by simp) _).alloc (by simp; omega) _
 have Hs : Hid (w5.heap[w1.heap.size + 1]? = some (.cells #[.int .u8 k, .slice A1 sn c1, .int .i64 mn, .int .i64 mx, .bool lz, .slice A2 un c2] 25 (0, 0))) := by rw [hw5]; exact al_old (al_new _ _ (by simp))
 have H4 : Hid (w5.heap[w1.heap.size]? = some (.cells #[.int .u8 k, .slice A1 sn c1, .int .i64 mn, .int .i64 mx, .bool lz, .slice A2 un c2] 25 (0, 0))) := by rw [hw5]; exact al_old (al_old (al_new _ _ rfl))
 have H6 : Hid (w5.heap[w1.heap.size + 1 + 1]? = some (.cells #[.int .u8 5, .slice none 0 0, .int .i64 0, .int .i64 0, .bool false, .slice (some ⟨w1.heap.size + 1, 0, none⟩) 1 1] 25 (0, 0))) := by rw [hw5]; exact al_new _ _ (by simp)
 have hg1w := heap_lt Hr.out
 have h2w := heap_lt H2.out
 replace Hr := Lib.hid (rdr_grow Hr.out hk5)
 replace H2 := Lib.hid (heap_kept hk5 H2.out)
 replace Hg : Hid (W.grownBy w5 (some g)) := grown_trans Hg.out (grown_of_kept hk5)
 have Gx : Hid (w1.grownBy w5 (some g)) := grown_of_kept hk5
 clear hw5 hk5
 obtain ⟨b4, hb4⟩ : ∃ b, b = w1.heap.size := ⟨_, rfl⟩
 obtain ⟨bs, hbs⟩ : ∃ b, b = w1.heap.size + 1 := ⟨_, rfl⟩
 obtain ⟨b6, hb6⟩ : ∃ b, b = w1.heap.size + 1 + 1 := ⟨_, rfl⟩
 rw [← hb6, ← hbs] at H6
 rw [← hbs] at Hs
 rw [← hb4] at H4
 rw [← hb6, ← hbs, ← hb4]
 have hs6 : b6 ≠ bs := by omega
 have h62 : b6 ≠ W.heap.size := by omega
 have h64 : b6 ≠ b4 := by omega
 have h6g : b6 ≠ g := by omega
 have hsg : bs ≠ g := by omega
 have h4g : b4 ≠ g := by omega
 have h6w : w1.heap.size ≤ b6 := by omega
 have h6W : W.heap.size ≤ b6 := by omega
 have hsW : W.heap.size + 1 ≤ bs := by omega
 clear hb4 hbs hb6
 go_wp2_with fail
 refine (take_b g l1 [42] false h42 _ Hr.out).mono ?_
 rintro e w10 ⟨rfl, hr10, hg10⟩
 rw [trim_no h42] at hr10
 replace Hr := Lib.hid hr10
 replace Hg : Hid (W.grownBy w10 (some g)) := grown_trans Hg.out hg10
 replace Gx : Hid (w1.grownBy w10 (some g)) := grown_trans Gx.out hg10
 replace H2 := Lib.hid (grown_heap hg10 H2.out (by intro e9; cases e9; exact hgb rfl))
 replace Hs := Lib.hid (grown_heap hg10 Hs.out (by intro e9; cases e9; exact (Ne.symm hsg) rfl))
 replace H4 := Lib.hid (grown_heap hg10 H4.out (by intro e9; cases e9; exact (Ne.symm h4g) rfl))
 replace H6 := Lib.hid (grown_heap hg10 H6.out (by intro e9; cases e9; exact (Ne.symm h6g) rfl))
 clear hr10 hg10
 go_wp2_with fail
 refine (take_b g l1 [43] true h43 _ Hr.out).mono ?_
 rintro e w11 ⟨rfl, hr11, hg11⟩
 replace Hr := Lib.hid hr11
 replace Hg : Hid (W.grownBy w11 (some g)) := grown_trans Hg.out hg11
 replace Gx : Hid (w1.grownBy w11 (some g)) := grown_trans Gx.out hg11
 replace H2 := Lib.hid (grown_heap hg11 H2.out (by intro e9; cases e9; exact hgb rfl))
 replace Hs := Lib.hid (grown_heap hg11 Hs.out (by intro e9; cases e9; exact (Ne.symm hsg) rfl))
 replace H4 := Lib.hid (grown_heap hg11 H4.out (by intro e9; cases e9; exact (Ne.symm h4g) rfl))
 replace H6 := Lib.hid (grown_heap hg11 H6.out (by intro e9; cases e9; exact (Ne.symm h6g) rfl))
 clear hr11 hg11
 have zfa : ∀ j, w11.frozen? ⟨b6, j, none⟩ = false := fun j => by simp [World.frozen?, show w11.heap[b6]? = _ from H6.out]
 have za2 := row_cells H6.out 2 _ rfl
 rw [add0] at za2
 have za3 := row_cells H6.out 3 _ rfl
 rw [add0] at za3
 have H6n : Hid (((w11.setCell ⟨b6, 2, none⟩ (.int .i64 1)).setCell ⟨b6, 3, none⟩ (.int .i64 (-1))).heap[b6]? = some (.cells #[.int .u8 5, .slice none 0 0, .int .i64 1, .int .i64 (-1), .bool false, .slice (some ⟨bs, 0, none⟩) 1 1] 25 (0, 0))) := (heap_setCell_same _ _ 3 _ _ _ (heap_setCell_same _ _ 2 _ _ _ H6.out))
 have H2n : Hid (((w11.setCell ⟨b6, 2, none⟩ (.int .i64 1)).setCell ⟨b6, 3, none⟩ (.int .i64 (-1))).heap[W.heap.size]? = some (.cells #[.int .u8 0, .slice none 0 0, .int .i64 0, .int .i64 0, .bool false, .slice none 0 0] 25 (0, 0))) := ((heap_set_out _ _ _ _ h62).trans ((heap_set_out _ _ _ _ h62).trans H2.out))
 have Hsn : Hid (((w11.setCell ⟨b6, 2, none⟩ (.int .i64 1)).setCell ⟨b6, 3, none⟩ (.int .i64 (-1))).heap[bs]? = some (.cells #[.int .u8 k, .slice A1 sn c1, .int .i64 mn, .int .i64 mx, .bool lz, .slice A2 un c2] 25 (0, 0))) := ((heap_set_out _ _ _ _ hs6).trans ((heap_set_out _ _ _ _ hs6).trans Hs.out))
 have H4n : Hid (((w11.setCell ⟨b6, 2, none⟩ (.int .i64 1)).setCell ⟨b6, 3, none⟩ (.int .i64 (-1))).heap[b4]? = some (.cells #[.int .u8 k, .slice A1 sn c1, .int .i64 mn, .int .i64 mx, .bool lz, .slice A2 un c2] 25 (0, 0))) := ((heap_set_out _ _ _ _ h64).trans ((heap_set_out _ _ _ _ h64).trans H4.out))
 have Hrn : Hid (RdrAt ((w11.setCell ⟨b6, 2, none⟩ (.int .i64 1)).setCell ⟨b6, 3, none⟩ (.int .i64 (-1))) g (b8 (Lib.trimPrefix l1 [43]))) := ((heap_set_out _ _ _ _ h6g).trans ((heap_set_out _ _ _ _ h6g).trans Hr.out))
 have Hgn : Hid (W.grownBy ((w11.setCell ⟨b6, 2, none⟩ (.int .i64 1)).setCell ⟨b6, 3, none⟩ (.int .i64 (-1))) (some g)) := (grown_setCell_hi (grown_setCell_hi Hg.out h6W _ _) h6W _ _)
 have Gxn : Hid (w1.grownBy ((w11.setCell ⟨b6, 2, none⟩ (.int .i64 1)).setCell ⟨b6, 3, none⟩ (.int .i64 (-1))) (some g)) := (grown_setCell_hi (grown_setCell_hi Gx.out h6w _ _) h6w _ _)
 go_wp2_with fail
 refine (take_b g (Lib.trimPrefix l1 [43]) [63] (Lib.hasPrefix (Lib.trimPrefix l1 [43]) [63]) rfl _ Hrn.out).mono ?_
 rintro e w30 ⟨rfl, hr30, hg30⟩
 have hrZ := Lib.hid hr30
 have hgZ : Hid (W.grownBy w30 (some g)) := grown_trans Hgn.out hg30
 have gxZ : Hid (w1.grownBy w30 (some g)) := grown_trans Gxn.out hg30
 replace H2 := Lib.hid (grown_heap hg30 H2n.out (by intro e9; cases e9; exact hgb rfl))
 replace Hs := Lib.hid (grown_heap hg30 Hsn.out (by intro e9; cases e9; exact (Ne.symm hsg) rfl))
 replace H4 := Lib.hid (grown_heap hg30 H4n.out (by intro e9; cases e9; exact (Ne.symm h4g) rfl))
 replace H6 := Lib.hid (grown_heap hg30 H6n.out (by intro e9; cases e9; exact (Ne.symm h6g) rfl))
 clear hr30 hg30 H2n Hsn H4n H6n Hrn Hgn Gxn Hr Hg Gx zfa za2 za3
 have Hr := hrZ
 have Hg := hgZ
 have Gx := gxZ
 clear hrZ hgZ gxZ
 obtain ⟨lb, hlb⟩ : ∃ b, b = Lib.hasPrefix (Lib.trimPrefix l1 [43]) [63] := ⟨_, rfl⟩
 have Hlb := Lib.hid hlb
 rw [← hlb]
 clear hlb
 have zfb : ∀ j, w30.frozen? ⟨b6, j, none⟩ = false := fun j => by simp [World.frozen?, show w30.heap[b6]? = _ from H6.out]
 have zb4 := row_cells H6.out 4 _ rfl
 rw [add0] at zb4
 have H6n : Hid ((w30.setCell ⟨b6, 4, none⟩ (.bool lb)).heap[b6]? = some (.cells #[.int .u8 5, .slice none 0 0, .int .i64 1, .int .i64 (-1), .bool lb, .slice (some ⟨bs, 0, none⟩) 1 1] 25 (0, 0))) := (heap_setCell_same _ _ 4 _ _ _ H6.out)
 have H2n : Hid ((w30.setCell ⟨b6, 4, none⟩ (.bool lb)).heap[W.heap.size]? = some (.cells #[.int .u8 0, .slice none 0 0, .int .i64 0, .int .i64 0, .bool false, .slice none 0 0] 25 (0, 0))) := ((heap_set_out _ _ _ _ h62).trans H2.out)
 have Hsn : Hid ((w30.setCell ⟨b6, 4, none⟩ (.bool lb)).heap[bs]? = some (.cells #[.int .u8 k, .slice A1 sn c1, .int .i64 mn, .int .i64 mx, .bool lz, .slice A2 un c2] 25 (0, 0))) := ((heap_set_out _ _ _ _ hs6).trans Hs.out)
 have H4n : Hid ((w30.setCell ⟨b6, 4, none⟩ (.bool lb)).heap[b4]? = some (.cells #[.int .u8 k, .slice A1 sn c1, .int .i64 mn, .int .i64 mx, .bool lz, .slice A2 un c2] 25 (0, 0))) := ((heap_set_out _ _ _ _ h64).trans H4.out)
 have Hrn : Hid (RdrAt (w30.setCell ⟨b6, 4, none⟩ (.bool lb)) g (b8 (Lib.trimPrefix (Lib.trimPrefix l1 [43]) [63]))) := ((heap_set_out _ _ _ _ h6g).trans Hr.out)
 have Hgn : Hid (W.grownBy (w30.setCell ⟨b6, 4, none⟩ (.bool lb)) (some g)) := (grown_setCell_hi Hg.out h6W _ _)
 have Gxn : Hid (w1.grownBy (w30.setCell ⟨b6, 4, none⟩ (.bool lb)) (some g)) := (grown_setCell_hi Gx.out h6w _ _)
 go_wp2_with (first | ((refine wpList_load_row ?c0 25 (.tmp 6) ?c1 b6 ?c2 25 #[.int .u8 5, .slice none 0 0, .int .i64 1, .int .i64 (-1), .bool lb, .slice (some ⟨bs, 0, none⟩) 1 1] (0, 0) _ H6n.out Tryz.underlying25 ?c3 sizeNd ?_); (case c0 => with_reducible rfl); (case c1 => with_reducible rfl); (case c2 => rfl); (case c3 => rfl)) | ((refine wpList_store_row ?c0 25 (.tmp 2) (.tmp 46) ?c1 W.heap.size #[.int .u8 5, .slice none 0 0, .int .i64 1, .int .i64 (-1), .bool lb, .slice (some ⟨bs, 0, none⟩) 1 1] ?c2 ?c3 _ _ H2n.out ?c4 ?c5 ?c6 ?_); (case c0 => with_reducible rfl); (case c1 => with_reducible rfl); (case c2 => rfl); (case c3 => rfl); (case c4 => exact sizeNd); (case c5 => rfl); (case c6 => simp [Value.oneCell'])))
 refine bodyPost_ret (res_node Tryz.results95 _ _ W.heap.size #[.int .u8 5, .slice none 0 0, .int .i64 1, .int .i64 (-1), .bool lb, .slice (some ⟨bs, 0, none⟩) 1 1] rfl rfl (setRow_heap _ _ _ _ _ _ H2n.out)) rfl ?_
 unfold NdPost
 obtain ⟨cs, hcs, hnc⟩ := NodeM.grown Hn.out (Nat.le_refl _) Gxn.out (by omega)
 have hcs2 : cs = [.int .u8 k, .slice A1 sn c1, .int .i64 mn, .int .i64 mx, .bool lz, .slice A2 un c2] := by
  have := congrArg (fun v => match v with | Value.agg a => a.toList | _ => []) hcs
  simpa using this.symm
 subst hcs2
 have hlb := Hlb.out
 exact ⟨grown_setRow Hgn.out (Nat.le_refl _) _, 5, none, 0, 0, 1, (-1), lb, some ⟨bs, 0, none⟩, 1, 1, rfl, by rw [← hlb]; exact NodeM.set (one_mask (b := W.heap.size + 1) hsW hnc Hsn.out) (by omega) (by omega) _, (heap_setRow_out hgb _).trans Hrn.out⟩
set_option maxRecDepth 10000 in
set_option maxHeartbeats 4000000 in
theorem item_ques (g : Nat) (l : Bs) (t : Tree) (l1 : Bs) (CA : NdC 118 g l (some (t, l1))) (h42 : Lib.hasPrefix l1 [42] = false) (h43 : Lib.hasPrefix l1 [43] = false) (h63 : Lib.hasPrefix l1 [63] = true) (W : World) (hr : RdrAt W g (b8 l)) : Calls Tryz.prog 95 #[.pointer (some ⟨g, 0, none⟩)] W (NdPost g (some (.mk 5 [] 0 1 (Lib.hasPrefix (Lib.trimPrefix l1 [63]) [63]) [t], Lib.trimPrefix (Lib.trimPrefix l1 [63]) [63])) W) := by
 have hgW := heap_lt hr
 have hK0 : Kept W (W.alloc (.cells #[.int .u8 0, .slice none 0 0, .int .i64 0, .int .i64 0, .bool false, .slice none 0 0] 25)) := (Below.refl _ W).alloc (Nat.le_refl _) _
 have H2 := Lib.hid (heap_alloc_new W (.cells #[.int .u8 0, .slice none 0 0, .int .i64 0, .int .i64 0, .bool false, .slice none 0 0] 25))
 have Hr := Lib.hid (rdr_grow hr hK0)
 have Hg : Hid (W.grownBy (W.alloc (.cells #[.int .u8 0, .slice none 0 0, .int .i64 0, .int .i64 0, .bool false, .slice none 0 0] 25)) (some g)) := grown_of_kept hK0
 have hgb : g ≠ W.heap.size := by omega
 clear hr hK0
 go_enter Tryz.func95, Tryz.ntmps95
 go_wp2_with fail
 refine (CA _ Hr.out).mono ?_
 rintro e w1 hpost
 unfold NdPost at hpost
 obtain ⟨hg1, hpost⟩ := hpost
 obtain ⟨k, A1, sn, c1, mn, mx, lz, A2, un, c2, rfl, hn, hr1⟩ := hpost
 replace Hr := Lib.hid hr1
 have Hn := Lib.hid (hn.grow (b' := W.heap.size + 1) (by simp) (Nat.le_refl _) (fun _ _ _ => rfl))
 replace Hg : Hid (W.grownBy w1 (some g)) := grown_trans Hg.out hg1
 replace H2 := Lib.hid (grown_heap hg1 H2.out (by intro e9; cases e9; exact hgb rfl))
 clear hg1 hr1 CA hn
 unfold ndV
 dsimp only
 go_upto_region 6 with fail
 obtain ⟨w5, hw5⟩ : ∃ x, x = (((w1.alloc (.cells #[.int .u8 k, .slice A1 sn c1, .int .i64 mn, .int .i64 mx, .bool lz, .slice A2 un c2] 25)).alloc (.cells #[.int .u8 k, .slice A1 sn c1, .int .i64 mn, .int .i64 mx, .bool lz, .slice A2 un c2] 25)).alloc (.cells #[.int .u8 5, .slice none 0 0, .int .i64 0, .int .i64 0, .bool false, .slice (some ⟨w1.heap.size + 1, 0, none⟩) 1 1] 25)) := ⟨_, rfl⟩
 rw [← hw5]
 have hk5 : Kept w1 w5 := by rw [hw5]; exact (((Below.refl _ w1).alloc (Nat.le_refl _) _).alloc (by simp) _).alloc (by simp; omega) _
 have Hs : Hid (w5.heap[w1.heap.size + 1]? = some (.cells #[.int .u8 k, .slice A1 sn c1, .int .i64 mn, .int .i64 mx, .bool lz, .slice A2 un c2] 25 (0, 0))) := by rw [hw5]; exact al_old (al_new _ _ (by simp))
 have H4 : Hid (w5.heap[w1.heap.size]? = some (.cells #[.int .u8 k, .slice A1 sn c1, .int .i64 mn, .int .i64 mx, .bool lz, .slice A2 un c2] 25 (0, 0))) := by rw [hw5]; exact al_old (al_old (al_new _ _ rfl))
 have H6 : Hid (w5.heap[w1.heap.size + 1 + 1]? = some (.cells #[.int .u8 5, .slice none 0 0, .int .i64 0, .int .i64 0, .bool false, .slice (some ⟨w1.heap.size + 1, 0, none⟩) 1 1] 25 (0, 0))) := by rw [hw5]; exact al_new _ _ (by simp)
 have hg1w := heap_lt Hr.out
 have h2w := heap_lt H2.out
 replace Hr := Lib.hid (rdr_grow Hr.out hk5)
 replace H2 := Lib.hid (heap_kept hk5 H2.out)
 replace Hg : Hid (W.grownBy w5 (some g)) := grown_trans Hg.out (grown_of_kept hk5)
 have Gx : Hid (w1.grownBy w5 (some g)) := grown_of_kept hk5
 clear hw5 hk5
 obtain ⟨b4, hb4⟩ : ∃ b, b = w1.heap.size := ⟨_, rfl⟩
 obtain ⟨bs, hbs⟩ : ∃ b, b = w1.heap.size + 1 := ⟨_, rfl⟩
 obtain ⟨b6, hb6⟩ : ∃ b, b = w1.heap.size + 1 + 1 := ⟨_, rfl⟩
 rw [← hb6, ← hbs] at H6
 rw [← hbs] at Hs
 rw [← hb4] at H4
 rw [← hb6, ← hbs, ← hb4]
 have hs6 : b6 ≠ bs := by omega
 have h62 : b6 ≠ W.heap.size := by omega
 have h64 : b6 ≠ b4 := by omega
 have h6g : b6 ≠ g := by omega
 have hsg : bs ≠ g := by omega
 have h4g : b4 ≠ g := by omega
 have h6w : w1.heap.size ≤ b6 := by omega
 have h6W : W.heap.size ≤ b6 := by omega
 have hsW : W.heap.size + 1 ≤ bs := by omega
 clear hb4 hbs hb6
 go_wp2_with fail
 refine (take_b g l1 [42] false h42 _ Hr.out).mono ?_
 rintro e w10 ⟨rfl, hr10, hg10⟩
 rw [trim_no h42] at hr10
 replace Hr := Lib.hid hr10
 replace Hg : Hid (W.grownBy w10 (some g)) := grown_trans Hg.out hg10
 replace Gx : Hid (w1.grownBy w10 (some g)) := grown_trans Gx.out hg10
 replace H2 := Lib.hid (grown_heap hg10 H2.out (by intro e9; cases e9; exact hgb rfl))
 replace Hs := Lib.hid (grown_heap hg10 Hs.out (by intro e9; cases e9; exact (Ne.symm hsg) rfl))
 replace H4 := Lib.hid (grown_heap hg10 H4.out (by intro e9; cases e9; exact (Ne.symm h4g) rfl))
 replace H6 := Lib.hid (grown_heap hg10 H6.out (by intro e9; cases e9; exact (Ne.symm h6g) rfl))
 clear hr10 hg10
 go_wp2_with fail
 refine (take_b g l1 [43] false h43 _ Hr.out).mono ?_
 rintro e w11 ⟨rfl, hr11, hg11⟩
 rw [trim_no h43] at hr11
 replace Hr := Lib.hid hr11
 replace Hg : Hid (W.grownBy w11 (some g)) := grown_trans Hg.out hg11
 replace Gx : Hid (w1.grownBy w11 (some g)) := grown_trans Gx.out hg11
 replace H2 := Lib.hid (grown_heap hg11 H2.out (by intro e9; cases e9; exact hgb rfl))
 replace Hs := Lib.hid (grown_heap hg11 Hs.out (by intro e9; cases e9; exact (Ne.symm hsg) rfl))
 replace H4 := Lib.hid (grown_heap hg11 H4.out (by intro e9; cases e9; exact (Ne.symm h4g) rfl))
 replace H6 := Lib.hid (grown_heap hg11 H6.out (by intro e9; cases e9; exact (Ne.symm h6g) rfl))
 clear hr11 hg11
 go_wp2_with fail
 refine (take_b g l1 [63] true h63 _ Hr.out).mono ?_
 rintro e w12 ⟨rfl, hr12, hg12⟩
 replace Hr := Lib.hid hr12
 replace Hg : Hid (W.grownBy w12 (some g)) := grown_trans Hg.out hg12
 replace Gx : Hid (w1.grownBy w12 (some g)) := grown_trans Gx.out hg12
 replace H2 := Lib.hid (grown_heap hg12 H2.out (by intro e9; cases e9; exact hgb rfl))
 replace Hs := Lib.hid (grown_heap hg12 Hs.out (by intro e9; cases e9; exact (Ne.symm hsg) rfl))
 replace H4 := Lib.hid (grown_heap hg12 H4.out (by intro e9; cases e9; exact (Ne.symm h4g) rfl))
 replace H6 := Lib.hid (grown_heap hg12 H6.out (by intro e9; cases e9; exact (Ne.symm h6g) rfl))
 clear hr12 hg12
 have zfa : ∀ j, w12.frozen? ⟨b6, j, none⟩ = false := fun j => by simp [World.frozen?, show w12.heap[b6]? = _ from H6.out]
 have za3 := row_cells H6.out 3 _ rfl
 rw [add0] at za3
 have H6n : Hid ((w12.setCell ⟨b6, 3, none⟩ (.int .i64 1)).heap[b6]? = some (.cells #[.int .u8 5, .slice none 0 0, .int .i64 0, .int .i64 1, .bool false, .slice (some ⟨bs, 0, none⟩) 1 1] 25 (0, 0))) := (heap_setCell_same _ _ 3 _ _ _ H6.out)
 have H2n : Hid ((w12.setCell ⟨b6, 3, none⟩ (.int .i64 1)).heap[W.heap.size]? = some (.cells #[.int .u8 0, .slice none 0 0, .int .i64 0, .int .i64 0, .bool false, .slice none 0 0] 25 (0, 0))) := ((heap_set_out _ _ _ _ h62).trans H2.out)
 have Hsn : Hid ((w12.setCell ⟨b6, 3, none⟩ (.int .i64 1)).heap[bs]? = some (.cells #[.int .u8 k, .slice A1 sn c1, .int .i64 mn, .int .i64 mx, .bool lz, .slice A2 un c2] 25 (0, 0))) := ((heap_set_out _ _ _ _ hs6).trans Hs.out)
 have H4n : Hid ((w12.setCell ⟨b6, 3, none⟩ (.int .i64 1)).heap[b4]? = some (.cells #[.int .u8 k, .slice A1 sn c1, .int .i64 mn, .int .i64 mx, .bool lz, .slice A2 un c2] 25 (0, 0))) := ((heap_set_out _ _ _ _ h64).trans H4.out)
 have Hrn : Hid (RdrAt (w12.setCell ⟨b6, 3, none⟩ (.int .i64 1)) g (b8 (Lib.trimPrefix l1 [63]))) := ((heap_set_out _ _ _ _ h6g).trans Hr.out)
 have Hgn : Hid (W.grownBy (w12.setCell ⟨b6, 3, none⟩ (.int .i64 1)) (some g)) := (grown_setCell_hi Hg.out h6W _ _)
 have Gxn : Hid (w1.grownBy (w12.setCell ⟨b6, 3, none⟩ (.int .i64 1)) (some g)) := (grown_setCell_hi Gx.out h6w _ _)
 go_wp2_with fail
 refine (take_b g (Lib.trimPrefix l1 [63]) [63] (Lib.hasPrefix (Lib.trimPrefix l1 [63]) [63]) rfl _ Hrn.out).mono ?_
 rintro e w30 ⟨rfl, hr30, hg30⟩
 have hrZ := Lib.hid hr30
 have hgZ : Hid (W.grownBy w30 (some g)) := grown_trans Hgn.out hg30
 have gxZ : Hid (w1.grownBy w30 (some g)) := grown_trans Gxn.out hg30
 replace H2 := Lib.hid (grown_heap hg30 H2n.out (by intro e9; cases e9; exact hgb rfl))
 replace Hs := Lib.hid (grown_heap hg30 Hsn.out (by intro e9; cases e9; exact (Ne.symm hsg) rfl))
 replace H4 := Lib.hid (grown_heap hg30 H4n.out (by intro e9; cases e9; exact (Ne.symm h4g) rfl))
 replace H6 := Lib.hid (grown_heap hg30 H6n.out (by intro e9; cases e9; exact (Ne.symm h6g) rfl))
 clear hr30 hg30 H2n Hsn H4n H6n Hrn Hgn Gxn Hr Hg Gx zfa za3
 have Hr := hrZ
 have Hg := hgZ
 have Gx := gxZ
 clear hrZ hgZ gxZ
 obtain ⟨lb, hlb⟩ : ∃ b, b = Lib.hasPrefix (Lib.trimPrefix l1 [63]) [63] := ⟨_, rfl⟩
 have Hlb := Lib.hid hlb
 rw [← hlb]
 clear hlb
 have zfb : ∀ j, w30.frozen? ⟨b6, j, none⟩ = false := fun j => by simp [World.frozen?, show w30.heap[b6]? = _ from H6.out]
 have zb4 := row_cells H6.out 4 _ rfl
 rw [add0] at zb4
 have H6n : Hid ((w30.setCell ⟨b6, 4, none⟩ (.bool lb)).heap[b6]? = some (.cells #[.int .u8 5, .slice none 0 0, .int .i64 0, .int .i64 1, .bool lb, .slice (some ⟨bs, 0, none⟩) 1 1] 25 (0, 0))) := (heap_setCell_same _ _ 4 _ _ _ H6.out)
 have H2n : Hid ((w30.setCell ⟨b6, 4, none⟩ (.bool lb)).heap[W.heap.size]? = some (.cells #[.int .u8 0, .slice none 0 0, .int .i64 0, .int .i64 0, .bool false, .slice none 0 0] 25 (0, 0))) := ((heap_set_out _ _ _ _ h62).trans H2.out)
 have Hsn : Hid ((w30.setCell ⟨b6, 4, none⟩ (.bool lb)).heap[bs]? = some (.cells #[.int .u8 k, .slice A1 sn c1, .int .i64 mn, .int .i64 mx, .bool lz, .slice A2 un c2] 25 (0, 0))) := ((heap_set_out _ _ _ _ hs6).trans Hs.out)
 have H4n : Hid ((w30.setCell ⟨b6, 4, none⟩ (.bool lb)).heap[b4]? = some (.cells #[.int .u8 k, .slice A1 sn c1, .int .i64 mn, .int .i64 mx, .bool lz, .slice A2 un c2] 25 (0, 0))) := ((heap_set_out _ _ _ _ h64).trans H4.out)
 have Hrn : Hid (RdrAt (w30.setCell ⟨b6, 4, none⟩ (.bool lb)) g (b8 (Lib.trimPrefix (Lib.trimPrefix l1 [63]) [63]))) := ((heap_set_out _ _ _ _ h6g).trans Hr.out)
 have Hgn : Hid (W.grownBy (w30.setCell ⟨b6, 4, none⟩ (.bool lb)) (some g)) := (grown_setCell_hi Hg.out h6W _ _)
 have Gxn : Hid (w1.grownBy (w30.setCell ⟨b6, 4, none⟩ (.bool lb)) (some g)) := (grown_setCell_hi Gx.out h6w _ _)
 go_wp2_with (first | ((refine wpList_load_row ?c0 25 (.tmp 6) ?c1 b6 ?c2 25 #[.int .u8 5, .slice none 0 0, .int .i64 0, .int .i64 1, .bool lb, .slice (some ⟨bs, 0, none⟩) 1 1] (0, 0) _ H6n.out Tryz.underlying25 ?c3 sizeNd ?_); (case c0 => with_reducible rfl); (case c1 => with_reducible rfl); (case c2 => rfl); (case c3 => rfl)) | ((refine wpList_store_row ?c0 25 (.tmp 2) (.tmp 46) ?c1 W.heap.size #[.int .u8 5, .slice none 0 0, .int .i64 0, .int .i64 1, .bool lb, .slice (some ⟨bs, 0, none⟩) 1 1] ?c2 ?c3 _ _ H2n.out ?c4 ?c5 ?c6 ?_); (case c0 => with_reducible rfl); (case c1 => with_reducible rfl); (case c2 => rfl); (case c3 => rfl); (case c4 => exact sizeNd); (case c5 => rfl); (case c6 => simp [Value.oneCell'])))
 refine bodyPost_ret (res_node Tryz.results95 _ _ W.heap.size #[.int .u8 5, .slice none 0 0, .int .i64 0, .int .i64 1, .bool lb, .slice (some ⟨bs, 0, none⟩) 1 1] rfl rfl (setRow_heap _ _ _ _ _ _ H2n.out)) rfl ?_
 unfold NdPost
 obtain ⟨cs, hcs, hnc⟩ := NodeM.grown Hn.out (Nat.le_refl _) Gxn.out (by omega)
 have hcs2 : cs = [.int .u8 k, .slice A1 sn c1, .int .i64 mn, .int .i64 mx, .bool lz, .slice A2 un c2] := by
  have := congrArg (fun v => match v with | Value.agg a => a.toList | _ => []) hcs
  simpa using this.symm
 subst hcs2
 have hlb := Hlb.out
 exact ⟨grown_setRow Hgn.out (Nat.le_refl _) _, 5, none, 0, 0, 0, 1, lb, some ⟨bs, 0, none⟩, 1, 1, rfl, by rw [← hlb]; exact NodeM.set (one_mask (b := W.heap.size + 1) hsW hnc Hsn.out) (by omega) (by omega) _, (heap_setRow_out hgb _).trans Hrn.out⟩
set_option maxRecDepth 10000 in
set_option maxHeartbeats 4000000 in
theorem item_brace (g : Nat) (l : Bs) (t : Tree) (l1 : Bs) (CA : NdC 118 g l (some (t, l1))) (h42 : Lib.hasPrefix l1 [42] = false) (h43 : Lib.hasPrefix l1 [43] = false) (h63 : Lib.hasPrefix l1 [63] = false) (h123 : Lib.hasPrefix l1 [123] = true) (CB : ∀ W, RdrAt W g (b8 (Lib.trimPrefix l1 [123])) → Calls Tryz.prog 119 #[.pointer (some ⟨g, 0, none⟩)] W (BrPost g (Lib.trimPrefix l1 [123]) W)) (a b : Int) (r : Bs) (hbr : brcP (Lib.trimPrefix l1 [123]) = some (a, b, r)) (W : World) (hr : RdrAt W g (b8 l)) : Calls Tryz.prog 95 #[.pointer (some ⟨g, 0, none⟩)] W (NdPost g (some (.mk 5 [] a b (Lib.hasPrefix r [63]) [t], Lib.trimPrefix r [63])) W) := by
 have hgW := heap_lt hr
 have hK0 : Kept W (W.alloc (.cells #[.int .u8 0, .slice none 0 0, .int .i64 0, .int .i64 0, .bool false, .slice none 0 0] 25)) := (Below.refl _ W).alloc (Nat.le_refl _) _
 have H2 := Lib.hid (heap_alloc_new W (.cells #[.int .u8 0, .slice none 0 0, .int .i64 0, .int .i64 0, .bool false, .slice none 0 0] 25))
 have Hr := Lib.hid (rdr_grow hr hK0)
 have Hg : Hid (W.grownBy (W.alloc (.cells #[.int .u8 0, .slice none 0 0, .int .i64 0, .int .i64 0, .bool false, .slice none 0 0] 25)) (some g)) := grown_of_kept hK0
 have hgb : g ≠ W.heap.size := by omega
 clear hr hK0
 go_enter Tryz.func95, Tryz.ntmps95
 go_wp2_with fail
 refine (CA _ Hr.out).mono ?_
 rintro e w1 hpost
 unfold NdPost at hpost
 obtain ⟨hg1, hpost⟩ := hpost
 obtain ⟨k, A1, sn, c1, mn, mx, lz, A2, un, c2, rfl, hn, hr1⟩ := hpost
 replace Hr := Lib.hid hr1
 have Hn := Lib.hid (hn.grow (b' := W.heap.size + 1) (by simp) (Nat.le_refl _) (fun _ _ _ => rfl))
 replace Hg : Hid (W.grownBy w1 (some g)) := grown_trans Hg.out hg1
 replace H2 := Lib.hid (grown_heap hg1 H2.out (by intro e9; cases e9; exact hgb rfl))
 clear hg1 hr1 CA hn
 unfold ndV
 dsimp only
 go_upto_region 6 with fail
 obtain ⟨w5, hw5⟩ : ∃ x, x = (((w1.alloc (.cells #[.int .u8 k, .slice A1 sn c1, .int .i64 mn, .int .i64 mx, .bool lz, .slice A2 un c2] 25)).alloc (.cells #[.int .u8 k, .slice A1 sn c1, .int .i64 mn, .int .i64 mx, .bool lz, .slice A2 un c2] 25)).alloc (.cells #[.int .u8 5, .slice none 0 0, .int .i64 0, .int .i64 0, .bool false, .slice (some ⟨w1.heap.size + 1, 0, none⟩) 1 1] 25)) := ⟨_, rfl⟩
 rw [← hw5]
 have hk5 : Kept w1 w5 := by rw [hw5]; exact (((Below.refl _ w1).alloc (Nat.le_refl _) _).alloc (by simp) _).alloc (by simp; omega) _
 have Hs : Hid (w5.heap[w1.heap.size + 1]? = some (.cells #[.int .u8 k, .slice A1 sn c1, .int .i64 mn, .int .i64 mx, .bool lz, .slice A2 un c2] 25 (0, 0))) := by rw [hw5]; exact al_old (al_new _ _ (by simp))
 have H4 : Hid (w5.heap[w1.heap.size]? = some (.cells #[.int .u8 k, .slice A1 sn c1, .int .i64 mn, .int .i64 mx, .bool lz, .slice A2 un c2] 25 (0, 0))) := by rw [hw5]; exact al_old (al_old (al_new _ _ rfl))
 have H6 : Hid (w5.heap[w1.heap.size + 1 + 1]? = some (.cells #[.int .u8 5, .slice none 0 0, .int .i64 0, .int .i64 0, .bool false, .slice (some ⟨w1.heap.size + 1, 0, none⟩) 1 1] 25 (0, 0))) := by rw [hw5]; exact al_new _ _ (by simp)
 have hg1w := heap_lt Hr.out
 have h2w := heap_lt H2.out
 replace Hr := Lib.hid (rdr_grow Hr.out hk5)
 replace H2 := Lib.hid (heap_kept hk5 H2.out)
 replace Hg : Hid (W.grownBy w5 (some g)) := grown_trans Hg.out (grown_of_kept hk5)
 have Gx : Hid (w1.grownBy w5 (some g)) := grown_of_kept hk5
 clear hw5 hk5
 obtain ⟨b4, hb4⟩ : ∃ b, b = w1.heap.size := ⟨_, rfl⟩
 obtain ⟨bs, hbs⟩ : ∃ b, b = w1.heap.size + 1 := ⟨_, rfl⟩
 obtain ⟨b6, hb6⟩ : ∃ b, b = w1.heap.size + 1 + 1 := ⟨_, rfl⟩
 rw [← hb6, ← hbs] at H6
 rw [← hbs] at Hs
 rw [← hb4] at H4
 rw [← hb6, ← hbs, ← hb4]
 have hs6 : b6 ≠ bs := by omega
 have h62 : b6 ≠ W.heap.size := by omega
 have h64 : b6 ≠ b4 := by omega
 have h6g : b6 ≠ g := by omega
 have hsg : bs ≠ g := by omega
 have h4g : b4 ≠ g := by omega
 have h6w : w1.heap.size ≤ b6 := by omega
 have h6W : W.heap.size ≤ b6 := by omega
 have hsW : W.heap.size + 1 ≤ bs := by omega
 clear hb4 hbs hb6
 go_wp2_with fail
 refine (take_b g l1 [42] false h42 _ Hr.out).mono ?_
 rintro e w10 ⟨rfl, hr10, hg10⟩
 rw [trim_no h42] at hr10
 replace Hr := Lib.hid hr10
 replace Hg : Hid (W.grownBy w10 (some g)) := grown_trans Hg.out hg10
 replace Gx : Hid (w1.grownBy w10 (some g)) := grown_trans Gx.out hg10
 replace H2 := Lib.hid (grown_heap hg10 H2.out (by intro e9; cases e9; exact hgb rfl))
 replace Hs := Lib.hid (grown_heap hg10 Hs.out (by intro e9; cases e9; exact (Ne.symm hsg) rfl))
 replace H4 := Lib.hid (grown_heap hg10 H4.out (by intro e9; cases e9; exact (Ne.symm h4g) rfl))
 replace H6 := Lib.hid (grown_heap hg10 H6.out (by intro e9; cases e9; exact (Ne.symm h6g) rfl))
 clear hr10 hg10
 go_wp2_with fail
 refine (take_b g l1 [43] false h43 _ Hr.out).mono ?_
 rintro e w11 ⟨rfl, hr11, hg11⟩
 rw [trim_no h43] at hr11
 replace Hr := Lib.hid hr11
 replace Hg : Hid (W.grownBy w11 (some g)) := grown_trans Hg.out hg11
 replace Gx : Hid (w1.grownBy w11 (some g)) := grown_trans Gx.out hg11
 replace H2 := Lib.hid (grown_heap hg11 H2.out (by intro e9; cases e9; exact hgb rfl))
 replace Hs := Lib.hid (grown_heap hg11 Hs.out (by intro e9; cases e9; exact (Ne.symm hsg) rfl))
 replace H4 := Lib.hid (grown_heap hg11 H4.out (by intro e9; cases e9; exact (Ne.symm h4g) rfl))
 replace H6 := Lib.hid (grown_heap hg11 H6.out (by intro e9; cases e9; exact (Ne.symm h6g) rfl))
 clear hr11 hg11
 go_wp2_with fail
 refine (take_b g l1 [63] false h63 _ Hr.out).mono ?_
 rintro e w12 ⟨rfl, hr12, hg12⟩
 rw [trim_no h63] at hr12
 replace Hr := Lib.hid hr12
 replace Hg : Hid (W.grownBy w12 (some g)) := grown_trans Hg.out hg12
 replace Gx : Hid (w1.grownBy w12 (some g)) := grown_trans Gx.out hg12
 replace H2 := Lib.hid (grown_heap hg12 H2.out (by intro e9; cases e9; exact hgb rfl))
 replace Hs := Lib.hid (grown_heap hg12 Hs.out (by intro e9; cases e9; exact (Ne.symm hsg) rfl))
 replace H4 := Lib.hid (grown_heap hg12 H4.out (by intro e9; cases e9; exact (Ne.symm h4g) rfl))
 replace H6 := Lib.hid (grown_heap hg12 H6.out (by intro e9; cases e9; exact (Ne.symm h6g) rfl))
 clear hr12 hg12
 go_wp2_with fail
 refine (take_b g l1 [123] true h123 _ Hr.out).mono ?_
 rintro e w13 ⟨rfl, hr13, hg13⟩
 replace Hr := Lib.hid hr13
 replace Hg : Hid (W.grownBy w13 (some g)) := grown_trans Hg.out hg13
 replace Gx : Hid (w1.grownBy w13 (some g)) := grown_trans Gx.out hg13
 replace H2 := Lib.hid (grown_heap hg13 H2.out (by intro e9; cases e9; exact hgb rfl))
 replace Hs := Lib.hid (grown_heap hg13 Hs.out (by intro e9; cases e9; exact (Ne.symm hsg) rfl))
 replace H4 := Lib.hid (grown_heap hg13 H4.out (by intro e9; cases e9; exact (Ne.symm h4g) rfl))
 replace H6 := Lib.hid (grown_heap hg13 H6.out (by intro e9; cases e9; exact (Ne.symm h6g) rfl))
 clear hr13 hg13
 go_wp2_with fail
 refine (CB _ Hr.out).mono ?_
 rintro e w20 hbp
 unfold BrPost at hbp
 rw [hbr] at hbp
 obtain ⟨hg20, hbp⟩ := hbp
 obtain ⟨rfl, hr20⟩ := hbp
 replace Hr := Lib.hid hr20
 replace Hg : Hid (W.grownBy w20 (some g)) := grown_trans Hg.out hg20
 replace Gx : Hid (w1.grownBy w20 (some g)) := grown_trans Gx.out hg20
 replace H2 := Lib.hid (grown_heap hg20 H2.out (by intro e9; cases e9; exact hgb rfl))
 replace Hs := Lib.hid (grown_heap hg20 Hs.out (by intro e9; cases e9; exact (Ne.symm hsg) rfl))
 replace H4 := Lib.hid (grown_heap hg20 H4.out (by intro e9; cases e9; exact (Ne.symm h4g) rfl))
 replace H6 := Lib.hid (grown_heap hg20 H6.out (by intro e9; cases e9; exact (Ne.symm h6g) rfl))
 clear hr20 hg20
 have zfa : ∀ j, w20.frozen? ⟨b6, j, none⟩ = false := fun j => by simp [World.frozen?, show w20.heap[b6]? = _ from H6.out]
 have za2 := row_cells H6.out 2 _ rfl
 rw [add0] at za2
 have za3 := row_cells H6.out 3 _ rfl
 rw [add0] at za3
 have H6n : Hid (((w20.setCell ⟨b6, 2, none⟩ (.int .i64 a)).setCell ⟨b6, 3, none⟩ (.int .i64 b)).heap[b6]? = some (.cells #[.int .u8 5, .slice none 0 0, .int .i64 a, .int .i64 b, .bool false, .slice (some ⟨bs, 0, none⟩) 1 1] 25 (0, 0))) := (heap_setCell_same _ _ 3 _ _ _ (heap_setCell_same _ _ 2 _ _ _ H6.out))
 have H2n : Hid (((w20.setCell ⟨b6, 2, none⟩ (.int .i64 a)).setCell ⟨b6, 3, none⟩ (.int .i64 b)).heap[W.heap.size]? = some (.cells #[.int .u8 0, .slice none 0 0, .int .i64 0, .int .i64 0, .bool false, .slice none 0 0] 25 (0, 0))) := ((heap_set_out _ _ _ _ h62).trans ((heap_set_out _ _ _ _ h62).trans H2.out))
 have Hsn : Hid (((w20.setCell ⟨b6, 2, none⟩ (.int .i64 a)).setCell ⟨b6, 3, none⟩ (.int .i64 b)).heap[bs]? = some (.cells #[.int .u8 k, .slice A1 sn c1, .int .i64 mn, .int .i64 mx, .bool lz, .slice A2 un c2] 25 (0, 0))) := ((heap_set_out _ _ _ _ hs6).trans ((heap_set_out _ _ _ _ hs6).trans Hs.out))
 have H4n : Hid (((w20.setCell ⟨b6, 2, none⟩ (.int .i64 a)).setCell ⟨b6, 3, none⟩ (.int .i64 b)).heap[b4]? = some (.cells #[.int .u8 k, .slice A1 sn c1, .int .i64 mn, .int .i64 mx, .bool lz, .slice A2 un c2] 25 (0, 0))) := ((heap_set_out _ _ _ _ h64).trans ((heap_set_out _ _ _ _ h64).trans H4.out))
 have Hrn : Hid (RdrAt ((w20.setCell ⟨b6, 2, none⟩ (.int .i64 a)).setCell ⟨b6, 3, none⟩ (.int .i64 b)) g (b8 r)) := ((heap_set_out _ _ _ _ h6g).trans ((heap_set_out _ _ _ _ h6g).trans Hr.out))
 have Hgn : Hid (W.grownBy ((w20.setCell ⟨b6, 2, none⟩ (.int .i64 a)).setCell ⟨b6, 3, none⟩ (.int .i64 b)) (some g)) := (grown_setCell_hi (grown_setCell_hi Hg.out h6W _ _) h6W _ _)
 have Gxn : Hid (w1.grownBy ((w20.setCell ⟨b6, 2, none⟩ (.int .i64 a)).setCell ⟨b6, 3, none⟩ (.int .i64 b)) (some g)) := (grown_setCell_hi (grown_setCell_hi Gx.out h6w _ _) h6w _ _)
 go_wp2_with fail
 refine (take_b g r [63] (Lib.hasPrefix r [63]) rfl _ Hrn.out).mono ?_
 rintro e w30 ⟨rfl, hr30, hg30⟩
 have hrZ := Lib.hid hr30
 have hgZ : Hid (W.grownBy w30 (some g)) := grown_trans Hgn.out hg30
 have gxZ : Hid (w1.grownBy w30 (some g)) := grown_trans Gxn.out hg30
 replace H2 := Lib.hid (grown_heap hg30 H2n.out (by intro e9; cases e9; exact hgb rfl))
 replace Hs := Lib.hid (grown_heap hg30 Hsn.out (by intro e9; cases e9; exact (Ne.symm hsg) rfl))
 replace H4 := Lib.hid (grown_heap hg30 H4n.out (by intro e9; cases e9; exact (Ne.symm h4g) rfl))
 replace H6 := Lib.hid (grown_heap hg30 H6n.out (by intro e9; cases e9; exact (Ne.symm h6g) rfl))
 clear hr30 hg30 H2n Hsn H4n H6n Hrn Hgn Gxn Hr Hg Gx zfa za2 za3
 have Hr := hrZ
 have Hg := hgZ
 have Gx := gxZ
 clear hrZ hgZ gxZ
 obtain ⟨lb, hlb⟩ : ∃ b, b = Lib.hasPrefix r [63] := ⟨_, rfl⟩
 have Hlb := Lib.hid hlb
 rw [← hlb]
 clear hlb
 have zfb : ∀ j, w30.frozen? ⟨b6, j, none⟩ = false := fun j => by simp [World.frozen?, show w30.heap[b6]? = _ from H6.out]
 have zb4 := row_cells H6.out 4 _ rfl
 rw [add0] at zb4
 have H6n : Hid ((w30.setCell ⟨b6, 4, none⟩ (.bool lb)).heap[b6]? = some (.cells #[.int .u8 5, .slice none 0 0, .int .i64 a, .int .i64 b, .bool lb, .slice (some ⟨bs, 0, none⟩) 1 1] 25 (0, 0))) := (heap_setCell_same _ _ 4 _ _ _ H6.out)
 have H2n : Hid ((w30.setCell ⟨b6, 4, none⟩ (.bool lb)).heap[W.heap.size]? = some (.cells #[.int .u8 0, .slice none 0 0, .int .i64 0, .int .i64 0, .bool false, .slice none 0 0] 25 (0, 0))) := ((heap_set_out _ _ _ _ h62).trans H2.out)
 have Hsn : Hid ((w30.setCell ⟨b6, 4, none⟩ (.bool lb)).heap[bs]? = some (.cells #[.int .u8 k, .slice A1 sn c1, .int .i64 mn, .int .i64 mx, .bool lz, .slice A2 un c2] 25 (0, 0))) := ((heap_set_out _ _ _ _ hs6).trans Hs.out)
 have H4n : Hid ((w30.setCell ⟨b6, 4, none⟩ (.bool lb)).heap[b4]? = some (.cells #[.int .u8 k, .slice A1 sn c1, .int .i64 mn, .int .i64 mx, .bool lz, .slice A2 un c2] 25 (0, 0))) := ((heap_set_out _ _ _ _ h64).trans H4.out)
 have Hrn : Hid (RdrAt (w30.setCell ⟨b6, 4, none⟩ (.bool lb)) g (b8 (Lib.trimPrefix r [63]))) := ((heap_set_out _ _ _ _ h6g).trans Hr.out)
 have Hgn : Hid (W.grownBy (w30.setCell ⟨b6, 4, none⟩ (.bool lb)) (some g)) := (grown_setCell_hi Hg.out h6W _ _)
 have Gxn : Hid (w1.grownBy (w30.setCell ⟨b6, 4, none⟩ (.bool lb)) (some g)) := (grown_setCell_hi Gx.out h6w _ _)
 go_wp2_with (first | ((refine wpList_load_row ?c0 25 (.tmp 6) ?c1 b6 ?c2 25 #[.int .u8 5, .slice none 0 0, .int .i64 a, .int .i64 b, .bool lb, .slice (some ⟨bs, 0, none⟩) 1 1] (0, 0) _ H6n.out Tryz.underlying25 ?c3 sizeNd ?_); (case c0 => with_reducible rfl); (case c1 => with_reducible rfl); (case c2 => rfl); (case c3 => rfl)) | ((refine wpList_store_row ?c0 25 (.tmp 2) (.tmp 46) ?c1 W.heap.size #[.int .u8 5, .slice none 0 0, .int .i64 a, .int .i64 b, .bool lb, .slice (some ⟨bs, 0, none⟩) 1 1] ?c2 ?c3 _ _ H2n.out ?c4 ?c5 ?c6 ?_); (case c0 => with_reducible rfl); (case c1 => with_reducible rfl); (case c2 => rfl); (case c3 => rfl); (case c4 => exact sizeNd); (case c5 => rfl); (case c6 => simp [Value.oneCell'])))
 refine bodyPost_ret (res_node Tryz.results95 _ _ W.heap.size #[.int .u8 5, .slice none 0 0, .int .i64 a, .int .i64 b, .bool lb, .slice (some ⟨bs, 0, none⟩) 1 1] rfl rfl (setRow_heap _ _ _ _ _ _ H2n.out)) rfl ?_
 unfold NdPost
 obtain ⟨cs, hcs, hnc⟩ := NodeM.grown Hn.out (Nat.le_refl _) Gxn.out (by omega)
 have hcs2 : cs = [.int .u8 k, .slice A1 sn c1, .int .i64 mn, .int .i64 mx, .bool lz, .slice A2 un c2] := by
  have := congrArg (fun v => match v with | Value.agg a => a.toList | _ => []) hcs
  simpa using this.symm
 subst hcs2
 have hlb := Hlb.out
 exact ⟨grown_setRow Hgn.out (Nat.le_refl _) _, 5, none, 0, 0, a, b, lb, some ⟨bs, 0, none⟩, 1, 1, rfl, by rw [← hlb]; exact NodeM.set (one_mask (b := W.heap.size + 1) hsW hnc Hsn.out) (by omega) (by omega) _, (heap_setRow_out hgb _).trans Hrn.out⟩
set_option maxRecDepth 10000 in
set_option maxHeartbeats 4000000 in
theorem item_nobrace (g : Nat) (l : Bs) (t : Tree) (l1 : Bs) (CA : NdC 118 g l (some (t, l1))) (h42 : Lib.hasPrefix l1 [42] = false) (h43 : Lib.hasPrefix l1 [43] = false) (h63 : Lib.hasPrefix l1 [63] = false) (h123 : Lib.hasPrefix l1 [123] = true) (CB : ∀ W, RdrAt W g (b8 (Lib.trimPrefix l1 [123])) → Calls Tryz.prog 119 #[.pointer (some ⟨g, 0, none⟩)] W (BrPost g (Lib.trimPrefix l1 [123]) W)) (hbr : brcP (Lib.trimPrefix l1 [123]) = none) (W : World) (hr : RdrAt W g (b8 l)) : Calls Tryz.prog 95 #[.pointer (some ⟨g, 0, none⟩)] W (NdPost g (none) W) := by
 have hgW := heap_lt hr
 have hK0 : Kept W (W.alloc (.cells #[.int .u8 0, .slice none 0 0, .int .i64 0, .int .i64 0, .bool false, .slice none 0 0] 25)) := (Below.refl _ W).alloc (Nat.le_refl _) _
 have H2 := Lib.hid (heap_alloc_new W (.cells #[.int .u8 0, .slice none 0 0, .int .i64 0, .int .i64 0, .bool false, .slice none 0 0] 25))
 have Hr := Lib.hid (rdr_grow hr hK0)
 have Hg : Hid (W.grownBy (W.alloc (.cells #[.int .u8 0, .slice none 0 0, .int .i64 0, .int .i64 0, .bool false, .slice none 0 0] 25)) (some g)) := grown_of_kept hK0
 have hgb : g ≠ W.heap.size := by omega
 clear hr hK0
 go_enter Tryz.func95, Tryz.ntmps95
 go_wp2_with fail
 refine (CA _ Hr.out).mono ?_
 rintro e w1 hpost
 unfold NdPost at hpost
 obtain ⟨hg1, hpost⟩ := hpost
 obtain ⟨k, A1, sn, c1, mn, mx, lz, A2, un, c2, rfl, hn, hr1⟩ := hpost
 replace Hr := Lib.hid hr1
 have Hn := Lib.hid (hn.grow (b' := W.heap.size + 1) (by simp) (Nat.le_refl _) (fun _ _ _ => rfl))
 replace Hg : Hid (W.grownBy w1 (some g)) := grown_trans Hg.out hg1
 replace H2 := Lib.hid (grown_heap hg1 H2.out (by intro e9; cases e9; exact hgb rfl))
 clear hg1 hr1 CA hn
 unfold ndV
 dsimp only
 go_upto_region 6 with fail
 obtain ⟨w5, hw5⟩ : ∃ x, x = (((w1.alloc (.cells #[.int .u8 k, .slice A1 sn c1, .int .i64 mn, .int .i64 mx, .bool lz, .slice A2 un c2] 25)).alloc (.cells #[.int .u8 k, .slice A1 sn c1, .int .i64 mn, .int .i64 mx, .bool lz, .slice A2 un c2] 25)).alloc (.cells #[.int .u8 5, .slice none 0 0, .int .i64 0, .int .i64 0, .bool false, .slice (some ⟨w1.heap.size + 1, 0, none⟩) 1 1] 25)) := ⟨_, rfl⟩
 rw [← hw5]
 have hk5 : Kept w1 w5 := by rw [hw5]; exact (((Below.refl _ w1).alloc (Nat.le_refl _) _).alloc (by simp) _).alloc (by simp; omega) _
 have Hs : Hid (w5.heap[w1.heap.size + 1]? = some (.cells #[.int .u8 k, .slice A1 sn c1, .int .i64 mn, .int .i64 mx, .bool lz, .slice A2 un c2] 25 (0, 0))) := by rw [hw5]; exact al_old (al_new _ _ (by simp))
 have H4 : Hid (w5.heap[w1.heap.size]? = some (.cells #[.int .u8 k, .slice A1 sn c1, .int .i64 mn, .int .i64 mx, .bool lz, .slice A2 un c2] 25 (0, 0))) := by rw [hw5]; exact al_old (al_old (al_new _ _ rfl))
 have H6 : Hid (w5.heap[w1.heap.size + 1 + 1]? = some (.cells #[.int .u8 5, .slice none 0 0, .int .i64 0, .int .i64 0, .bool false, .slice (some ⟨w1.heap.size + 1, 0, none⟩) 1 1] 25 (0, 0))) := by rw [hw5]; exact al_new _ _ (by simp)
 have hg1w := heap_lt Hr.out
 have h2w := heap_lt H2.out
 replace Hr := Lib.hid (rdr_grow Hr.out hk5)
 replace H2 := Lib.hid (heap_kept hk5 H2.out)
 replace Hg : Hid (W.grownBy w5 (some g)) := grown_trans Hg.out (grown_of_kept hk5)
 have Gx : Hid (w1.grownBy w5 (some g)) := grown_of_kept hk5
 clear hw5 hk5
 obtain ⟨b4, hb4⟩ : ∃ b, b = w1.heap.size := ⟨_, rfl⟩
 obtain ⟨bs, hbs⟩ : ∃ b, b = w1.heap.size + 1 := ⟨_, rfl⟩
 obtain ⟨b6, hb6⟩ : ∃ b, b = w1.heap.size + 1 + 1 := ⟨_, rfl⟩
 rw [← hb6, ← hbs] at H6
 rw [← hbs] at Hs
 rw [← hb4] at H4
 rw [← hb6, ← hbs, ← hb4]
 have hs6 : b6 ≠ bs := by omega
 have h62 : b6 ≠ W.heap.size := by omega
 have h64 : b6 ≠ b4 := by omega
 have h6g : b6 ≠ g := by omega
 have hsg : bs ≠ g := by omega
 have h4g : b4 ≠ g := by omega
 have h6w : w1.heap.size ≤ b6 := by omega
 have h6W : W.heap.size ≤ b6 := by omega
 have hsW : W.heap.size + 1 ≤ bs := by omega
 clear hb4 hbs hb6
 go_wp2_with fail
 refine (take_b g l1 [42] false h42 _ Hr.out).mono ?_
 rintro e w10 ⟨rfl, hr10, hg10⟩
 rw [trim_no h42] at hr10
 replace Hr := Lib.hid hr10
 replace Hg : Hid (W.grownBy w10 (some g)) := grown_trans Hg.out hg10
 replace Gx : Hid (w1.grownBy w10 (some g)) := grown_trans Gx.out hg10
 replace H2 := Lib.hid (grown_heap hg10 H2.out (by intro e9; cases e9; exact hgb rfl))
 replace Hs := Lib.hid (grown_heap hg10 Hs.out (by intro e9; cases e9; exact (Ne.symm hsg) rfl))
 replace H4 := Lib.hid (grown_heap hg10 H4.out (by intro e9; cases e9; exact (Ne.symm h4g) rfl))
 replace H6 := Lib.hid (grown_heap hg10 H6.out (by intro e9; cases e9; exact (Ne.symm h6g) rfl))
 clear hr10 hg10
 go_wp2_with fail
 refine (take_b g l1 [43] false h43 _ Hr.out).mono ?_
 rintro e w11 ⟨rfl, hr11, hg11⟩
 rw [trim_no h43] at hr11
 replace Hr := Lib.hid hr11
 replace Hg : Hid (W.grownBy w11 (some g)) := grown_trans Hg.out hg11
 replace Gx : Hid (w1.grownBy w11 (some g)) := grown_trans Gx.out hg11
 replace H2 := Lib.hid (grown_heap hg11 H2.out (by intro e9; cases e9; exact hgb rfl))
 replace Hs := Lib.hid (grown_heap hg11 Hs.out (by intro e9; cases e9; exact (Ne.symm hsg) rfl))
 replace H4 := Lib.hid (grown_heap hg11 H4.out (by intro e9; cases e9; exact (Ne.symm h4g) rfl))
 replace H6 := Lib.hid (grown_heap hg11 H6.out (by intro e9; cases e9; exact (Ne.symm h6g) rfl))
 clear hr11 hg11
 go_wp2_with fail
 refine (take_b g l1 [63] false h63 _ Hr.out).mono ?_
 rintro e w12 ⟨rfl, hr12, hg12⟩
 rw [trim_no h63] at hr12
 replace Hr := Lib.hid hr12
 replace Hg : Hid (W.grownBy w12 (some g)) := grown_trans Hg.out hg12
 replace Gx : Hid (w1.grownBy w12 (some g)) := grown_trans Gx.out hg12
 replace H2 := Lib.hid (grown_heap hg12 H2.out (by intro e9; cases e9; exact hgb rfl))
 replace Hs := Lib.hid (grown_heap hg12 Hs.out (by intro e9; cases e9; exact (Ne.symm hsg) rfl))
 replace H4 := Lib.hid (grown_heap hg12 H4.out (by intro e9; cases e9; exact (Ne.symm h4g) rfl))
 replace H6 := Lib.hid (grown_heap hg12 H6.out (by intro e9; cases e9; exact (Ne.symm h6g) rfl))
 clear hr12 hg12
 go_wp2_with fail
 refine (take_b g l1 [123] true h123 _ Hr.out).mono ?_
 rintro e w13 ⟨rfl, hr13, hg13⟩
 replace Hr := Lib.hid hr13
 replace Hg : Hid (W.grownBy w13 (some g)) := grown_trans Hg.out hg13
 replace Gx : Hid (w1.grownBy w13 (some g)) := grown_trans Gx.out hg13
 replace H2 := Lib.hid (grown_heap hg13 H2.out (by intro e9; cases e9; exact hgb rfl))
 replace Hs := Lib.hid (grown_heap hg13 Hs.out (by intro e9; cases e9; exact (Ne.symm hsg) rfl))
 replace H4 := Lib.hid (grown_heap hg13 H4.out (by intro e9; cases e9; exact (Ne.symm h4g) rfl))
 replace H6 := Lib.hid (grown_heap hg13 H6.out (by intro e9; cases e9; exact (Ne.symm h6g) rfl))
 clear hr13 hg13
 go_wp2_with fail
 refine (CB _ Hr.out).mono ?_
 rintro e w20 hbp
 unfold BrPost at hbp
 rw [hbr] at hbp
 obtain ⟨hg20, hbp⟩ := hbp
 obtain ⟨a, b, q, rfl, hr20⟩ := hbp
 replace Hr := Lib.hid hr20
 replace Hg : Hid (W.grownBy w20 (some g)) := grown_trans Hg.out hg20
 replace Gx : Hid (w1.grownBy w20 (some g)) := grown_trans Gx.out hg20
 replace H2 := Lib.hid (grown_heap hg20 H2.out (by intro e9; cases e9; exact hgb rfl))
 replace Hs := Lib.hid (grown_heap hg20 Hs.out (by intro e9; cases e9; exact (Ne.symm hsg) rfl))
 replace H4 := Lib.hid (grown_heap hg20 H4.out (by intro e9; cases e9; exact (Ne.symm h4g) rfl))
 replace H6 := Lib.hid (grown_heap hg20 H6.out (by intro e9; cases e9; exact (Ne.symm h6g) rfl))
 clear hr20 hg20
 have zfa : ∀ j, w20.frozen? ⟨b6, j, none⟩ = false := fun j => by simp [World.frozen?, show w20.heap[b6]? = _ from H6.out]
 have za2 := row_cells H6.out 2 _ rfl
 rw [add0] at za2
 have za3 := row_cells H6.out 3 _ rfl
 rw [add0] at za3
 have H6n : Hid (((w20.setCell ⟨b6, 2, none⟩ (.int .i64 a)).setCell ⟨b6, 3, none⟩ (.int .i64 b)).heap[b6]? = some (.cells #[.int .u8 5, .slice none 0 0, .int .i64 a, .int .i64 b, .bool false, .slice (some ⟨bs, 0, none⟩) 1 1] 25 (0, 0))) := (heap_setCell_same _ _ 3 _ _ _ (heap_setCell_same _ _ 2 _ _ _ H6.out))
 have H2n : Hid (((w20.setCell ⟨b6, 2, none⟩ (.int .i64 a)).setCell ⟨b6, 3, none⟩ (.int .i64 b)).heap[W.heap.size]? = some (.cells #[.int .u8 0, .slice none 0 0, .int .i64 0, .int .i64 0, .bool false, .slice none 0 0] 25 (0, 0))) := ((heap_set_out _ _ _ _ h62).trans ((heap_set_out _ _ _ _ h62).trans H2.out))
 have Hsn : Hid (((w20.setCell ⟨b6, 2, none⟩ (.int .i64 a)).setCell ⟨b6, 3, none⟩ (.int .i64 b)).heap[bs]? = some (.cells #[.int .u8 k, .slice A1 sn c1, .int .i64 mn, .int .i64 mx, .bool lz, .slice A2 un c2] 25 (0, 0))) := ((heap_set_out _ _ _ _ hs6).trans ((heap_set_out _ _ _ _ hs6).trans Hs.out))
 have H4n : Hid (((w20.setCell ⟨b6, 2, none⟩ (.int .i64 a)).setCell ⟨b6, 3, none⟩ (.int .i64 b)).heap[b4]? = some (.cells #[.int .u8 k, .slice A1 sn c1, .int .i64 mn, .int .i64 mx, .bool lz, .slice A2 un c2] 25 (0, 0))) := ((heap_set_out _ _ _ _ h64).trans ((heap_set_out _ _ _ _ h64).trans H4.out))
 have Hrn : Hid (RdrAt ((w20.setCell ⟨b6, 2, none⟩ (.int .i64 a)).setCell ⟨b6, 3, none⟩ (.int .i64 b)) g (b8 q)) := ((heap_set_out _ _ _ _ h6g).trans ((heap_set_out _ _ _ _ h6g).trans Hr.out))
 have Hgn : Hid (W.grownBy ((w20.setCell ⟨b6, 2, none⟩ (.int .i64 a)).setCell ⟨b6, 3, none⟩ (.int .i64 b)) (some g)) := (grown_setCell_hi (grown_setCell_hi Hg.out h6W _ _) h6W _ _)
 have Gxn : Hid (w1.grownBy ((w20.setCell ⟨b6, 2, none⟩ (.int .i64 a)).setCell ⟨b6, 3, none⟩ (.int .i64 b)) (some g)) := (grown_setCell_hi (grown_setCell_hi Gx.out h6w _ _) h6w _ _)
 go_wp2_with fail
 refine (take_b g q [63] (Lib.hasPrefix q [63]) rfl _ Hrn.out).mono ?_
 rintro e w30 ⟨rfl, hr30, hg30⟩
 have hrZ := Lib.hid hr30
 have hgZ : Hid (W.grownBy w30 (some g)) := grown_trans Hgn.out hg30
 have gxZ : Hid (w1.grownBy w30 (some g)) := grown_trans Gxn.out hg30
 replace H2 := Lib.hid (grown_heap hg30 H2n.out (by intro e9; cases e9; exact hgb rfl))
 replace Hs := Lib.hid (grown_heap hg30 Hsn.out (by intro e9; cases e9; exact (Ne.symm hsg) rfl))
 replace H4 := Lib.hid (grown_heap hg30 H4n.out (by intro e9; cases e9; exact (Ne.symm h4g) rfl))
 replace H6 := Lib.hid (grown_heap hg30 H6n.out (by intro e9; cases e9; exact (Ne.symm h6g) rfl))
 clear hr30 hg30 H2n Hsn H4n H6n Hrn Hgn Gxn Hr Hg Gx zfa za2 za3
 have Hr := hrZ
 have Hg := hgZ
 have Gx := gxZ
 clear hrZ hgZ gxZ
 obtain ⟨lb, hlb⟩ : ∃ b, b = Lib.hasPrefix q [63] := ⟨_, rfl⟩
 have Hlb := Lib.hid hlb
 rw [← hlb]
 clear hlb
 have zfb : ∀ j, w30.frozen? ⟨b6, j, none⟩ = false := fun j => by simp [World.frozen?, show w30.heap[b6]? = _ from H6.out]
 have zb4 := row_cells H6.out 4 _ rfl
 rw [add0] at zb4
 have H6n : Hid ((w30.setCell ⟨b6, 4, none⟩ (.bool lb)).heap[b6]? = some (.cells #[.int .u8 5, .slice none 0 0, .int .i64 a, .int .i64 b, .bool lb, .slice (some ⟨bs, 0, none⟩) 1 1] 25 (0, 0))) := (heap_setCell_same _ _ 4 _ _ _ H6.out)
 have H2n : Hid ((w30.setCell ⟨b6, 4, none⟩ (.bool lb)).heap[W.heap.size]? = some (.cells #[.int .u8 0, .slice none 0 0, .int .i64 0, .int .i64 0, .bool false, .slice none 0 0] 25 (0, 0))) := ((heap_set_out _ _ _ _ h62).trans H2.out)
 have Hsn : Hid ((w30.setCell ⟨b6, 4, none⟩ (.bool lb)).heap[bs]? = some (.cells #[.int .u8 k, .slice A1 sn c1, .int .i64 mn, .int .i64 mx, .bool lz, .slice A2 un c2] 25 (0, 0))) := ((heap_set_out _ _ _ _ hs6).trans Hs.out)
 have H4n : Hid ((w30.setCell ⟨b6, 4, none⟩ (.bool lb)).heap[b4]? = some (.cells #[.int .u8 k, .slice A1 sn c1, .int .i64 mn, .int .i64 mx, .bool lz, .slice A2 un c2] 25 (0, 0))) := ((heap_set_out _ _ _ _ h64).trans H4.out)
 have Hrn : Hid (RdrAt (w30.setCell ⟨b6, 4, none⟩ (.bool lb)) g (b8 (Lib.trimPrefix q [63]))) := ((heap_set_out _ _ _ _ h6g).trans Hr.out)
 have Hgn : Hid (W.grownBy (w30.setCell ⟨b6, 4, none⟩ (.bool lb)) (some g)) := (grown_setCell_hi Hg.out h6W _ _)
 have Gxn : Hid (w1.grownBy (w30.setCell ⟨b6, 4, none⟩ (.bool lb)) (some g)) := (grown_setCell_hi Gx.out h6w _ _)
 go_wp2_with (first | ((refine wpList_load_row ?c0 25 (.tmp 6) ?c1 b6 ?c2 25 #[.int .u8 5, .slice none 0 0, .int .i64 a, .int .i64 b, .bool lb, .slice (some ⟨bs, 0, none⟩) 1 1] (0, 0) _ H6n.out Tryz.underlying25 ?c3 sizeNd ?_); (case c0 => with_reducible rfl); (case c1 => with_reducible rfl); (case c2 => rfl); (case c3 => rfl)) | ((refine wpList_store_row ?c0 25 (.tmp 2) (.tmp 46) ?c1 W.heap.size #[.int .u8 5, .slice none 0 0, .int .i64 a, .int .i64 b, .bool lb, .slice (some ⟨bs, 0, none⟩) 1 1] ?c2 ?c3 _ _ H2n.out ?c4 ?c5 ?c6 ?_); (case c0 => with_reducible rfl); (case c1 => with_reducible rfl); (case c2 => rfl); (case c3 => rfl); (case c4 => exact sizeNd); (case c5 => rfl); (case c6 => simp [Value.oneCell'])))
 refine bodyPost_ret (res_node Tryz.results95 _ _ W.heap.size #[.int .u8 5, .slice none 0 0, .int .i64 a, .int .i64 b, .bool lb, .slice (some ⟨bs, 0, none⟩) 1 1] rfl rfl (setRow_heap _ _ _ _ _ _ H2n.out)) rfl ?_
 unfold NdPost
 exact ⟨grown_setRow Hgn.out (Nat.le_refl _) _, 5, none, 0, 0, a, b, lb, some ⟨bs, 0, none⟩, 1, 1, _, rfl, (heap_setRow_out hgb _).trans Hrn.out⟩
set_option maxRecDepth 10000 in
set_option maxHeartbeats 4000000 in
theorem item_plain (g : Nat) (l : Bs) (t : Tree) (l1 : Bs) (CA : NdC 118 g l (some (t, l1))) (h42 : Lib.hasPrefix l1 [42] = false) (h43 : Lib.hasPrefix l1 [43] = false) (h63 : Lib.hasPrefix l1 [63] = false) (h123 : Lib.hasPrefix l1 [123] = false) (W : World) (hr : RdrAt W g (b8 l)) : Calls Tryz.prog 95 #[.pointer (some ⟨g, 0, none⟩)] W (NdPost g (some (t, l1)) W) := by
 have hgW := heap_lt hr
 have hK0 : Kept W (W.alloc (.cells #[.int .u8 0, .slice none 0 0, .int .i64 0, .int .i64 0, .bool false, .slice none 0 0] 25)) := (Below.refl _ W).alloc (Nat.le_refl _) _
 have H2 := Lib.hid (heap_alloc_new W (.cells #[.int .u8 0, .slice none 0 0, .int .i64 0, .int .i64 0, .bool false, .slice none 0 0] 25))
 have Hr := Lib.hid (rdr_grow hr hK0)
 have Hg : Hid (W.grownBy (W.alloc (.cells #[.int .u8 0, .slice none 0 0, .int .i64 0, .int .i64 0, .bool false, .slice none 0 0] 25)) (some g)) := grown_of_kept hK0
 have hgb : g ≠ W.heap.size := by omega
 clear hr hK0
 go_enter Tryz.func95, Tryz.ntmps95
 go_wp2_with fail
 refine (CA _ Hr.out).mono ?_
 rintro e w1 hpost
 unfold NdPost at hpost
 obtain ⟨hg1, hpost⟩ := hpost
 obtain ⟨k, A1, sn, c1, mn, mx, lz, A2, un, c2, rfl, hn, hr1⟩ := hpost
 replace Hr := Lib.hid hr1
 have Hn := Lib.hid (hn.grow (b' := W.heap.size + 1) (by simp) (Nat.le_refl _) (fun _ _ _ => rfl))
 replace Hg : Hid (W.grownBy w1 (some g)) := grown_trans Hg.out hg1
 replace H2 := Lib.hid (grown_heap hg1 H2.out (by intro e9; cases e9; exact hgb rfl))
 clear hg1 hr1 CA hn
 unfold ndV
 dsimp only
 go_upto_region 6 with fail
 obtain ⟨w5, hw5⟩ : ∃ x, x = (((w1.alloc (.cells #[.int .u8 k, .slice A1 sn c1, .int .i64 mn, .int .i64 mx, .bool lz, .slice A2 un c2] 25)).alloc (.cells #[.int .u8 k, .slice A1 sn c1, .int .i64 mn, .int .i64 mx, .bool lz, .slice A2 un c2] 25)).alloc (.cells #[.int .u8 5, .slice none 0 0, .int .i64 0, .int .i64 0, .bool false, .slice (some ⟨w1.heap.size + 1, 0, none⟩) 1 1] 25)) := ⟨_, rfl⟩
 rw [← hw5]
 have hk5 : Kept w1 w5 := by rw [hw5]; exact (((Below.refl _ w1).alloc (Nat.le_refl _) _).alloc (by simp) _).alloc (by simp; omega) _
 have Hs : Hid (w5.heap[w1.heap.size + 1]? = some (.cells #[.int .u8 k, .slice A1 sn c1, .int .i64 mn, .int .i64 mx, .bool lz, .slice A2 un c2] 25 (0, 0))) := by rw [hw5]; exact al_old (al_new _ _ (by simp))
 have H4 : Hid (w5.heap[w1.heap.size]? = some (.cells #[.int .u8 k, .slice A1 sn c1, .int .i64 mn, .int .i64 mx, .bool lz, .slice A2 un c2] 25 (0, 0))) := by rw [hw5]; exact al_old (al_old (al_new _ _ rfl))
 have H6 : Hid (w5.heap[w1.heap.size + 1 + 1]? = some (.cells #[.int .u8 5, .slice none 0 0, .int .i64 0, .int .i64 0, .bool false, .slice (some ⟨w1.heap.size + 1, 0, none⟩) 1 1] 25 (0, 0))) := by rw [hw5]; exact al_new _ _ (by simp)
 have hg1w := heap_lt Hr.out
 have h2w := heap_lt H2.out
 replace Hr := Lib.hid (rdr_grow Hr.out hk5)
 replace H2 := Lib.hid (heap_kept hk5 H2.out)
 replace Hg : Hid (W.grownBy w5 (some g)) := grown_trans Hg.out (grown_of_kept hk5)
 have Gx : Hid (w1.grownBy w5 (some g)) := grown_of_kept hk5
 clear hw5 hk5
 obtain ⟨b4, hb4⟩ : ∃ b, b = w1.heap.size := ⟨_, rfl⟩
 obtain ⟨bs, hbs⟩ : ∃ b, b = w1.heap.size + 1 := ⟨_, rfl⟩
 obtain ⟨b6, hb6⟩ : ∃ b, b = w1.heap.size + 1 + 1 := ⟨_, rfl⟩
 rw [← hb6, ← hbs] at H6
 rw [← hbs] at Hs
 rw [← hb4] at H4
 rw [← hb6, ← hbs, ← hb4]
 have hs6 : b6 ≠ bs := by omega
 have h62 : b6 ≠ W.heap.size := by omega
 have h64 : b6 ≠ b4 := by omega
 have h6g : b6 ≠ g := by omega
 have hsg : bs ≠ g := by omega
 have h4g : b4 ≠ g := by omega
 have h6w : w1.heap.size ≤ b6 := by omega
 have h6W : W.heap.size ≤ b6 := by omega
 have hsW : W.heap.size + 1 ≤ bs := by omega
 clear hb4 hbs hb6
 go_wp2_with fail
 refine (take_b g l1 [42] false h42 _ Hr.out).mono ?_
 rintro e w10 ⟨rfl, hr10, hg10⟩
 rw [trim_no h42] at hr10
 replace Hr := Lib.hid hr10
 replace Hg : Hid (W.grownBy w10 (some g)) := grown_trans Hg.out hg10
 replace Gx : Hid (w1.grownBy w10 (some g)) := grown_trans Gx.out hg10
 replace H2 := Lib.hid (grown_heap hg10 H2.out (by intro e9; cases e9; exact hgb rfl))
 replace Hs := Lib.hid (grown_heap hg10 Hs.out (by intro e9; cases e9; exact (Ne.symm hsg) rfl))
 replace H4 := Lib.hid (grown_heap hg10 H4.out (by intro e9; cases e9; exact (Ne.symm h4g) rfl))
 replace H6 := Lib.hid (grown_heap hg10 H6.out (by intro e9; cases e9; exact (Ne.symm h6g) rfl))
 clear hr10 hg10
 go_wp2_with fail
 refine (take_b g l1 [43] false h43 _ Hr.out).mono ?_
 rintro e w11 ⟨rfl, hr11, hg11⟩
 rw [trim_no h43] at hr11
 replace Hr := Lib.hid hr11
 replace Hg : Hid (W.grownBy w11 (some g)) := grown_trans Hg.out hg11
 replace Gx : Hid (w1.grownBy w11 (some g)) := grown_trans Gx.out hg11
 replace H2 := Lib.hid (grown_heap hg11 H2.out (by intro e9; cases e9; exact hgb rfl))
 replace Hs := Lib.hid (grown_heap hg11 Hs.out (by intro e9; cases e9; exact (Ne.symm hsg) rfl))
 replace H4 := Lib.hid (grown_heap hg11 H4.out (by intro e9; cases e9; exact (Ne.symm h4g) rfl))
 replace H6 := Lib.hid (grown_heap hg11 H6.out (by intro e9; cases e9; exact (Ne.symm h6g) rfl))
 clear hr11 hg11
 go_wp2_with fail
 refine (take_b g l1 [63] false h63 _ Hr.out).mono ?_
 rintro e w12 ⟨rfl, hr12, hg12⟩
 rw [trim_no h63] at hr12
 replace Hr := Lib.hid hr12
 replace Hg : Hid (W.grownBy w12 (some g)) := grown_trans Hg.out hg12
 replace Gx : Hid (w1.grownBy w12 (some g)) := grown_trans Gx.out hg12
 replace H2 := Lib.hid (grown_heap hg12 H2.out (by intro e9; cases e9; exact hgb rfl))
 replace Hs := Lib.hid (grown_heap hg12 Hs.out (by intro e9; cases e9; exact (Ne.symm hsg) rfl))
 replace H4 := Lib.hid (grown_heap hg12 H4.out (by intro e9; cases e9; exact (Ne.symm h4g) rfl))
 replace H6 := Lib.hid (grown_heap hg12 H6.out (by intro e9; cases e9; exact (Ne.symm h6g) rfl))
 clear hr12 hg12
 go_wp2_with fail
 refine (take_b g l1 [123] false h123 _ Hr.out).mono ?_
 rintro e w13 ⟨rfl, hr13, hg13⟩
 rw [trim_no h123] at hr13
 replace Hr := Lib.hid hr13
 replace Hg : Hid (W.grownBy w13 (some g)) := grown_trans Hg.out hg13
 replace Gx : Hid (w1.grownBy w13 (some g)) := grown_trans Gx.out hg13
 replace H2 := Lib.hid (grown_heap hg13 H2.out (by intro e9; cases e9; exact hgb rfl))
 replace Hs := Lib.hid (grown_heap hg13 Hs.out (by intro e9; cases e9; exact (Ne.symm hsg) rfl))
 replace H4 := Lib.hid (grown_heap hg13 H4.out (by intro e9; cases e9; exact (Ne.symm h4g) rfl))
 replace H6 := Lib.hid (grown_heap hg13 H6.out (by intro e9; cases e9; exact (Ne.symm h6g) rfl))
 clear hr13 hg13
 go_wp2_with (first | ((refine wpList_load_row ?c0 25 (.tmp 4) ?c1 b4 ?c2 25 #[.int .u8 k, .slice A1 sn c1, .int .i64 mn, .int .i64 mx, .bool lz, .slice A2 un c2] (0, 0) _ H4.out Tryz.underlying25 ?c3 sizeNd ?_); (case c0 => with_reducible rfl); (case c1 => with_reducible rfl); (case c2 => rfl); (case c3 => rfl)) | ((refine wpList_store_row ?c0 25 (.tmp 2) (.tmp 18) ?c1 W.heap.size #[.int .u8 k, .slice A1 sn c1, .int .i64 mn, .int .i64 mx, .bool lz, .slice A2 un c2] ?c2 ?c3 _ _ H2.out ?c4 ?c5 ?c6 ?_); (case c0 => with_reducible rfl); (case c1 => with_reducible rfl); (case c2 => rfl); (case c3 => rfl); (case c4 => exact sizeNd); (case c5 => rfl); (case c6 => simp [Value.oneCell'])))
 refine bodyPost_ret (res_node Tryz.results95 _ _ W.heap.size #[.int .u8 k, .slice A1 sn c1, .int .i64 mn, .int .i64 mx, .bool lz, .slice A2 un c2] rfl rfl (setRow_heap _ _ _ _ _ _ H2.out)) rfl ?_
 unfold NdPost
 exact ⟨grown_setRow Hg.out (Nat.le_refl _) _, k, A1, sn, c1, mn, mx, lz, A2, un, c2, rfl, NodeM.set (NodeM.grown Hn.out (Nat.le_refl _) Gx.out (by omega)) (by omega) (by omega) _, (heap_setRow_out hgb _).trans Hr.out⟩
/-- An item. -/
theorem item_any (g : Nat) (l : Bs) (o : Option (Tree × Bs)) (CA : NdC 118 g l o) (hbr : ∀ t l1, o = some (t, l1) → Lib.hasPrefix l1 [123] = true → (Lib.trimPrefix l1 [123]).length ≤ 1000000 ∧ brOk (Lib.trimPrefix l1 [123]) = true) :
  NdC 95 g l (match o with | none => none | some (t, r) => quaP t r) := by
 intro W hr
 cases o with
 | none => exact item_none g l CA W hr
 | some x =>
  obtain ⟨t, l1⟩ := x
  dsimp only
  unfold quaP
  cases h42 : Lib.hasPrefix l1 [42] with
  | true => exact item_star g l t l1 CA h42 W hr
  | false =>
   cases h43 : Lib.hasPrefix l1 [43] with
   | true => exact item_plus g l t l1 CA h42 h43 W hr
   | false =>
    cases h63 : Lib.hasPrefix l1 [63] with
    | true => exact item_ques g l t l1 CA h42 h43 h63 W hr
    | false =>
     cases h123 : Lib.hasPrefix l1 [123] with
     | false => exact item_plain g l t l1 CA h42 h43 h63 h123 W hr
     | true =>
      obtain ⟨hl, hb⟩ := hbr t l1 rfl h123
      have CB := fun W h => braced_any g (Lib.trimPrefix l1 [123]) hl W hb h
      cases hq : brcP (Lib.trimPrefix l1 [123]) with
      | none =>
       simp only [Bool.false_eq_true, if_false, if_true]
       exact item_nobrace g l t l1 CA h42 h43 h63 h123 CB hq W hr
      | some y =>
       obtain ⟨a, b, r⟩ := y
       simp only [Bool.false_eq_true, if_false, if_true]
       exact item_brace g l t l1 CA h42 h43 h63 h123 CB a b r hq W hr
end Go.Proofs.YtmgkdmbifecekaaGreatDoor
