/-
  The walk of Md5Steps.
-/
import Derived.Test.YtlgdbhebcglkoaaDoorMdO
import Derived.Deep.DeepCutAuto
import Derived.Deep.RegionHeld3
namespace Go.Proofs.YtlgdbhebcglkoaaDoor
open Go.RowKit
theorem step_at (s : St) (l : List Int) (hl : l.length = 64) (hb : Bts l) (g k : Nat) (w0 W : World) (h : Below w0.heap.size w0 W) (hg : w0.heap[g]? = some (.cells (u8s l).toArray 48 (0, 0))) (hT : Tab w0) :
    Calls Tryd.prog 27 #[.agg (vals s), .slice (some ⟨g, 0, none⟩) 64 k] W fun e w' => e = .returned (.tuple #[.agg (vals (stp s l)), .int .i64 0]) ∧ Kept W w' := by
  refine (step_yes s.1 s.2.1 s.2.2.1 s.2.2.2 l hl hb g 0 k W (fun j v hv => ?_) (hT.below h)).mono fun _ _ k => ⟨k.1, k.2⟩
  rw [Nat.zero_add, cell_of_row _ _ _ _ _ _ ((h.block g (Array.getElem?_eq_some_iff.1 hg).1).trans hg)]
  simpa using hv
set_option maxRecDepth 100000 in
set_option maxHeartbeats 4000000 in
theorem steps_walk (s t : St) (l : List Int) (hl : l.length = 64) (hb : Bts l) (w : World) (hT : Tab w) :
    Calls Tryd.prog 11 #[.agg (vals s), .agg (vals t), .agg (u8s l).toArray] w fun e w' => e = .returned (.bool true) ∧ Below w.heap.size w w' := by
  have CS := Lib.hid (fun g k w0 W h hg hT => step_at s l hl hb g k w0 W h hg hT)
  have CT := Lib.hid (fun g k w0 W h hg hT => step_at t l hl hb g k w0 W h hg hT)
  have Heq := Lib.hid (fun (e : s = t) => (by rw [e] : stp s l = stp t l))
  have hz : (u8s l).length = 64 := by rw [u8s_length, hl]
  generalize stp s l = S1 at *
  generalize stp t l = T1 at *
  generalize u8s l = L at *
  obtain ⟨a, b, c, d⟩ := s
  obtain ⟨a', b', c', d'⟩ := t
  obtain ⟨x, y, z, u⟩ := S1
  obtain ⟨x', y', z', u'⟩ := T1
  have HT := Lib.hid hT
  dsimp only [vals] at CS CT ⊢
  clear hT hl hb
  have hsz : (Tryd.prog.info? 48).map (·.size) = some L.toArray.size := by rw [size64, List.size_toArray, hz]
  go_enter Tryd.func11, Tryd.ntmps11
  go_upto_region 1 with fail
  generalize hw0 : World.alloc (World.alloc (World.alloc w _) _) _ = w0
  have hB0 : Below w.heap.size w w0 := by rw [← hw0]; exact (((Below.refl _ w).alloc (Nat.le_refl _) _).alloc (by simp) _).alloc (by simp; omega) _
  have hg0 : w0.heap[w.heap.size]? = some (.cells #[V a, V b, V c, V d] 24 (0, 0)) := by rw [← hw0]; exact halloc _ (halloc _ (heap_alloc_new w _))
  have hg1 : w0.heap[w.heap.size + 1]? = some (.cells #[V a', V b', V c', V d'] 24 (0, 0)) := by rw [← hw0]; exact halloc _ (hnew _ (by simp))
  have hg2 : w0.heap[w.heap.size + 1 + 1]? = some (.cells L.toArray 48 (0, 0)) := by rw [← hw0]; exact hnew _ (by simp)
  have hz0 : w0.heap.size = w.heap.size + 3 := by rw [← hw0]; simp
  clear hw0
  have hT0 := HT.out.below hB0
  clear hz0 HT
  have CS1 := Lib.hid (fun W h => CS.out (w.heap.size + 1 + 1) 64 w0 W h hg2 hT0)
  have Hg0 := Lib.hid hg0
  have Hg1 := Lib.hid hg1
  have Hg2 := Lib.hid hg2
  have HB0 := Lib.hid hB0
  have HT0 := Lib.hid hT0
  clear hg1 hg2 hB0 hT0
  have Hk : Hid (∀ W, Below w0.heap.size w0 W → (W.cell? ⟨w.heap.size, 0, none⟩ = some (V a) ∧ W.cell? ⟨w.heap.size, 1, none⟩ = some (V b) ∧ W.cell? ⟨w.heap.size, 2, none⟩ = some (V c) ∧ W.cell? ⟨w.heap.size, 3, none⟩ = some (V d)) ∧ Below w0.heap.size w0 W) := by
    refine fun W h => ⟨⟨?_, ?_, ?_, ?_⟩, h⟩ <;> (rw [cell_of_row _ _ _ _ _ _ ((h.block _ (heap_lt hg0)).trans hg0)]; rfl)
  have hb0 := Below.refl w0.heap.size w0
  go_cut [7, 8] (fun v7 v8 wx => ∃ g, v7 = .pointer (some ⟨g, 0, none⟩) ∧ v8 = .int .i64 0 ∧ Hid (wx.heap[g]? = some (.cells #[V x, V y, V z, V u] 24 (0, 0))) ∧ w0.heap.size ≤ g ∧ Below w0.heap.size w0 wx)
  case first =>
    clear hg0 CS CT
    go_region_held3 (fun W => (W.cell? ⟨w.heap.size, 0, none⟩ = some (V a) ∧ W.cell? ⟨w.heap.size, 1, none⟩ = some (V b) ∧ W.cell? ⟨w.heap.size, 2, none⟩ = some (V c) ∧ W.cell? ⟨w.heap.size, 3, none⟩ = some (V d)) ∧ Below w0.heap.size w0 W)
      ((refine Hk.out _ ?_; (repeat (first | with_reducible assumption | with_reducible refine below_drew0 ?_ | with_reducible refine below_alloc0 ?_ _ | (refine Below.setCell ?_ (by first | assumption | (show w0.heap.size ≤ w0.heap.size; exact Nat.le_refl _)) _))); done))
      (first
        | (go_at_call 27; refine (CS1.out _ (below_drew0 (below_alloc0 hb0 _))).mono ?_; rintro e w1 ⟨rfl, k1⟩; have e0 := heap_kept k1 (heap_drew0 (heap_new' _ rfl)); have hbk := below_kept (below_drew0 (below_alloc0 hb0 _)) k1; have hz1 := Below.size hbk; have d0 : w1.cell? ⟨w0.heap.size, 0, none⟩ = some (.int .u32 0) := (cell_of_row _ _ _ _ _ _ e0); have d1 : w1.cell? ⟨w0.heap.size, 1, none⟩ = some (.int .u32 0) := (cell_of_row _ _ _ _ _ _ e0); have d2 : w1.cell? ⟨w0.heap.size, 2, none⟩ = some (.int .u32 0) := (cell_of_row _ _ _ _ _ _ e0); have d3 : w1.cell? ⟨w0.heap.size, 3, none⟩ = some (.int .u32 0) := (cell_of_row _ _ _ _ _ _ e0); have f0 : ∀ j, w1.frozen? ⟨w0.heap.size, j, none⟩ = false := (fun j => (by simp [World.frozen?, e0])); dsimp only)
        | (go_at_call 27; refine (CS1.out _ (below_drew0 hb0)).mono ?_; rintro e w1 ⟨rfl, k1⟩; have hbk := below_kept (below_drew0 hb0) k1; have hz1 := Below.size hbk; dsimp only))
    all_goals (rename_i hS; have hBl := hS.2; clear hS)
    all_goals (go_wp2_with fail; go_meet)
    · exact ⟨w1.heap.size, rfl, rfl, heap_alloc_new _ _, hz1, hBl⟩
    · exact ⟨w0.heap.size, rfl, rfl, heap_setCell_same _ _ 3 _ _ _ (heap_setCell_same _ _ 2 _ _ _ (heap_setCell_same _ _ 1 _ _ _ (heap_setCell_same _ _ 0 _ _ _ e0))), Nat.le_refl _, hBl⟩
  case rest =>
  obtain ⟨g7, rfl, rfl, hg7, hge7, hB7⟩ := hcut
  clear Hk hb0
  obtain ⟨w2, hw2⟩ : ∃ w2, w2 = wc := ⟨_, rfl⟩
  subst hw2
  have hg1 := heap_kept hB7 Hg1.out
  have CT1 := Lib.hid (fun W h => CT.out (w.heap.size + 1 + 1) 64 w2 W h (heap_kept hB7 Hg2.out) (HT0.out.below hB7))
  clear CS1
  go_upto_region 2 with fail
  have Hk : Hid (∀ W, Below w2.heap.size w2 W → (W.cell? ⟨w.heap.size + 1, 0, none⟩ = some (V a') ∧ W.cell? ⟨w.heap.size + 1, 1, none⟩ = some (V b') ∧ W.cell? ⟨w.heap.size + 1, 2, none⟩ = some (V c') ∧ W.cell? ⟨w.heap.size + 1, 3, none⟩ = some (V d')) ∧ Below w2.heap.size w2 W) := by
    refine fun W h => ⟨⟨?_, ?_, ?_, ?_⟩, h⟩ <;> (rw [cell_of_row _ _ _ _ _ _ ((h.block _ (heap_lt hg1)).trans hg1)]; rfl)
  have hb0 := Below.refl w2.heap.size w2
  go_cut [9, 10] (fun v7 v8 wx => ∃ g, v7 = .pointer (some ⟨g, 0, none⟩) ∧ v8 = .int .i64 0 ∧ Hid (wx.heap[g]? = some (.cells #[V x', V y', V z', V u'] 24 (0, 0))) ∧ w2.heap.size ≤ g ∧ Below w2.heap.size w2 wx)
  case first =>
    clear hg1 CS CT
    go_region_held3 (fun W => (W.cell? ⟨w.heap.size + 1, 0, none⟩ = some (V a') ∧ W.cell? ⟨w.heap.size + 1, 1, none⟩ = some (V b') ∧ W.cell? ⟨w.heap.size + 1, 2, none⟩ = some (V c') ∧ W.cell? ⟨w.heap.size + 1, 3, none⟩ = some (V d')) ∧ Below w2.heap.size w2 W)
      ((refine Hk.out _ ?_; (repeat (first | with_reducible assumption | with_reducible refine below_drew0 ?_ | with_reducible refine below_alloc0 ?_ _ | (refine Below.setCell ?_ (by first | assumption | (show w2.heap.size ≤ w2.heap.size; exact Nat.le_refl _)) _))); done))
      (first
        | (go_at_call 27; refine (CT1.out _ (below_drew0 (below_alloc0 hb0 _))).mono ?_; rintro e w1 ⟨rfl, k1⟩; have e0 := heap_kept k1 (heap_drew0 (heap_new' _ rfl)); have hbk := below_kept (below_drew0 (below_alloc0 hb0 _)) k1; have hz1 := Below.size hbk; have d0 : w1.cell? ⟨w2.heap.size, 0, none⟩ = some (.int .u32 0) := (cell_of_row _ _ _ _ _ _ e0); have d1 : w1.cell? ⟨w2.heap.size, 1, none⟩ = some (.int .u32 0) := (cell_of_row _ _ _ _ _ _ e0); have d2 : w1.cell? ⟨w2.heap.size, 2, none⟩ = some (.int .u32 0) := (cell_of_row _ _ _ _ _ _ e0); have d3 : w1.cell? ⟨w2.heap.size, 3, none⟩ = some (.int .u32 0) := (cell_of_row _ _ _ _ _ _ e0); have f0 : ∀ j, w1.frozen? ⟨w2.heap.size, j, none⟩ = false := (fun j => (by simp [World.frozen?, e0])); dsimp only)
        | (go_at_call 27; refine (CT1.out _ (below_drew0 hb0)).mono ?_; rintro e w1 ⟨rfl, k1⟩; have hbk := below_kept (below_drew0 hb0) k1; have hz1 := Below.size hbk; dsimp only))
    all_goals (rename_i hS; have hBl := hS.2; clear hS)
    all_goals (go_wp2_with fail; go_meet)
    · exact ⟨w1.heap.size, rfl, rfl, heap_alloc_new _ _, hz1, hBl⟩
    · exact ⟨w2.heap.size, rfl, rfl, heap_setCell_same _ _ 3 _ _ _ (heap_setCell_same _ _ 2 _ _ _ (heap_setCell_same _ _ 1 _ _ _ (heap_setCell_same _ _ 0 _ _ _ e0))), Nat.le_refl _, hBl⟩
  case rest =>
  obtain ⟨g9, rfl, rfl, hg9, hge9, hB9⟩ := hcut
  clear Hk hb0
  obtain ⟨w3, hw3⟩ : ∃ w3, w3 = wc := ⟨_, rfl⟩
  subst hw3
  have hg0' := heap_kept hB9 (heap_kept hB7 Hg0.out)
  have CS2 := Lib.hid (fun W h => CS.out (w.heap.size + 1 + 1) 64 w3 W h (heap_kept hB9 (heap_kept hB7 Hg2.out)) ((HT0.out.below hB7).below hB9))
  clear CT1
  go_upto_region 3 with fail
  have Hk : Hid (∀ W, Below w3.heap.size w3 W → (W.cell? ⟨w.heap.size, 0, none⟩ = some (V a) ∧ W.cell? ⟨w.heap.size, 1, none⟩ = some (V b) ∧ W.cell? ⟨w.heap.size, 2, none⟩ = some (V c) ∧ W.cell? ⟨w.heap.size, 3, none⟩ = some (V d)) ∧ Below w3.heap.size w3 W) := by
    refine fun W h => ⟨⟨?_, ?_, ?_, ?_⟩, h⟩ <;> (rw [cell_of_row _ _ _ _ _ _ ((h.block _ (heap_lt hg0')).trans hg0')]; rfl)
  have hb0 := Below.refl w3.heap.size w3
  go_cut [11, 12] (fun v7 v8 wx => ∃ g, v7 = .pointer (some ⟨g, 0, none⟩) ∧ v8 = .int .i64 0 ∧ Hid (wx.heap[g]? = some (.cells #[V x, V y, V z, V u] 24 (0, 0))) ∧ w3.heap.size ≤ g ∧ Below w3.heap.size w3 wx)
  case first =>
    clear hg0' CS CT
    go_region_held3 (fun W => (W.cell? ⟨w.heap.size, 0, none⟩ = some (V a) ∧ W.cell? ⟨w.heap.size, 1, none⟩ = some (V b) ∧ W.cell? ⟨w.heap.size, 2, none⟩ = some (V c) ∧ W.cell? ⟨w.heap.size, 3, none⟩ = some (V d)) ∧ Below w3.heap.size w3 W)
      ((refine Hk.out _ ?_; (repeat (first | with_reducible assumption | with_reducible refine below_drew0 ?_ | with_reducible refine below_alloc0 ?_ _ | (refine Below.setCell ?_ (by first | assumption | (show w3.heap.size ≤ w3.heap.size; exact Nat.le_refl _)) _))); done))
      (first
        | (go_at_call 27; refine (CS2.out _ (below_drew0 (below_alloc0 hb0 _))).mono ?_; rintro e w1 ⟨rfl, k1⟩; have e0 := heap_kept k1 (heap_drew0 (heap_new' _ rfl)); have hbk := below_kept (below_drew0 (below_alloc0 hb0 _)) k1; have hz1 := Below.size hbk; have d0 : w1.cell? ⟨w3.heap.size, 0, none⟩ = some (.int .u32 0) := (cell_of_row _ _ _ _ _ _ e0); have d1 : w1.cell? ⟨w3.heap.size, 1, none⟩ = some (.int .u32 0) := (cell_of_row _ _ _ _ _ _ e0); have d2 : w1.cell? ⟨w3.heap.size, 2, none⟩ = some (.int .u32 0) := (cell_of_row _ _ _ _ _ _ e0); have d3 : w1.cell? ⟨w3.heap.size, 3, none⟩ = some (.int .u32 0) := (cell_of_row _ _ _ _ _ _ e0); have f0 : ∀ j, w1.frozen? ⟨w3.heap.size, j, none⟩ = false := (fun j => (by simp [World.frozen?, e0])); dsimp only)
        | (go_at_call 27; refine (CS2.out _ (below_drew0 hb0)).mono ?_; rintro e w1 ⟨rfl, k1⟩; have hbk := below_kept (below_drew0 hb0) k1; have hz1 := Below.size hbk; dsimp only))
    all_goals (rename_i hS; have hBl := hS.2; clear hS)
    all_goals (go_wp2_with fail; go_meet)
    · exact ⟨w1.heap.size, rfl, rfl, heap_alloc_new _ _, hz1, hBl⟩
    · exact ⟨w3.heap.size, rfl, rfl, heap_setCell_same _ _ 3 _ _ _ (heap_setCell_same _ _ 2 _ _ _ (heap_setCell_same _ _ 1 _ _ _ (heap_setCell_same _ _ 0 _ _ _ e0))), Nat.le_refl _, hBl⟩
  case rest =>
  obtain ⟨g11, rfl, rfl, hg11, hge11, hB11⟩ := hcut
  clear Hk hb0
  obtain ⟨w4, hw4⟩ : ∃ w4, w4 = wc := ⟨_, rfl⟩
  subst hw4
  have k24 := hB9.trans (hB11.mono hB9.size)
  have k04 := hB7.trans (k24.mono hB7.size)
  have G0 := Lib.hid (heap_kept k04 Hg0.out)
  have G1 := Lib.hid (heap_kept k04 Hg1.out)
  have G7 := Lib.hid (heap_kept k24 hg7.out)
  have G9 := Lib.hid (heap_kept hB11 hg9.out)
  have HB4 := Lib.hid (HB0.out.trans (k04.mono HB0.out.size))
  have HAw := Lib.hid (awake_any w4 (HT0.out.below k04))
  clear CS CT CS2 Hg0 Hg1 Hg2 HB0 HT0 hg7 hg9 k24 k04 hB7 hB9 hB11 hge7 hge9 hge11
  have hq1 := eq_four x y z u x y z u
  rw [decide_eq_true rfl] at hq1
  have hsz4 := Lib.hid size4
  by_cases hst : (a, b, c, d) = (a', b', c', d')
  · have hq2 := eq_four a b c d a' b' c' d'
    rw [decide_eq_true hst] at hq2
    have hq3 := eq_four x y z u x' y' z' u'
    rw [decide_eq_true (Heq.out hst)] at hq3
    clear hst Heq
    go_wp2_with (first
      | ((refine wpList_load_if ?c0 24 (.tmp 7) ?c1 g7 ?c2 24 #[V x, V y, V z, V u] _ G7.out Tryd.underlying24 ?c3 size4 ?_); (case c0 => rfl); (case c1 => with_reducible rfl); (case c2 => rfl); (case c3 => rfl))
      | ((refine wpList_load_if ?c0 24 (.tmp 11) ?c1 g11 ?c2 24 #[V x, V y, V z, V u] _ hg11.out Tryd.underlying24 ?c3 size4 ?_); (case c0 => rfl); (case c1 => with_reducible rfl); (case c2 => rfl); (case c3 => rfl))
      | ((refine wpList_load_if ?c0 24 (.tmp 3) ?c1 w.heap.size ?c2 24 #[V a, V b, V c, V d] _ G0.out Tryd.underlying24 ?c3 size4 ?_); (case c0 => rfl); (case c1 => with_reducible rfl); (case c2 => rfl); (case c3 => rfl))
      | ((refine wpList_load_if ?c0 24 (.tmp 4) ?c1 (w.heap.size + 1) ?c2 24 #[V a', V b', V c', V d'] _ G1.out Tryd.underlying24 ?c3 size4 ?_); (case c0 => rfl); (case c1 => with_reducible rfl); (case c2 => rfl); (case c3 => rfl))
      | ((refine wpList_load_if ?c0 24 (.tmp 9) ?c1 g9 ?c2 24 #[V x', V y', V z', V u'] _ G9.out Tryd.underlying24 ?c3 size4 ?_); (case c0 => rfl); (case c1 => with_reducible rfl); (case c2 => rfl); (case c3 => rfl))
      | (go_at_call 14; refine HAw.out.mono ?_; rintro e w5 ⟨rfl, hb5⟩; have HB5 := Lib.hid (HB4.out.trans (hb5.mono HB4.out.size)); clear hb5))
    go_ret
    exact ⟨rfl, HB5.out⟩
  · have hq2 := eq_four a b c d a' b' c' d'
    rw [decide_eq_false hst] at hq2
    clear hst Heq
    go_wp2_with (first
      | ((refine wpList_load_if ?c0 24 (.tmp 7) ?c1 g7 ?c2 24 #[V x, V y, V z, V u] _ G7.out Tryd.underlying24 ?c3 size4 ?_); (case c0 => rfl); (case c1 => with_reducible rfl); (case c2 => rfl); (case c3 => rfl))
      | ((refine wpList_load_if ?c0 24 (.tmp 11) ?c1 g11 ?c2 24 #[V x, V y, V z, V u] _ hg11.out Tryd.underlying24 ?c3 size4 ?_); (case c0 => rfl); (case c1 => with_reducible rfl); (case c2 => rfl); (case c3 => rfl))
      | ((refine wpList_load_if ?c0 24 (.tmp 3) ?c1 w.heap.size ?c2 24 #[V a, V b, V c, V d] _ G0.out Tryd.underlying24 ?c3 size4 ?_); (case c0 => rfl); (case c1 => with_reducible rfl); (case c2 => rfl); (case c3 => rfl))
      | ((refine wpList_load_if ?c0 24 (.tmp 4) ?c1 (w.heap.size + 1) ?c2 24 #[V a', V b', V c', V d'] _ G1.out Tryd.underlying24 ?c3 size4 ?_); (case c0 => rfl); (case c1 => with_reducible rfl); (case c2 => rfl); (case c3 => rfl))
      | (go_at_call 14; refine HAw.out.mono ?_; rintro e w5 ⟨rfl, hb5⟩; have HB5 := Lib.hid (HB4.out.trans (hb5.mono HB4.out.size)); clear hb5))
    go_ret
    exact ⟨rfl, HB5.out⟩
end Go.Proofs.YtlgdbhebcglkoaaDoor
