/-
  Sum of a digest that is there.
-/
import Derived.Test.YtlgdbhebcglkoaaDoorMdZ2
import Derived.Deep.RegionHeld3
namespace Go.Proofs.YtlgdbhebcglkoaaDoor
open Go.RowKit Go.Shelf
set_option maxRecDepth 100000 in
set_option maxHeartbeats 4000000 in
theorem dsum_any {g n : Nat} {s : St} {R : List Int} {w : World} (h : DAt g s R n w) (hs : n = 0 → s ≠ stZ) (hR : Bts R) (hn : n ≤ 1099511627776) (hT : Tab w) :
    Calls Tryd.prog 20 #[.pointer (some ⟨g, 0, none⟩)] w fun e w' => e = .returned (.tuple #[.agg (u8s (dig (runB s (allY (R.take (n % 64) ++ padL n))))).toArray, .int .i64 0]) ∧ Kept w w' := by
  have hlt : g < w.heap.size := heap_lt h.1
  have hgo : ∀ W, Kept w W → DAt g s R n W := fun W k => h.kept k
  have k1 : Kept w (w.alloc (.cells z16 30)) := (Below.refl _ w).alloc (Nat.le_refl _) _
  have m1 : (w.alloc (.cells z16 30)).heap[w.heap.size]? = some (.cells z16 30 (0, 0)) := heap_alloc_new w _
  obtain ⟨w1, hw1⟩ : ∃ x, x = w.alloc (.cells z16 30) := ⟨_, rfl⟩
  rw [← hw1] at k1 m1
  have C := Lib.hid (none_no (hgo w1 k1) hs)
  have Hgo := Lib.hid hgo
  obtain ⟨a, b, c, d⟩ := s
  obtain ⟨r, hr⟩ : ∃ r, n % 64 = r := ⟨_, rfl⟩
  have CO : Hid (∀ W, Kept w W → Calls Tryd.prog 39 #[.pointer (some ⟨g, 0, none⟩)] W fun e w' => e = .returned (.slice (some ⟨g, 4, none⟩) r 64) ∧ W.heap = w'.heap ∧ Kept W w') := fun W k => by rw [← hr]; exact open_any (Hgo.out W k) hn
  have hrd : ∀ W, Kept w W → Rd W W.heap.size (some ⟨g, 4, none⟩) r (u8s (R.take r)) := by
    intro W k
    have hD := Hgo.out W k
    refine ⟨by rw [u8s_length, List.length_take, hD.2]; omega, fun _ => ⟨_, rfl, heap_lt hD.1, fun j u hu => ?_⟩⟩
    have hj : j < r := by
      have := (List.getElem?_eq_some_iff.1 hu).1
      rw [u8s_length, List.length_take] at this
      omega
    rw [u8s_get _ _ (by rw [List.length_take, hD.2]; omega)] at hu
    cases hu
    have hadd : (⟨g, 4, none⟩ : Addr).add j = ⟨g, 4 + j, none⟩ := by unfold Addr.add; split <;> simp_all
    rw [hadd, hD.c (4 + j) _ (dcells_rest _ R n j hD.2 (by omega))]
    simp [List.getD_eq_getElem?_getD, List.getElem?_take, hj]
  obtain ⟨L, hL⟩ : ∃ L, L = dig (runB (a, b, c, d) (allY (R.take r ++ padL n))) := ⟨_, rfl⟩
  have CF : Hid (∀ W, Kept w W → Calls Tryd.prog 41 #[.agg #[V a, V b, V c, V d], .slice (some ⟨g, 4, none⟩) r 64, .int .i64 (n : Int)] W fun e w' => e = .returned (.agg (u8s L).toArray) ∧ Kept W w') := fun W k => by
    rw [hL]
    exact finish_any (a, b, c, d) (some ⟨g, 4, none⟩) r 64 n (R.take r) (hR.take r) (by omega) (by omega) (by omega) (by omega) W (hrd W k) (hT.below k)
  have hLl : L.length = 16 := by rw [hL]; exact dig_length _
  have Hsz : Hid ((Tryd.prog.info? 30).map (·.size) = some (u8s L).length) := by show _ = _; rw [u8s_length, hLl]; exact size16b
  have Hszz : Hid ((Tryd.prog.info? 30).map (·.size) = some (u8s L).toArray.size) := by show _ = _; rw [List.size_toArray]; exact Hsz.out
  have Hone := Lib.hid (u8s_one L)
  have Hl16 : Hid ((u8s L).length = 16) := by show _ = _; rw [u8s_length, hLl]
  have HL : Hid (u8s L = u8s L) := rfl
  have hcs : ∀ W, Kept w W → W.cell? ⟨g, 0, none⟩ = some (V a) ∧ W.cell? ⟨g, 1, none⟩ = some (V b) ∧ W.cell? ⟨g, 2, none⟩ = some (V c) ∧ W.cell? ⟨g, 3, none⟩ = some (V d) ∧ W.cell? ⟨g, 68, none⟩ = some (.int .i64 (n : Int)) := fun W k => by
    have hD := Hgo.out W k
    exact ⟨hD.c 0 _ (dcells_state _ R n).1, hD.c 1 _ (dcells_state _ R n).2.1, hD.c 2 _ (dcells_state _ R n).2.2.1, hD.c 3 _ (dcells_state _ R n).2.2.2, hD.c 68 _ (dcells_len _ R n hD.2)⟩
  have Hcs := Lib.hid hcs
  have Hfin : Hid (u8s (dig (runB (a, b, c, d) (allY (R.take (n % 64) ++ padL n)))) = u8s L) := by show _ = _; rw [hr, hL]
  generalize u8s L = LV at *
  have K1 := Lib.hid k1
  have M1 := Lib.hid m1
  clear h hs hR hT hgo hrd hr hL hLl hcs k1 m1 Hgo HL
  go_enter Tryd.func20, Tryd.ntmps20
  go_upto_region 1 with fail
  change Code.wp _ _ _ _ (w.alloc (.cells z16 30))
  rw [← hw1]
  clear hw1
  go_upto_region 3 with (go_at_call 37; refine C.out.mono ?_; rintro e w' ⟨rfl, rfl⟩)
  have Hk : Hid (∀ W, Below w.heap.size w1 W → (W.cell? ⟨g, 0, none⟩ = some (V a) ∧ W.cell? ⟨g, 1, none⟩ = some (V b) ∧ W.cell? ⟨g, 2, none⟩ = some (V c) ∧ W.cell? ⟨g, 3, none⟩ = some (V d) ∧ W.cell? ⟨g, 68, none⟩ = some (.int .i64 (n : Int))) ∧ Below w.heap.size w1 W) := fun W k => ⟨Hcs.out W (K1.out.trans k), k⟩
  have hb1 : Below w.heap.size w1 w1 := Below.refl _ _
  refine wp_region_held_drew (S := (fun W => (W.cell? ⟨g, 0, none⟩ = some (V a) ∧ W.cell? ⟨g, 1, none⟩ = some (V b) ∧ W.cell? ⟨g, 2, none⟩ = some (V c) ∧ W.cell? ⟨g, 3, none⟩ = some (V d) ∧ W.cell? ⟨g, 68, none⟩ = some (.int .i64 (n : Int))) ∧ Below w.heap.size w1 W)) (by kernel_rfl) ?_ (fun hHeld => ?_)
  · exact Hk.out _ (by repeat (first | with_reducible assumption | with_reducible refine Below.drew ?_))
  refine wpAnyH_take (i := 0) (oi := ⟨some 7, _, _, _, _, _⟩) (v := ?_) rfl (by kernel_rfl) (by kernel_rfl) (by kernel_rfl) (fun _ _ _ h => h) (Or.inl ⟨by rfl, ?_⟩) hHeld ?_
  rotate_left
  · (intro w hSw; (try dsimp only at hSw); go_simp; (try with_reducible rfl))
  try simp only [Act.put, List.setIfInBounds_toArray, List.set_cons_zero, List.set_cons_succ]
  refine wpAnyH_take (i := 1) (oi := ⟨some 8, _, _, _, _, _⟩) (v := ?_) rfl (by kernel_rfl) (by kernel_rfl) (by kernel_rfl) (fun _ _ _ h => h) (Or.inl ⟨by rfl, ?_⟩) hHeld ?_
  rotate_left
  · (intro w hSw; (try dsimp only at hSw); go_simp; (try with_reducible rfl))
  try simp only [Act.put, List.setIfInBounds_toArray, List.set_cons_zero, List.set_cons_succ]
  refine wpAnyH_take (i := 2) (oi := ⟨some 9, _, _, _, _, _⟩) (v := ?_) rfl (by kernel_rfl) (by kernel_rfl) (by kernel_rfl) (fun _ _ _ h => h) (Or.inl ⟨by rfl, ?_⟩) hHeld ?_
  rotate_left
  · (intro w hSw; (try dsimp only at hSw); go_simp; (try with_reducible rfl))
  try simp only [Act.put, List.setIfInBounds_toArray, List.set_cons_zero, List.set_cons_succ]
  refine wpAnyH_take (i := 3) (oi := ⟨some 10, _, _, _, _, _⟩) (v := ?_) rfl (by kernel_rfl) (by kernel_rfl) (by kernel_rfl) (fun _ _ _ h => h) (Or.inl ⟨by rfl, ?_⟩) hHeld ?_
  rotate_left
  · (intro w hSw; (try dsimp only at hSw); go_simp; (try with_reducible rfl))
  try simp only [Act.put, List.setIfInBounds_toArray, List.set_cons_zero, List.set_cons_succ]
  refine wpAnyH_take (i := 4) (oi := ⟨some 11, _, _, _, _, _⟩) (v := ?_) rfl (by kernel_rfl) (by kernel_rfl) (by kernel_rfl) (fun _ _ _ h => h) (Or.inl ⟨by rfl, ?_⟩) hHeld ?_
  rotate_left
  · (intro w hSw; (try dsimp only at hSw); go_simp; (try with_reducible rfl))
  try simp only [Act.put, List.setIfInBounds_toArray, List.set_cons_zero, List.set_cons_succ]
  refine wpAnyH_take (i := 6) (oi := ⟨some 13, _, _, _, _, _⟩) (v := ?_) rfl (by kernel_rfl) (by kernel_rfl) (by kernel_rfl) (fun _ _ _ h => h) (Or.inl ⟨by rfl, ?_⟩) hHeld ?_
  rotate_left
  · (intro w hSw; (try dsimp only at hSw); go_simp; (try with_reducible rfl))
  try simp only [Act.put, List.setIfInBounds_toArray, List.set_cons_zero, List.set_cons_succ]
  refine wpAnyH_take (i := 7) (oi := ⟨some 14, _, _, _, _, _⟩) (v := ?_) rfl (by kernel_rfl) (by kernel_rfl) (by kernel_rfl) (fun _ _ _ h => h) (Or.inl ⟨by rfl, ?_⟩) hHeld ?_
  rotate_left
  · (intro w hSw; (try dsimp only at hSw); go_simp; (try with_reducible rfl))
  try simp only [Act.put, List.setIfInBounds_toArray, List.set_cons_zero, List.set_cons_succ]
  refine wpAnyH_take (i := 8) (oi := ⟨some 15, _, _, _, _, _⟩) (v := ?_) rfl (by kernel_rfl) (by kernel_rfl) (by kernel_rfl) (fun _ _ _ h => h) (Or.inl ⟨by rfl, ?_⟩) hHeld ?_
  rotate_left
  · (intro w hSw; (try dsimp only at hSw); go_simp; (try with_reducible rfl))
  try simp only [Act.put, List.setIfInBounds_toArray, List.set_cons_zero, List.set_cons_succ]
  refine wpAnyH_take (i := 9) (oi := ⟨some 16, _, _, _, _, _⟩) (v := ?_) rfl (by kernel_rfl) (by kernel_rfl) (by kernel_rfl) (fun _ _ _ h => h) (Or.inl ⟨by rfl, ?_⟩) hHeld ?_
  rotate_left
  · (intro w hSw; (try dsimp only at hSw); go_simp; (try with_reducible rfl))
  try simp only [Act.put, List.setIfInBounds_toArray, List.set_cons_zero, List.set_cons_succ]
  refine wpAnyH_ready (rs := [5]) (by kernel_rfl) (by simp) ?_
  refine AllReadyH.cons (o := ⟨some 12, _, _, _, _, _⟩) rfl (fun K hK => ?_) (AllReadyH.nil)
  · go_simp
    go_at_call 39; refine (CO.out _ (K1.out.trans hHeld.2)).mono ?_; rintro e w2 ⟨rfl, hh2, k2⟩; have hb2 : Below w.heap.size w1 w2 := hHeld.2.trans (Below.mono k2 (Below.size (K1.out.trans hHeld.2))); have K12 := Lib.hid (show Kept w1 w2 from below_kept (below_drew0 (Below.refl w1.heap.size w1)) k2); dsimp only
    go_wp2_with fail
    refine hK.out _ _ ?_ (fun hHeld => ?_)
    · exact Hk.out _ (by repeat (first | with_reducible assumption | with_reducible refine Below.drew ?_))
    clear hK K
    try simp only [Act.put, List.setIfInBounds_toArray, List.set_cons_zero, List.set_cons_succ]
    refine wpAnyH_ready (rs := [10]) (by kernel_rfl) (by simp) ?_
    refine AllReadyH.cons (o := ⟨some 17, _, _, _, _, _⟩) rfl (fun K hK => ?_) (AllReadyH.nil)
    · go_simp
      go_at_call 41; refine (CF.out _ (K1.out.trans hHeld.2)).mono ?_; rintro e w3 ⟨rfl, k3⟩; have hb3 : Below w.heap.size w1 w3 := hHeld.2.trans (Below.mono k3 (Below.size (K1.out.trans hHeld.2))); have K13 := Lib.hid (below_kept K12.out k3); dsimp only
      go_wp2_with fail
      refine hK.out _ _ ?_ (fun hHeld => ?_)
      · exact Hk.out _ (by repeat (first | with_reducible assumption | with_reducible refine Below.drew ?_))
      clear hK K
      try simp only [Act.put, List.setIfInBounds_toArray, List.set_cons_zero, List.set_cons_succ]
      refine wpAnyH_ready (rs := [11]) (by kernel_rfl) (by simp) ?_
      refine AllReadyH.cons (o := ⟨none, _, _, _, _, _⟩) rfl (fun K hK => ?_) (AllReadyH.nil)
      · refine step_store_at rfl 30 (.tmp 2) (.tmp 17) rfl w.heap.size 0 LV rfl rfl 30 z16.toList (heap_kept K13.out M1.out) Hsz.out (by rw [Hl16.out]; decide) Hone.out ?_
        have hb4 : Below w.heap.size w1 (w3.setRow w.heap.size (splice z16.toList 0 LV).toArray) := below_setRow hb3 (Nat.le_refl _) _
        refine hK.out _ _ ?_ (fun hHeld => ?_)
        · exact Hk.out _ (by repeat (first | with_reducible assumption | with_reducible refine Below.drew ?_))
        clear hK K
        try simp only [Act.put, List.setIfInBounds_toArray, List.set_cons_zero, List.set_cons_succ]
        refine wpAnyH_take (i := 12) (oi := ⟨some 3, _, _, _, _, _⟩) (v := ?_) rfl (by kernel_rfl) (by kernel_rfl) (by kernel_rfl) (fun _ _ _ h => h) (Or.inl ⟨by rfl, ?_⟩) hHeld ?_
        rotate_left
        · (intro w hSw; (try dsimp only at hSw); go_simp; (try with_reducible rfl))
        try simp only [Act.put, List.setIfInBounds_toArray, List.set_cons_zero, List.set_cons_succ]
        refine wpAnyH_done (by kernel_rfl) ?_ _
        go_wp2_with fail
        rw [splice_all _ _ (by rw [Hl16.out]; rfl)] at *
        exact bodyPost_ret (results_row_tmp Tryd.results20 _ _ w.heap.size _ LV.toArray (0, 0) _ rfl (setRow_heap _ _ _ _ _ _ (heap_kept K13.out M1.out)) Tryd.underlying30 rfl Hszz.out) rfl ⟨by rw [Hfin.out]; rfl, K1.out.trans hb4⟩
end Go.Proofs.YtlgdbhebcglkoaaDoor
