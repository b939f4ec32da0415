/-
  What the reference's Start and Sum compute.
-/
import Derived.Test.YtlgdbhebcglkoaaDoorMdV
import Derived.Test.YtlgdbhebcglkoaaDoorMdU
import Derived.Test.YtlgdbhebcglkoaaDoorMdBlocks
namespace Go.Proofs.YtlgdbhebcglkoaaDoor
open Go.RowKit Go.Shelf
theorem sizeR4 : (Tryd.prog.info? 69).map (·.size) = some 4 := by kernel_rfl
theorem rstart_any (w : World) : Calls Tryd.prog 31 #[] w fun e w' => e = .returned (.agg v0) ∧ Kept w w' := by
  go_enter Tryd.func31, Tryd.ntmps31
  go_wp2_with fail
  exact bodyPost_ret (results_cell_row Tryd.results31 _ _ w.heap.size _ v0 (0, 0) _ rfl (hnew _ rfl) Tryd.underlying69 rfl sizeR4) rfl ⟨rfl, (Below.refl _ w).alloc (Nat.le_refl _) _⟩
set_option maxRecDepth 100000 in
set_option maxHeartbeats 8000000 in
theorem rsum_any (A0 : Option Addr) (k c0 : Nat) (P : List Int) (hP : Bts P) (hk : k ≤ 1099511627776) (hkc : k ≤ c0) (w : World) (hr0 : Rd w w.heap.size A0 k (u8s P)) :
    Calls Tryd.prog 21 #[.slice A0 k c0] w fun e w' => e = .returned (.agg (u8s (sumL P)).toArray) ∧ Kept w w' := by
  obtain ⟨i0, hi, hz0, hz1, hz2⟩ := info_parts infoB
  have hPl : P.length = k := by have := hr0.1; rwa [u8s_length] at this
  obtain ⟨q, hq⟩ : ∃ q, 72 - (k + 8) % 64 = q := ⟨_, rfl⟩
  have CP := Lib.hid (fun W => pads_own W k hk)
  rw [hq] at CP
  have hq9 : 9 ≤ q := by omega
  have hq72 : q ≤ 72 := by omega
  obtain ⟨nb, hnb⟩ : ∃ nb, k + q = 64 * nb := ⟨(k + q) / 64, by omega⟩
  have HTl : Hid ((padL k).length = q) := by show _ = _; rw [padL_length]; exact hq
  have HTb := Lib.hid (padL_bts k)
  have HSum : Hid (sumL P = dig (runB st0 (allY (P ++ padL k)))) := by show _ = _; rw [sumL, hPl]
  obtain ⟨T, hT⟩ : ∃ T, T = padL k := ⟨_, rfl⟩
  rw [← hT] at CP HTl HTb HSum
  have HPb := Lib.hid hP
  have Hr0 := Lib.hid hr0
  clear hT hq hP hr0
  go_enter Tryd.func21, Tryd.ntmps21
  go_upto_region 1 with fail
  generalize hw0 : World.alloc w _ = w0
  have hB0 : Kept w w0 := by rw [← hw0]; exact (Below.refl _ w).alloc (Nat.le_refl _) _
  have hg0 : w0.heap[w.heap.size]? = some (.cells z16 30 (0, 0)) := by rw [← hw0]; exact heap_alloc_new w _
  have Hg0 := Lib.hid hg0
  have HB0 := Lib.hid hB0
  have HrP := Lib.hid (rd_kept hB0 Hr0.out)
  have hbz := Below.refl w0.heap.size w0
  clear hw0 hB0 hg0 Hr0
  go_upto_region 3 with (first
    | (at_builtin; refine wpList_app_any _ rfl _ _ 25 rfl w0.heap.size 5 i0 (.int .u8 0) 1 Tryd.underlying25 hi hz0 hz1 hz2 rfl _ (0 + k) ([] ++ u8s P) rfl (own_below Hown3.out K4.out) _ (some ⟨g, 0, none⟩) q c1 (u8s T) rfl Hr4.out (u8s_one _) (by unfold maxLen; omega) (by omega) (HB4.out.size) ?_; intro v5 w5 hown5 hg5; have Hown5 := Lib.hid hown5; have HB5 := Lib.hid (HB4.out.grown hg5 HB4.out.size (fun j e => ((own_below Hown3.out K4.out).lt j e).1)); clear hown5 hg5)
    | (at_builtin; refine wpList_app_any _ rfl _ _ 25 rfl w0.heap.size 5 i0 (.int .u8 0) 1 Tryd.underlying25 hi hz0 hz1 hz2 rfl _ 0 [] rfl (own_none (heap_alloc_new w0 _) (Nat.le_refl _)) _ A0 k c0 (u8s P) rfl (HrP.out.below (hbz.alloc (Nat.le_refl _) _)) (u8s_one _) (by unfold maxLen; omega) (by omega) (by simp) ?_; intro v3 w3 hown3 hg3; have Hown3 := Lib.hid hown3; have HB3 := Lib.hid ((hbz.alloc (Nat.le_refl _) _).grown hg3 (by simp) (fun j e => by cases e; exact Nat.le_refl _)); clear hown3 hg3)
    | (go_at_call 34; refine (CP.out _).mono ?_; rintro e w4 ⟨g, c1, rfl, hr4, k4⟩; have K4 := Lib.hid k4; have Hr4 := Lib.hid hr4; have HB4 := Lib.hid (below_kept HB3.out k4); clear hr4 k4)
    | (go_at_call 31; refine (rstart_any _).mono ?_; rintro e w6 ⟨rfl, k6⟩; have K6 := Lib.hid k6; clear k6)
    | ((refine wpList_store_row ?c0 69 (.tmp 4) (.tmp 17) ?c1 w6.heap.size v0 ?c2 ?c3 _ _ (hnew _ rfl) ?c4 ?c5 ?c6 ?_); (case c0 => with_reducible rfl); (case c1 => with_reducible rfl); (case c2 => rfl); (case c3 => rfl); (case c4 => exact sizeR4); (case c5 => rfl); (case c6 => simp [v0, Value.oneCell'])))
  have k67 : Kept w6 (World.setRow (w6.alloc (.cells z4 69)) w6.heap.size v0) := below_setRow ((Below.refl _ w6).alloc (Nat.le_refl _) _) (Nat.le_refl _) _
  have m7 : (World.setRow (w6.alloc (.cells z4 69)) w6.heap.size v0).heap[w6.heap.size]? = some (.cells v0 69 (0, 0)) := setRow_heap _ _ _ _ _ _ (hnew _ rfl)
  obtain ⟨w7, hw7⟩ : ∃ x, x = World.setRow (w6.alloc (.cells z4 69)) w6.heap.size v0 := ⟨_, rfl⟩
  rw [← hw7] at k67 m7
  change Code.wp _ _ _ _ (World.setRow (w6.alloc (.cells z4 69)) w6.heap.size v0)
  rw [← hw7]
  clear hw7
  obtain ⟨D, hD⟩ : ∃ D, D = P ++ T := ⟨_, rfl⟩
  obtain ⟨N, hN⟩ : ∃ N, N = 0 + k + q := ⟨_, rfl⟩
  have hDl : D.length = N := by rw [hD, List.length_append, hPl, HTl.out, hN]; omega
  have hDb : Bts D := by
    intro x hx
    rw [hD] at hx
    rcases List.mem_append.1 hx with h | h
    · exact HPb.out x h
    · exact HTb.out x h
  have hown : w5.ownsRow w0.heap.size 5 1 v5 N (u8s D) := by
    have h := Hown5.out
    rw [List.nil_append, ← u8s_append, ← hD, ← hN] at h
    exact h
  rw [← hD] at HSum
  have hN64 : N = 64 * nb := by omega
  have hN9 : 9 ≤ N := by omega
  have hnbB : 64 * nb ≤ 1099511627900 := by omega
  clear Hown5 Hown3 HTb hD hN hnb HTl
  obtain ⟨A4, c4, rfl, hc4⟩ := own_slice hown
  have hrd4 := Rd.of_own hown
  obtain ⟨gw, rfl⟩ : ∃ gw, A4 = some ⟨gw, 0, none⟩ := by
    rcases hown.2 with ⟨_, h1⟩ | ⟨g, _, _, h1, _⟩
    · omega
    · injection h1 with h1; exact ⟨g, h1⟩
  have hrd5 := rd_kept K6.out hrd4
  have Hrd := Lib.hid hrd5
  have HK05 := Lib.hid (below_kept HB5.out K6.out)
  obtain ⟨gs, hgs⟩ : ∃ gs, gs = w6.heap.size := ⟨_, rfl⟩
  rw [← hgs] at m7 ⊢
  have Hgs := Lib.hid hgs
  have M7 := Lib.hid m7
  have K67 := Lib.hid k67
  have HDb := Lib.hid hDb
  have HDl := Lib.hid hDl
  clear hown hrd4 hrd5 hgs m7 k67 hDb hDl K6 HB3 HB4 HB5 Hr4 HrP hbz CP
  go_wp2_with fail
  go_loopw [5] (fun i wr => ∃ n o : Nat, n ≤ nb ∧ o = 64 * n ∧ i = .int .i64 (o : Int) ∧ Hid (Kept w6 wr) ∧ Hid (wr.heap[gs]? = some (.cells (vals (runB st0 (fulls D n))) 69 (0, 0)))) (fun i _ => 64 * nb - (intOf i).toNat)
  case atStart => exact ⟨0, 0, by omega, by omega, rfl, K67, M7⟩
  case round =>
    clear M7 K67
    obtain ⟨n, o, hn, ho, rfl, hK, hgs⟩ := hrel
    by_cases hnb : n < nb
    · have hoI : (o : Int) < ((64 * nb : Nat) : Int) := by omega
      obtain ⟨oe, hoe⟩ : ∃ oe, o + 64 = oe := ⟨_, rfl⟩
      have hoeI : (o : Int) + 64 = (oe : Int) := by omega
      have hoeW : IntKind.i64.wrap ((o : Int) + 64) = (oe : Int) := by rw [IntWalk.i64_in _ (by omega)]; exact hoeI
      have hoeW2 : IntKind.i64.wrap (oe : Int) = (oe : Int) := by rw [IntWalk.i64_in _ (by omega)]
      have hoI2 : (oe : Int) ≤ ((64 * nb : Nat) : Int) := by omega
      have hoI3 : (oe : Int) ≤ (c4 : Int) := by omega
      have hoI4 : (o : Int) ≤ (oe : Int) := by omega
      have hoI0 : (0 : Int) ≤ (o : Int) := by omega
      have hoI5 : ¬ (c4 : Int) = (o : Int) := by omega
      have hoI6 : ¬ c4 = o := by omega
      have hoI7 : oe - o = 64 := by omega
      have hoI8 : c4 - o ≠ 0 := by omega
      have hoI9 : o < c4 := by omega
      obtain ⟨l, hl⟩ : ∃ l, l = (D.drop o).take 64 := ⟨_, rfl⟩
      have hll : l.length = 64 := by rw [hl, List.length_take, List.length_drop, HDl.out]; omega
      have hlb : Bts l := by rw [hl]; exact (HDb.out.drop _).take _
      have hblk : blk D (64 * (n + 1)) = l := by rw [blk_full D n (by rw [HDl.out]; omega), hl, ho]
      have hrg : w6.rangeAt gw o (u8s l) := by
        intro j v hv
        obtain ⟨ad, e, _, hc⟩ := Hrd.out.2 (by omega)
        cases e
        have hj : j < 64 := by
          have := (List.getElem?_eq_some_iff.1 hv).1
          rw [u8s_length, hll] at this
          exact this
        have := hc (o + j) v (by
          rw [← hv, hl]
          unfold u8s
          rw [List.getElem?_map, List.getElem?_map, List.getElem?_take, if_pos hj, List.getElem?_drop])
        rwa [add0] at this
      have hgwl : gw < w6.heap.size := by
        obtain ⟨ad, e, hlt, _⟩ := Hrd.out.2 (by omega)
        cases e
        exact hlt
      obtain ⟨⟨a, b, c, d⟩, hst⟩ : ∃ st, runB st0 (fulls D n) = st := ⟨_, rfl⟩
      obtain ⟨⟨x, y, z, u⟩, hst2⟩ : ∃ st, stp (a, b, c, d) l = st := ⟨_, rfl⟩
      have Hnext : Hid (runB st0 (fulls D (n + 1)) = (x, y, z, u)) := by
        show _ = _
        rw [fulls_succ, runB_snoc, hst, hblk]
        exact hst2
      rw [hst] at hgs
      have hg0 : wr.heap[gs]? = some (.cells #[V a, V b, V c, V d] 69 (0, 0)) := hgs.out
      have CStep : Hid (∀ {cc : Nat} (W : World), Below wr.heap.size wr W → Calls Tryd.prog 33 #[.agg #[V a, V b, V c, V d], .slice (some ⟨gw, o, none⟩) 64 cc] W fun e w' => e = .returned (.agg #[V x, V y, V z, V u]) ∧ Kept W w') := by
        intro cc W h
        have hk := below_kept hK.out h
        refine (rstep_any a b c d l hll hlb gw o cc W (range_kept' hk hgwl hrg)).mono ?_
        rintro e w' ⟨rfl, k⟩
        rw [hst2]
        exact ⟨rfl, k⟩
      have Hg0' := Lib.hid hg0
      have hc0 : wr.drew.cell? ⟨gs, 0, none⟩ = some (V a) := by show wr.cell? _ = _; rw [cell_of_row _ _ _ _ _ _ hg0]; rfl
      have hc1 : wr.drew.cell? ⟨gs, 1, none⟩ = some (V b) := by show wr.cell? _ = _; rw [cell_of_row _ _ _ _ _ _ hg0]; rfl
      have hc2 : wr.drew.cell? ⟨gs, 2, none⟩ = some (V c) := by show wr.cell? _ = _; rw [cell_of_row _ _ _ _ _ _ hg0]; rfl
      have hc3 : wr.drew.cell? ⟨gs, 3, none⟩ = some (V d) := by show wr.cell? _ = _; rw [cell_of_row _ _ _ _ _ _ hg0]; rfl
      have hgsl := heap_lt hg0
      have Ho := Lib.hid ho
      have Hoe := Lib.hid hoe
      clear hgs hst hst2 hl hll hlb hblk hrg hgwl hg0 ho hoe hoeW
      go_upto_region 6 with fail
      refine wp_region_held_drew (S := (fun _ => True)) (by kernel_rfl) ?_ (fun hHeld => ?_)
      · trivial
      refine wpAnyH_take (i := 1) (oi := ⟨some 25, _, _, _, _, _⟩) (v := ?_) rfl (by kernel_rfl) (by kernel_rfl) (by kernel_rfl) (fun _ _ _ h => h) (Or.inl ⟨by rfl, ?_⟩) hHeld ?_
      rotate_left
      · (intro w hSw; (try dsimp only at hSw); go_simp; (try with_reducible rfl))
      try simp only [Act.put, List.setIfInBounds_toArray, List.set_cons_zero, List.set_cons_succ]
      refine wpAnyH_take (i := 2) (oi := ⟨some 26, _, _, _, _, _⟩) (v := ?_) rfl (by kernel_rfl) (by kernel_rfl) (by kernel_rfl) (fun _ _ _ h => h) (Or.inl ⟨by rfl, ?_⟩) hHeld ?_
      rotate_left
      · (intro w hSw; (try dsimp only at hSw); go_simp; (try with_reducible rfl))
      try simp only [Act.put, List.setIfInBounds_toArray, List.set_cons_zero, List.set_cons_succ]
      refine wpAnyH_take (i := 3) (oi := ⟨some 27, _, _, _, _, _⟩) (v := ?_) rfl (by kernel_rfl) (by kernel_rfl) (by kernel_rfl) (fun _ _ _ h => h) (Or.inl ⟨by rfl, ?_⟩) hHeld ?_
      rotate_left
      · (intro w hSw; (try dsimp only at hSw); go_simp; (try with_reducible rfl))
      try simp only [Act.put, List.setIfInBounds_toArray, List.set_cons_zero, List.set_cons_succ]
      refine wpAnyH_take (i := 4) (oi := ⟨some 28, _, _, _, _, _⟩) (v := ?_) rfl (by kernel_rfl) (by kernel_rfl) (by kernel_rfl) (fun _ _ _ h => h) (Or.inl ⟨by rfl, ?_⟩) hHeld ?_
      rotate_left
      · (intro w hSw; (try dsimp only at hSw); go_simp; (try with_reducible rfl))
      try simp only [Act.put, List.setIfInBounds_toArray, List.set_cons_zero, List.set_cons_succ]
      refine wpAnyH_take (i := 5) (oi := ⟨some 29, _, _, _, _, _⟩) (v := ?_) rfl (by kernel_rfl) (by kernel_rfl) (by kernel_rfl) (fun _ _ _ h => h) (Or.inl ⟨by rfl, ?_⟩) hHeld ?_
      rotate_left
      · (intro w hSw; (try dsimp only at hSw); go_simp; (try with_reducible rfl))
      try simp only [Act.put, List.setIfInBounds_toArray, List.set_cons_zero, List.set_cons_succ]
      refine wpAnyH_ready (rs := [0]) (by kernel_rfl) (by simp) ?_
      refine AllReadyH.cons (o := ⟨some 24, _, _, _, _, _⟩) rfl (fun K hK => ?_) (AllReadyH.nil)
      · go_simp
        refine hK.out _ _ ?_ (fun hHeld => ?_)
        · trivial
        clear hK K
        try simp only [Act.put, List.setIfInBounds_toArray, List.set_cons_zero, List.set_cons_succ]
        refine wpAnyH_ready (rs := [6]) (by kernel_rfl) (by simp) ?_
        refine AllReadyH.cons (o := ⟨some 30, _, _, _, _, _⟩) rfl (fun K hK => ?_) (AllReadyH.nil)
        · go_simp
          go_at_call 33; refine (CStep.out _ (Below.refl _ wr).drew).mono ?_; rintro e w8 ⟨rfl, k8⟩; have e0 := heap_kept k8 (heap_drew0 Hg0'.out); have hb8 := below_kept (Below.refl _ wr).drew k8; have d0 : w8.cell? ⟨gs, 0, none⟩ = some (V a) := (by rw [cell_of_row _ _ _ _ _ _ e0]; rfl); have d1 : w8.cell? ⟨gs, 1, none⟩ = some (V b) := (by rw [cell_of_row _ _ _ _ _ _ e0]; rfl); have d2 : w8.cell? ⟨gs, 2, none⟩ = some (V c) := (by rw [cell_of_row _ _ _ _ _ _ e0]; rfl); have d3 : w8.cell? ⟨gs, 3, none⟩ = some (V d) := (by rw [cell_of_row _ _ _ _ _ _ e0]; rfl); have f0 : ∀ j, w8.frozen? ⟨gs, j, none⟩ = false := (fun j => (by simp [World.frozen?, e0])); have E0 := Lib.hid e0; clear e0; dsimp only
          go_wp2_with fail
          refine hK.out _ _ ?_ (fun hHeld => ?_)
          · trivial
          clear hK K
          try simp only [Act.put, List.setIfInBounds_toArray, List.set_cons_zero, List.set_cons_succ]
          refine wpAnyH_ready (rs := [7]) (by kernel_rfl) (by simp) ?_
          refine AllReadyH.cons (o := ⟨none, _, _, _, _, _⟩) rfl (fun K hK => ?_) (AllReadyH.nil)
          · go_simp
            refine hK.out _ _ ?_ (fun hHeld => ?_)
            · trivial
            clear hK K
            try simp only [Act.put, List.setIfInBounds_toArray, List.set_cons_zero, List.set_cons_succ]
            refine wpAnyH_done (by kernel_rfl) ?_ _
            go_wp2_with fail
            have hle : w6.heap.size ≤ gs := (by rw [Hgs.out]; exact Nat.le_refl _)
            go_roundw
            case rel =>
              refine ⟨n + 1, oe, by omega, by have h1 := Ho.out; have h2 := Hoe.out; omega, rfl, ?_, ?_⟩
              · exact ((((below_kept hK.out hb8).setCell (p := ⟨gs, 0, none⟩) hle _).setCell (p := ⟨gs, 1, none⟩) hle _).setCell (p := ⟨gs, 2, none⟩) hle _).setCell (p := ⟨gs, 3, none⟩) hle _
              · show _ = _
                rw [Hnext.out]
                exact heap_setCell_same _ _ 3 _ _ _ (heap_setCell_same _ _ 2 _ _ _ (heap_setCell_same _ _ 1 _ _ _ (heap_setCell_same _ _ 0 _ _ _ E0.out)))
            case measure =>
              have h2 := Hoe.out
              simp [intOf]
              omega
    · obtain rfl : n = nb := by omega
      have hoI : ¬ (o : Int) < ((64 * n : Nat) : Int) := by omega
      have hfin : fulls D n = allY D := by
        unfold allY
        rw [HDl.out, hN64, Nat.mul_div_cancel_left _ (by omega), Nat.mul_mod_right, if_neg (by omega), List.append_nil]
      rw [hfin] at hgs
      have hSum := HSum.out
      obtain ⟨st, hst⟩ : ∃ st, runB st0 (allY D) = st := ⟨_, rfl⟩
      rw [hst] at hgs hSum
      have HSum2 := Lib.hid hSum
      have HK := Lib.hid (below_kept HB0.out (below_kept HK05.out hK.out))
      have hsz0 := below_kept HK05.out hK.out
      have Hg0w := Lib.hid (heap_kept hsz0 Hg0.out)
      have Hgs2 := hgs
      have hgsl := heap_lt hgs.out
      obtain ⟨w8, rfl⟩ : ∃ x, x = wr := ⟨_, rfl⟩
      clear hfin hSum hst HSum Hrd HDb HDl hi hz0 hz1 hz2 HB0 HK05 Hg0 hK hgs hsz0 Hgs ho hn hN64 hN9 hnbB
      go_upto_region 8 with fail
      have hgd : (w8.alloc (.cells z16 30)).heap[w8.heap.size]? = some (.cells (u8s (digK st 0)).toArray 30 (0, 0)) := by
        rw [digK_zero]
        exact heap_alloc_new _ _
      have hBd : Kept w8 (w8.alloc (.cells z16 30)) := (Below.refl _ w8).alloc (Nat.le_refl _) _
      obtain ⟨w9, hw9⟩ : ∃ x, x = w8.alloc (.cells z16 30) := ⟨_, rfl⟩
      rw [← hw9] at hgd hBd
      change Code.wp _ _ _ _ (w8.alloc (.cells z16 30))
      rw [← hw9]
      clear hw9
      obtain ⟨gd, hgd'⟩ : ∃ g, g = w8.heap.size := ⟨_, rfl⟩
      have HB0 : Hid (∀ w', Below gd w9 w' → Kept w w' ∧ w'.heap[gs]? = some (.cells (vals st) 69 (0, 0)) ∧ w'.heap[w.heap.size]? = some (.cells z16 30 (0, 0))) := by
        intro w' h
        have h' : Kept w8 w' := by rw [hgd'] at h; exact hBd.trans h
        exact ⟨below_kept HK.out h', heap_kept h' Hgs2.out, heap_kept h' Hg0w.out⟩
      rw [← hgd'] at hgd ⊢
      have Hgd := Lib.hid hgd
      have Hgsl : Hid (gs < gd) := by rw [hgd']; exact hgsl
      clear hgd hBd HK Hgs2 Hg0w hgd' hgsl
      go_wp2_with fail
      go_loopw [7] (fun i wr => ∃ k : Nat, k ≤ 4 ∧ i = .int .i64 k ∧ Below gd w9 wr ∧ Hid (wr.heap[gd]? = some (.cells (u8s (digK st (4 * k))).toArray 30 (0, 0)))) (fun i _ => 4 - (intOf i).toNat)
      case atStart => exact ⟨0, by omega, rfl, Below.refl _ _, Hgd⟩
      case round =>
        clear Hgd
        obtain ⟨k2, hk2, rfl, hBr, hrow⟩ := hrel
        by_cases hk4 : k2 < 4
        · have hkI : (k2 : Int) < 4 := by omega
          obtain ⟨_, hc0, _⟩ := HB0.out wr hBr
          obtain ⟨ww, hww⟩ : ∃ x, wrd st k2 = x := ⟨_, rfl⟩
          have hcell : wr.cell? ⟨gs, k2, none⟩ = some (V ww) := by
            rw [cell_of_row _ _ _ _ _ _ hc0, ← hww]
            rcases (by omega : k2 = 0 ∨ k2 = 1 ∨ k2 = 2 ∨ k2 = 3) with rfl | rfl | rfl | rfl <;> rfl
          have Hww := Lib.hid hww
          clear hww hc0
          go_wp2_with fail
          obtain ⟨wA, rfl⟩ : ∃ x, x = wr := ⟨_, rfl⟩
          have Hrow := hrow
          have HBr := Lib.hid hBr
          clear hrow hBr hcell
          go_loopw [8, 9] (fun x j wr => ∃ k y : Nat, k ≤ 4 ∧ j = .int .i64 (k : Int) ∧ x = .int .u32 (y : Int) ∧ Hid (y = ww.toNat / 256 ^ k) ∧ Below gd w9 wr ∧ Hid (wr.heap[gd]? = some (.cells (u8s (digK st (4 * k2 + k))).toArray 30 (0, 0)))) (fun _ j _ => 4 - (intOf j).toNat)
          case atStart => exact ⟨0, ww.toNat, by omega, rfl, rfl, by show _ = _; simp, HBr.out, Hrow⟩
          case round =>
            clear Hrow HBr
            obtain ⟨k, y, hk, rfl, rfl, hy, hBr, hrow⟩ := hrel
            by_cases hkk : k < 4
            · have hkkI : (k : Int) < 4 := by omega
              have hyl : y < 4294967296 := by
                rw [hy.out]
                exact Nat.lt_of_le_of_lt (Nat.div_le_self _ _) ww.isLt
              obtain ⟨v, hv⟩ : ∃ v, y % 256 = v := ⟨_, rfl⟩
              obtain ⟨y', hy'⟩ : ∃ v, y / 256 = v := ⟨_, rfl⟩
              have hvI : (y : Int) % 256 = (v : Int) := by omega
              have hvW : (v : Int) % 256 = (v : Int) := by omega
              have hyI : (y : Int) / 256 = (y' : Int) := by omega
              have hyW : (y' : Int) % 4294967296 = (y' : Int) := by omega
              have Hy' : Hid (y' = ww.toNat / 256 ^ (k + 1)) := by
                show _ = _
                rw [Nat.pow_succ, ← Nat.div_div_eq_div_mul, ← hy.out, hy']
              obtain ⟨at4, hat⟩ : ∃ x, 4 * k2 + k = x := ⟨_, rfl⟩
              have hatI : 4 * (k2 : Int) + (k : Int) = (at4 : Int) := by omega
              have hatB : (at4 : Int) < 16 := by omega
              rw [hat] at hrow
              have Hs := Lib.hid (digK_succ st at4 (by omega) (v : Int) (by rw [show at4 / 4 = k2 from by omega, show at4 % 4 = k from by omega, Hww.out, ← hy.out, hv]))
              have hcg : wr.cell? ⟨gd, at4, none⟩ = some (.int .u8 ((digK st at4).getD at4 0)) := by
                rw [cell_of_row _ _ _ _ _ _ hrow.out, List.getElem?_toArray, u8s_get _ _ (by rw [digK_length _ _ (by omega)]; omega)]
              have hfg : wr.frozen? ⟨gd, at4, none⟩ = false := by simp [World.frozen?, hrow.out]
              generalize (digK st at4).getD at4 0 = oo at hcg
              have Hat := Lib.hid hat
              clear hat hv hy' hyl
              go_wp2_with fail
              go_roundw
              case rel =>
                refine ⟨k + 1, y', by omega, by go_num, rfl, Hy', hBr.setCell (p := ⟨gd, at4, none⟩) (Nat.le_refl _) _, ?_⟩
                show _ = _
                rw [heap_setCell_same _ _ _ _ _ _ hrow.out, Hs.out, ← Nat.add_assoc, Hat.out]
              case measure => simp [intOf]; omega
            · obtain rfl : k = 4 := by omega
              have hkkI : ¬ (4 : Int) < 4 := by omega
              have hrow2 : Hid (wr.heap[gd]? = some (.cells (u8s (digK st (4 * (k2 + 1)))).toArray 30 (0, 0))) := hrow.out
              go_wp2_with fail
              go_roundw
              case rel => exact ⟨k2 + 1, by omega, by go_num, hBr, hrow2⟩
              case measure => simp [intOf]; omega
        · obtain rfl : k2 = 4 := by omega
          obtain ⟨hBW, _, hc1⟩ := HB0.out wr hBr
          have hrow2 : wr.heap[gd]? = some (.cells (u8s (digK st 16)).toArray 30 (0, 0)) := hrow.out
          rw [digK_all] at hrow2
          have hdl := dig_length st
          have Hone := Lib.hid (row_all' (dig st))
          have Hdl : Hid ((u8s (dig st)).toArray.size = 16) := by show _ = _; rw [List.size_toArray, u8s_length, hdl]
          have Hdz : Hid ((Tryd.prog.info? 30).map (·.size) = some (u8s (dig st)).toArray.size) := by show _ = _; rw [Hdl.out]; exact size16b
          rw [← HSum2.out] at hrow2 Hone Hdl Hdz
          have Hrow2 := Lib.hid hrow2
          have Hc1 := Lib.hid hc1
          generalize hLS : (u8s (sumL P)).toArray = LS at *
          have HLS := Lib.hid hLS
          clear hrow hrow2 hc1 hdl hLS
          go_wp2_with (first
            | ((refine wpList_load_row ?c0 30 (.tmp 6) ?c1 gd ?c2 30 LS (0, 0) _ Hrow2.out Tryd.underlying30 ?c3 Hdz.out ?_); (case c0 => with_reducible rfl); (case c1 => with_reducible rfl); (case c2 => rfl); (case c3 => rfl))
            | ((refine wpList_store_row ?c0 30 (.tmp 2) (.tmp 52) ?c1 w.heap.size LS ?c2 ?c3 _ _ Hc1.out ?c4 ?c5 ?c6 ?_); (case c0 => with_reducible rfl); (case c1 => with_reducible rfl); (case c2 => rfl); (case c3 => rfl); (case c4 => exact Hdz.out); (case c5 => exact Hdl.out.symm); (case c6 => exact Hone.out)))
          exact bodyPost_ret (results_cell_row Tryd.results21 _ _ w.heap.size _ LS (0, 0) _ rfl (setRow_heap _ _ _ _ _ _ Hc1.out) Tryd.underlying30 rfl Hdz.out) rfl ⟨by rw [HLS.out], below_setRow hBW (Nat.le_refl _) _⟩
end Go.Proofs.YtlgdbhebcglkoaaDoor
