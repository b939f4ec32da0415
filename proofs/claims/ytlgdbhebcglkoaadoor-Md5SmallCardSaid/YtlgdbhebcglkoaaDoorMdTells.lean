/-
  The walk of tells and of Md5Tells.
-/
import Derived.Test.YtlgdbhebcglkoaaDoorMdX
import Derived.Deep.DeepCutAuto
import Derived.Deep.RegionHeld3
namespace Go.Proofs.YtlgdbhebcglkoaaDoor
open Go.RowKit Go.Shelf
theorem eq_v0 (W : World) : (Op.equalIn 10000 24 (.agg v0) (.agg v0)).run Tryd.prog W = .ok true W := by
  have := eq_state st0 st0 W
  rw [v0_vals, decide_eq_true rfl] at this
  exact this
theorem range_rd {w : World} {B g n : Nat} {L : List Value} (h : Rd w B (some ⟨g, 0, none⟩) n L) (hn : 0 < n) : w.rangeAt g 0 L := by
  obtain ⟨ad, e, _, hc⟩ := h.2 hn
  cases e
  intro j v hv
  have := hc j v hv
  rw [add0] at this
  rwa [Nat.zero_add]
theorem rd_takes {w : World} {B n : Nat} {A : Option Addr} {P : List Int} (h : Rd w B A n (u8s P)) (k : Nat) (hk : k ≤ n) : Rd w B A k (u8s (P.take k)) := by
  have := rd_take' h k hk
  rwa [u8s_take'] at this
set_option maxRecDepth 100000 in
set_option maxHeartbeats 8000000 in
theorem tells_any (a b c d : BitVec 32) (A0 : Option Addr) (k c0 : Nat) (P : List Int) (hP : Bts P) (hk : k ≤ 1000) (hkc : k ≤ c0) (n : Nat) (hn : n < 18446744073709551616) (w : World) (hr0 : Rd w w.heap.size A0 k (u8s P)) (hT : Tab w) :
    Calls Tryd.prog 13 #[.agg #[V a, V b, V c, V d], .slice A0 k c0, .int .u64 (n : Int)] w fun e w' => e = .returned (.bool true) ∧ Below w.heap.size w w' := by
  obtain ⟨i0, hi, hz0, hz1, hz2⟩ := info_parts infoB
  have hPl : P.length = k := by have := hr0.1; rwa [u8s_length] at this
  have HPb := Lib.hid hP
  have HT := Lib.hid hT
  have Hr0 := Lib.hid hr0
  have CrS : Hid (∀ W, Kept w W → Calls Tryd.prog 21 #[.slice A0 k c0] W fun e w' => e = .returned (.agg (u8s (sumL P)).toArray) ∧ Kept W w') := fun W h => rsum_any A0 k c0 P HPb.out (by omega) hkc W (rd_kept h Hr0.out)
  have CrW : Hid (∀ W, Kept w W → Calls Tryd.prog 32 #[.slice A0 k c0] W fun e w' => e = .returned (.int .u64 (wordL P : Int)) ∧ Kept W w') := fun W h => rword_any A0 k c0 P HPb.out (by omega) hkc W (rd_kept h Hr0.out)
  clear hr0 hT hP
  go_enter Tryd.func13, Tryd.ntmps13
  go_upto_region 1 with fail
  generalize hw0 : World.alloc w _ = w0
  have hB0 : Kept w w0 := by rw [← hw0]; exact (Below.refl _ w).alloc (Nat.le_refl _) _
  have hg0 : w0.heap[w.heap.size]? = some (.cells #[V a, V b, V c, V d] 24 (0, 0)) := by rw [← hw0]; exact heap_alloc_new w _
  have Hg0 := Lib.hid hg0
  have HB0 := Lib.hid hB0
  have hbz := Below.refl w0.heap.size w0
  clear hw0 hB0 hg0
  go_upto_region 2 with (at_builtin; refine wpList_app_any _ rfl _ _ 25 rfl w0.heap.size 5 i0 (.int .u8 0) 1 Tryd.underlying25 hi hz0 hz1 hz2 rfl _ 0 [] rfl (own_none (heap_alloc_new w0 _) (Nat.le_refl _)) _ A0 k c0 (u8s P) rfl ((rd_kept HB0.out Hr0.out).below (hbz.alloc (Nat.le_refl _) _)) (u8s_one _) (by unfold maxLen; omega) (by omega) (by simp) ?_; intro v3 w3 hown3 hg3; have Hown3 := Lib.hid hown3; have HB3 := Lib.hid ((hbz.alloc (Nat.le_refl _) _).grown hg3 (by simp) (fun j e => by cases e; exact Nat.le_refl _)); clear hown3 hg3)
  obtain ⟨A3, c3, rfl, hc3⟩ := own_slice Hown3.out
  have hrd3 := Rd.of_own Hown3.out
  have hA3 : 0 < k → ∃ g3, A3 = some ⟨g3, 0, none⟩ := by
    intro h0
    rcases Hown3.out.2 with ⟨_, h1⟩ | ⟨g, _, _, h1, _⟩
    · omega
    · injection h1 with h1; exact ⟨g, h1⟩
  have HA3 := Lib.hid hA3
  clear hA3
  rw [Nat.zero_add, List.nil_append] at hrd3
  rw [Nat.zero_add] at hc3
  have Hrd3 := Lib.hid hrd3
  have Hw3 : Hid (Kept w w3) := below_kept HB0.out HB3.out
  have Hg3 := Lib.hid (heap_kept HB3.out Hg0.out)
  clear hrd3 Hown3 HB3 hbz Hg0 HB0
  simp only [Nat.zero_add]
  have CoS : Hid (∀ W, Kept w3 W → Calls Tryd.prog 24 #[.slice A3 k c3] W fun e w' => e = .returned (.agg (u8s (sumL P)).toArray) ∧ Kept W w') := fun W h => sum_any A3 k c3 P HPb.out (by omega) hc3 W (rd_kept h Hrd3.out) (HT.out.below (below_kept Hw3.out h))
  have CoW : Hid (∀ W, Kept w3 W → Calls Tryd.prog 30 #[.slice A3 k c3] W fun e w' => e = .returned (.int .u64 (wordL P : Int)) ∧ Kept W w') := fun W h => word_any A3 k c3 P HPb.out (by omega) hc3 W (rd_kept h Hrd3.out) (HT.out.below (below_kept Hw3.out h))
  have CoM : Hid (∀ W x, 0 < x → Kept w3 W → Calls Tryd.prog 29 #[.slice A3 k c3, .int .u64 ((x : Nat) : Int)] W fun e w' => e = .returned (.tuple #[.int .u64 ((wordL P % x : Nat) : Int), .int .i64 0]) ∧ Kept W w') := fun W x hx h => modulo_any A3 k c3 P HPb.out (by omega) hc3 x hx W (rd_kept h Hrd3.out) (HT.out.below (below_kept Hw3.out h))
  have Heq : Hid (∀ W, (Op.equalIn 10000 30 (.agg (u8s (sumL P)).toArray) (.agg (u8s (sumL P)).toArray)).run Tryd.prog W = .ok true W) := fun W => by rw [eq_dig _ _ (sumL_length P) (sumL_length P), decide_eq_true rfl]
  have hk33 := Below.refl w3.heap.size w3
  go_cut [33] (fun v wx => v = .bool false ∧ Below w3.heap.size w3 wx)
  case first =>
    have heq := Heq.out
    have hv0 := eq_v0
    generalize (u8s (sumL P)).toArray = LS at *
    generalize (wordL P : Int) = wv at *
    go_wp2_with (first
      | (go_at_call 26; refine (start_any _).mono ?_; rintro e w4 ⟨rfl, k4⟩; have K4 := Lib.hid k4; clear k4)
      | (go_at_call 31; refine (rstart_any _).mono ?_; rintro e w5 ⟨rfl, k5⟩; have K5 := Lib.hid (below_kept K4.out k5); clear k5)
      | (go_at_call 24; refine (CoS.out _ K5.out).mono ?_; rintro e w6 ⟨rfl, k6⟩; have K6 := Lib.hid (below_kept K5.out k6); clear k6)
      | (go_at_call 21; refine (CrS.out _ (below_kept Hw3.out K6.out)).mono ?_; rintro e w7 ⟨rfl, k7⟩; have K7 := Lib.hid (below_kept K6.out k7); clear k7)
      | (go_at_call 30; refine (CoW.out _ K7.out).mono ?_; rintro e w8 ⟨rfl, k8⟩; have K8 := Lib.hid (below_kept K7.out k8); clear k8)
      | (go_at_call 32; refine (CrW.out _ (below_kept Hw3.out K8.out)).mono ?_; rintro e w9 ⟨rfl, k9⟩; have K9 := Lib.hid (below_kept K8.out k9); clear k9))
    go_meet
    exact ⟨rfl, K9.out⟩
  case rest =>
  obtain ⟨rfl, k4⟩ := hcut
  obtain ⟨w4, rfl⟩ : ∃ x, x = wc := ⟨_, rfl⟩
  have hk44 := Below.refl w4.heap.size w4
  go_upto_region 4 with fail
  go_cut [8, 9] (fun v8 v9 wx => ∃ x : Nat, ∃ e : Int, v8 = .int .u64 (x : Int) ∧ v9 = .int .i64 e ∧ ((n = 0 ∧ x = 0 ∧ e = 2) ∨ (0 < n ∧ x = wordL P % n ∧ e = 0)) ∧ Below w4.heap.size w4 wx)
  case first =>
    by_cases hn0 : n = 0
    · subst hn0
      go_wp2_with (go_at_call 29; refine (modulo_zero A3 k c3 _).mono ?_; rintro e w' ⟨rfl, rfl⟩)
      go_meet
      exact ⟨0, 2, rfl, rfl, .inl (by simp), hk44⟩
    · have CM := Lib.hid (fun W h => CoM.out W n (by omega) h)
      obtain ⟨x, hx⟩ : ∃ x, wordL P % n = x := ⟨_, rfl⟩
      rw [hx] at CM
      have Hx := Lib.hid hx
      clear hx
      go_wp2_with (go_at_call 29; refine (CM.out _ k4).mono ?_; rintro e w5 ⟨rfl, k5⟩; have K5 := Lib.hid k5; clear k5)
      go_meet
      exact ⟨x, 0, rfl, rfl, .inr ⟨by omega, Hx.out.symm, rfl⟩, K5.out⟩
  case rest =>
  obtain ⟨x, e, rfl, rfl, hxe, k5⟩ := hcut
  have K5 := Lib.hid (below_kept k4 k5)
  obtain ⟨w5, rfl⟩ : ∃ x, x = wc := ⟨_, rfl⟩
  have hk55 := Below.refl w5.heap.size w5
  clear k4 k5 hk44 hk33
  go_upto_region 5 with fail
  go_cut [65] (fun v wx => v = .bool false ∧ Below w5.heap.size w5 wx)
  case first =>
    rcases hxe with ⟨rfl, rfl, rfl⟩ | ⟨hn0, hx, rfl⟩
    · go_wp2_with fail
      go_meet
      exact ⟨rfl, hk55⟩
    · have hnI : ((n : Int) == 0) = false := by simp; omega
      have hnJ : (0 : Int) < (n : Int) := by omega
      have hnK : ¬ (n : Int) = 0 := by omega
      have hxI : ((wordL P : Nat) : Int) % (n : Int) = (x : Int) := by rw [hx]; simp
      have hxT : ((wordL P : Nat) : Int).tmod (n : Int) = (x : Int) := by rw [Int.tmod_eq_emod_of_nonneg (by omega)]; exact hxI
      generalize ((wordL P : Nat) : Int) = wv at *
      clear hx
      go_wp2_with (go_at_call 32; refine (CrW.out _ (below_kept Hw3.out K5.out)).mono ?_; rintro e w6 ⟨rfl, k6⟩; have K6 := Lib.hid k6; clear k6)
      go_meet
      exact ⟨rfl, K6.out⟩
  case rest =>
  obtain ⟨rfl, k6⟩ := hcut
  have K6 := Lib.hid (below_kept K5.out k6)
  obtain ⟨w6, rfl⟩ : ∃ x, x = wc := ⟨_, rfl⟩
  clear k6 hxe hk55 K5 CoS CoW CoM CrS CrW Heq
  go_upto_region 7 with fail
  go_cut [72, 73, 74] (fun v72 v73 v74 wx => ∃ gX k7 : Nat, v72 = .slice (some ⟨gX, 0, none⟩) 2 2 ∧ v73 = .int .i64 2 ∧ v74 = .int .i64 0 ∧ Hid (wx.heap[gX]? = some (.cells #[.slice A3 k c3, .slice A3 k7 c3] 25 (0, 0))) ∧ k7 ≤ k ∧ Kept w6 wx)
  case first =>
    by_cases hk64 : (k : Int) ≤ 64
    · go_wp2_with fail
      go_meet
      exact ⟨_, k, rfl, rfl, rfl, heap_alloc_new _ _, Nat.le_refl _, (Below.refl _ w6).alloc (Nat.le_refl _) _⟩
    · have h4 : (64 : Int) ≤ (k : Int) := by omega
      have h5 : (64 : Int) ≤ (c3 : Int) := by omega
      go_wp2_with fail
      go_meet
      exact ⟨_, 64, rfl, rfl, rfl, heap_alloc_new _ _, by omega, (Below.refl _ w6).alloc (Nat.le_refl _) _⟩
  case rest =>
  obtain ⟨gX, k7, rfl, rfl, rfl, hgX, hk7, k7'⟩ := hcut
  obtain ⟨w7, rfl⟩ : ∃ x, x = wc := ⟨_, rfl⟩
  have K7 := Lib.hid (below_kept K6.out k7')
  have Hg7 := Lib.hid (heap_kept K7.out Hg3.out)
  have hb7 := Below.refl w7.heap.size w7
  clear k7' K6
  go_wp2_with fail
  go_loopw [74] (fun i wr => ∃ j : Nat, j ≤ 2 ∧ i = .int .i64 j ∧ Kept w7 wr) (fun i _ => 2 - (intOf i).toNat)
  case atStart => exact ⟨0, by omega, rfl, hb7⟩
  case round =>
    obtain ⟨j, hj, rfl, hK⟩ := hrel
    by_cases hj2 : j < 2
    · have hjI : (j : Int) < 2 := by omega
      have hgXr := heap_kept hK hgX.out
      obtain ⟨kx, hkx, hcell⟩ : ∃ kx, kx ≤ k ∧ wr.cell? ⟨gX, j, none⟩ = some (.slice A3 kx c3) := by
        rcases (by omega : j = 0 ∨ j = 1) with rfl | rfl
        · exact ⟨k, Nat.le_refl _, by rw [cell_of_row _ _ _ _ _ _ hgXr]; rfl⟩
        · exact ⟨k7, hk7, by rw [cell_of_row _ _ _ _ _ _ hgXr]; rfl⟩
      have hg := heap_kept hK Hg7.out
      have HK := Lib.hid (below_kept K7.out hK)
      have HK7 := Lib.hid hK
      have Hg := Lib.hid hg
      clear hgXr hK hg
      go_upto_region 10 with fail
      by_cases hk64 : kx = 64
      · subst hk64
        obtain ⟨g3, rfl⟩ := HA3.out (by omega)
        have hl64 : (P.take 64).length = 64 := by rw [List.length_take, hPl]; omega
        have hlb : Bts (P.take 64) := HPb.out.take 64
        have hrg : ∀ W, Kept w3 W → W.rangeAt g3 0 (u8s (P.take 64)) := fun W h => range_rd (rd_takes (rd_kept h Hrd3.out) 64 hkx) (by omega)
        obtain ⟨⟨x1, x2, x3, x4⟩, hst⟩ : ∃ st, stp (a, b, c, d) (P.take 64) = st := ⟨_, rfl⟩
        have C1 : Hid (∀ W, Kept w3 W → Calls Tryd.prog 27 #[.agg #[V a, V b, V c, V d], .slice (some ⟨g3, 0, none⟩) 64 c3] W fun e w' => e = .returned (.tuple #[.agg #[V x1, V x2, V x3, V x4], .int .i64 0]) ∧ Kept W w') := fun W h => by
          refine (step_yes a b c d (P.take 64) hl64 hlb g3 0 c3 W (hrg W h) (HT.out.below (below_kept Hw3.out h))).mono ?_
          rintro e w' ⟨rfl, k⟩
          rw [hst]
          exact ⟨rfl, k⟩
        have C2 : Hid (∀ W, Kept w3 W → Calls Tryd.prog 33 #[.agg #[V a, V b, V c, V d], .slice (some ⟨g3, 0, none⟩) 64 c3] W fun e w' => e = .returned (.agg #[V x1, V x2, V x3, V x4]) ∧ Kept W w') := fun W h => by
          refine (rstep_any a b c d (P.take 64) hl64 hlb g3 0 c3 W (hrg W h)).mono ?_
          rintro e w' ⟨rfl, k⟩
          rw [hst]
          exact ⟨rfl, k⟩
        have hq := eq_four x1 x2 x3 x4 x1 x2 x3 x4
        rw [decide_eq_true rfl] at hq
        clear hl64 hlb hrg hst
        go_upto_region 11 with (first
          | ((refine wpList_load_row ?c0 24 (.tmp 3) ?c1 w.heap.size ?c2 24 #[V a, V b, V c, V d] (0, 0) _ Hg.out Tryd.underlying24 ?c3 size4 ?_); (case c0 => with_reducible rfl); (case c1 => with_reducible rfl); (case c2 => rfl); (case c3 => rfl))
          | (go_at_call 27; refine (C1.out _ HK.out).mono ?_; rintro e w8 ⟨rfl, k8⟩; have K8 := Lib.hid k8; clear k8)
          | ((refine wpList_store_row ?c0 24 (.tmp 12) (.tmp 82) ?c1 w8.heap.size #[V x1, V x2, V x3, V x4] ?c2 ?c3 _ _ (hnew _ rfl) ?c4 ?c5 ?c6 ?_); (case c0 => with_reducible rfl); (case c1 => with_reducible rfl); (case c2 => rfl); (case c3 => rfl); (case c4 => exact size4); (case c5 => rfl); (case c6 => simp [Value.oneCell'])))
        have k9 : Kept w8 (World.setRow (w8.alloc (.cells #[.int .u32 0, .int .u32 0, .int .u32 0, .int .u32 0] 24)) w8.heap.size #[V x1, V x2, V x3, V x4]) := below_setRow ((Below.refl _ w8).alloc (Nat.le_refl _) _) (Nat.le_refl _) _
        have m9 : (World.setRow (w8.alloc (.cells #[.int .u32 0, .int .u32 0, .int .u32 0, .int .u32 0] 24)) w8.heap.size #[V x1, V x2, V x3, V x4]).heap[w8.heap.size]? = some (.cells #[V x1, V x2, V x3, V x4] 24 (0, 0)) := setRow_heap _ _ _ _ _ _ (hnew _ rfl)
        have hk9 := below_kept K8.out k9
        generalize World.setRow (w8.alloc (.cells #[.int .u32 0, .int .u32 0, .int .u32 0, .int .u32 0] 24)) w8.heap.size #[V x1, V x2, V x3, V x4] = w9 at *
        obtain ⟨g9, hg9⟩ : ∃ g, g = w8.heap.size := ⟨_, rfl⟩
        rw [← hg9] at m9 ⊢
        have ha9 := heap_kept hk9 Hg.out
        have HK9 := Lib.hid (below_kept HK.out hk9)
        have HK79 := Lib.hid (below_kept HK7.out hk9)
        have Hk : Hid (∀ W, Below w9.heap.size w9 W → ((W.cell? ⟨w.heap.size, 0, none⟩ = some (V a) ∧ W.cell? ⟨w.heap.size, 1, none⟩ = some (V b) ∧ W.cell? ⟨w.heap.size, 2, none⟩ = some (V c) ∧ W.cell? ⟨w.heap.size, 3, none⟩ = some (V d)) ∧ (W.cell? ⟨g9, 0, none⟩ = some (V x1) ∧ W.cell? ⟨g9, 1, none⟩ = some (V x2) ∧ W.cell? ⟨g9, 2, none⟩ = some (V x3) ∧ W.cell? ⟨g9, 3, none⟩ = some (V x4))) ∧ Below w9.heap.size w9 W) := by
          refine fun W h => ⟨⟨⟨?_, ?_, ?_, ?_⟩, ?_, ?_, ?_, ?_⟩, h⟩
          all_goals first
            | (rw [cell_of_row _ _ _ _ _ _ (heap_kept h ha9)]; rfl)
            | (rw [cell_of_row _ _ _ _ _ _ (heap_kept h m9)]; rfl)
        have hb9 := Below.refl w9.heap.size w9
        clear k9 hk9 hg9 K8 C1 ha9 m9
        go_cut [111] (fun v wx => v = .bool false ∧ Below w9.heap.size w9 wx)
        case first =>
          refine wp_region_held_drew (S := (fun W => ((W.cell? ⟨w.heap.size, 0, none⟩ = some (V a) ∧ W.cell? ⟨w.heap.size, 1, none⟩ = some (V b) ∧ W.cell? ⟨w.heap.size, 2, none⟩ = some (V c) ∧ W.cell? ⟨w.heap.size, 3, none⟩ = some (V d)) ∧ (W.cell? ⟨g9, 0, none⟩ = some (V x1) ∧ W.cell? ⟨g9, 1, none⟩ = some (V x2) ∧ W.cell? ⟨g9, 2, none⟩ = some (V x3) ∧ W.cell? ⟨g9, 3, none⟩ = some (V x4))) ∧ Below w9.heap.size w9 W)) (by kernel_rfl) ?_ (fun hHeld => ?_)
          · exact Hk.out _ (by repeat (first | with_reducible assumption | with_reducible refine below_drew0 ?_))
          refine wpAnyH_take (i := 0) (oi := ⟨some 84, _, _, _, _, _⟩) (v := ?_) rfl (by kernel_rfl) (by kernel_rfl) (by kernel_rfl) (fun _ _ _ h => h) (Or.inl ⟨by rfl, ?_⟩) hHeld ?_
          rotate_left
          · (intro w hSw; (try dsimp only at hSw); go_simp; (try with_reducible rfl))
          try simp only [Act.put, List.setIfInBounds_toArray, List.set_cons_zero, List.set_cons_succ]
          refine wpAnyH_take (i := 1) (oi := ⟨some 85, _, _, _, _, _⟩) (v := ?_) rfl (by kernel_rfl) (by kernel_rfl) (by kernel_rfl) (fun _ _ _ h => h) (Or.inl ⟨by rfl, ?_⟩) hHeld ?_
          rotate_left
          · (intro w hSw; (try dsimp only at hSw); go_simp; (try with_reducible rfl))
          try simp only [Act.put, List.setIfInBounds_toArray, List.set_cons_zero, List.set_cons_succ]
          refine wpAnyH_take (i := 2) (oi := ⟨some 86, _, _, _, _, _⟩) (v := ?_) rfl (by kernel_rfl) (by kernel_rfl) (by kernel_rfl) (fun _ _ _ h => h) (Or.inl ⟨by rfl, ?_⟩) hHeld ?_
          rotate_left
          · (intro w hSw; (try dsimp only at hSw); go_simp; (try with_reducible rfl))
          try simp only [Act.put, List.setIfInBounds_toArray, List.set_cons_zero, List.set_cons_succ]
          refine wpAnyH_take (i := 3) (oi := ⟨some 87, _, _, _, _, _⟩) (v := ?_) rfl (by kernel_rfl) (by kernel_rfl) (by kernel_rfl) (fun _ _ _ h => h) (Or.inl ⟨by rfl, ?_⟩) hHeld ?_
          rotate_left
          · (intro w hSw; (try dsimp only at hSw); go_simp; (try with_reducible rfl))
          try simp only [Act.put, List.setIfInBounds_toArray, List.set_cons_zero, List.set_cons_succ]
          refine wpAnyH_take (i := 4) (oi := ⟨some 88, _, _, _, _, _⟩) rfl (by kernel_rfl) (by kernel_rfl) (by kernel_rfl) (fun _ _ _ h => h) (Or.inr ⟨by rfl, rfl⟩) hHeld ?_
          try simp only [Act.put, List.setIfInBounds_toArray, List.set_cons_zero, List.set_cons_succ]
          refine wpAnyH_take (i := 5) (oi := ⟨some 89, _, _, _, _, _⟩) rfl (by kernel_rfl) (by kernel_rfl) (by kernel_rfl) (fun _ _ _ h => h) (Or.inr ⟨by rfl, rfl⟩) hHeld ?_
          try simp only [Act.put, List.setIfInBounds_toArray, List.set_cons_zero, List.set_cons_succ]
          refine wpAnyH_take (i := 6) (oi := ⟨some 90, _, _, _, _, _⟩) rfl (by kernel_rfl) (by kernel_rfl) (by kernel_rfl) (fun _ _ _ h => h) (Or.inr ⟨by rfl, rfl⟩) hHeld ?_
          try simp only [Act.put, List.setIfInBounds_toArray, List.set_cons_zero, List.set_cons_succ]
          refine wpAnyH_take (i := 7) (oi := ⟨some 91, _, _, _, _, _⟩) rfl (by kernel_rfl) (by kernel_rfl) (by kernel_rfl) (fun _ _ _ h => h) (Or.inr ⟨by rfl, rfl⟩) hHeld ?_
          try simp only [Act.put, List.setIfInBounds_toArray, List.set_cons_zero, List.set_cons_succ]
          refine wpAnyH_take (i := 8) (oi := ⟨some 92, _, _, _, _, _⟩) rfl (by kernel_rfl) (by kernel_rfl) (by kernel_rfl) (fun _ _ _ h => h) (Or.inr ⟨by rfl, rfl⟩) hHeld ?_
          try simp only [Act.put, List.setIfInBounds_toArray, List.set_cons_zero, List.set_cons_succ]
          refine wpAnyH_take (i := 9) (oi := ⟨some 93, _, _, _, _, _⟩) rfl (by kernel_rfl) (by kernel_rfl) (by kernel_rfl) (fun _ _ _ h => h) (Or.inr ⟨by rfl, rfl⟩) hHeld ?_
          try simp only [Act.put, List.setIfInBounds_toArray, List.set_cons_zero, List.set_cons_succ]
          refine wpAnyH_take (i := 10) (oi := ⟨some 94, _, _, _, _, _⟩) rfl (by kernel_rfl) (by kernel_rfl) (by kernel_rfl) (fun _ _ _ h => h) (Or.inr ⟨by rfl, rfl⟩) hHeld ?_
          try simp only [Act.put, List.setIfInBounds_toArray, List.set_cons_zero, List.set_cons_succ]
          refine wpAnyH_take (i := 11) (oi := ⟨some 95, _, _, _, _, _⟩) (v := ?_) rfl (by kernel_rfl) (by kernel_rfl) (by kernel_rfl) (fun _ _ _ h => h) (Or.inl ⟨by rfl, ?_⟩) hHeld ?_
          rotate_left
          · (intro w hSw; (try dsimp only at hSw); go_simp; (try with_reducible rfl))
          try simp only [Act.put, List.setIfInBounds_toArray, List.set_cons_zero, List.set_cons_succ]
          refine wpAnyH_take (i := 12) (oi := ⟨some 96, _, _, _, _, _⟩) (v := ?_) rfl (by kernel_rfl) (by kernel_rfl) (by kernel_rfl) (fun _ _ _ h => h) (Or.inl ⟨by rfl, ?_⟩) hHeld ?_
          rotate_left
          · (intro w hSw; (try dsimp only at hSw); go_simp; (try with_reducible rfl))
          try simp only [Act.put, List.setIfInBounds_toArray, List.set_cons_zero, List.set_cons_succ]
          refine wpAnyH_take (i := 13) (oi := ⟨some 97, _, _, _, _, _⟩) (v := ?_) rfl (by kernel_rfl) (by kernel_rfl) (by kernel_rfl) (fun _ _ _ h => h) (Or.inl ⟨by rfl, ?_⟩) hHeld ?_
          rotate_left
          · (intro w hSw; (try dsimp only at hSw); go_simp; (try with_reducible rfl))
          try simp only [Act.put, List.setIfInBounds_toArray, List.set_cons_zero, List.set_cons_succ]
          refine wpAnyH_take (i := 14) (oi := ⟨some 98, _, _, _, _, _⟩) (v := ?_) rfl (by kernel_rfl) (by kernel_rfl) (by kernel_rfl) (fun _ _ _ h => h) (Or.inl ⟨by rfl, ?_⟩) hHeld ?_
          rotate_left
          · (intro w hSw; (try dsimp only at hSw); go_simp; (try with_reducible rfl))
          try simp only [Act.put, List.setIfInBounds_toArray, List.set_cons_zero, List.set_cons_succ]
          refine wpAnyH_take (i := 15) (oi := ⟨some 99, _, _, _, _, _⟩) (v := ?_) rfl (by kernel_rfl) (by kernel_rfl) (by kernel_rfl) (fun _ _ _ h => h) (Or.inl ⟨by rfl, ?_⟩) hHeld ?_
          rotate_left
          · (intro w hSw; (try dsimp only at hSw); go_simp; (try with_reducible rfl))
          try simp only [Act.put, List.setIfInBounds_toArray, List.set_cons_zero, List.set_cons_succ]
          refine wpAnyH_take (i := 16) (oi := ⟨some 100, _, _, _, _, _⟩) (v := ?_) rfl (by kernel_rfl) (by kernel_rfl) (by kernel_rfl) (fun _ _ _ h => h) (Or.inl ⟨by rfl, ?_⟩) hHeld ?_
          rotate_left
          · (intro w hSw; (try dsimp only at hSw); go_simp; (try with_reducible rfl))
          try simp only [Act.put, List.setIfInBounds_toArray, List.set_cons_zero, List.set_cons_succ]
          refine wpAnyH_take (i := 17) (oi := ⟨some 101, _, _, _, _, _⟩) (v := ?_) rfl (by kernel_rfl) (by kernel_rfl) (by kernel_rfl) (fun _ _ _ h => h) (Or.inl ⟨by rfl, ?_⟩) hHeld ?_
          rotate_left
          · (intro w hSw; (try dsimp only at hSw); go_simp; (try with_reducible rfl))
          try simp only [Act.put, List.setIfInBounds_toArray, List.set_cons_zero, List.set_cons_succ]
          refine wpAnyH_take (i := 18) (oi := ⟨some 102, _, _, _, _, _⟩) (v := ?_) rfl (by kernel_rfl) (by kernel_rfl) (by kernel_rfl) (fun _ _ _ h => h) (Or.inl ⟨by rfl, ?_⟩) hHeld ?_
          rotate_left
          · (intro w hSw; (try dsimp only at hSw); go_simp; (try with_reducible rfl))
          try simp only [Act.put, List.setIfInBounds_toArray, List.set_cons_zero, List.set_cons_succ]
          refine wpAnyH_take (i := 19) (oi := ⟨some 103, _, _, _, _, _⟩) (v := ?_) rfl (by kernel_rfl) (by kernel_rfl) (by kernel_rfl) (fun _ _ _ h => h) (Or.inl ⟨by rfl, ?_⟩) hHeld ?_
          rotate_left
          · (intro w hSw; (try dsimp only at hSw); go_simp; (try with_reducible rfl))
          try simp only [Act.put, List.setIfInBounds_toArray, List.set_cons_zero, List.set_cons_succ]
          refine wpAnyH_take (i := 20) (oi := ⟨some 104, _, _, _, _, _⟩) (v := ?_) rfl (by kernel_rfl) (by kernel_rfl) (by kernel_rfl) (fun _ _ _ h => h) (Or.inl ⟨by rfl, ?_⟩) hHeld ?_
          rotate_left
          · (intro w hSw; (try dsimp only at hSw); go_simp; (try with_reducible rfl))
          try simp only [Act.put, List.setIfInBounds_toArray, List.set_cons_zero, List.set_cons_succ]
          refine wpAnyH_take (i := 21) (oi := ⟨some 105, _, _, _, _, _⟩) (v := ?_) rfl (by kernel_rfl) (by kernel_rfl) (by kernel_rfl) (fun _ _ _ h => h) (Or.inl ⟨by rfl, ?_⟩) hHeld ?_
          rotate_left
          · (intro w hSw; (try dsimp only at hSw); go_simp; (try with_reducible rfl))
          try simp only [Act.put, List.setIfInBounds_toArray, List.set_cons_zero, List.set_cons_succ]
          refine wpAnyH_take (i := 22) (oi := ⟨some 106, _, _, _, _, _⟩) (v := ?_) rfl (by kernel_rfl) (by kernel_rfl) (by kernel_rfl) (fun _ _ _ h => h) (Or.inl ⟨by rfl, ?_⟩) hHeld ?_
          rotate_left
          · (intro w hSw; (try dsimp only at hSw); go_simp; (try with_reducible rfl))
          try simp only [Act.put, List.setIfInBounds_toArray, List.set_cons_zero, List.set_cons_succ]
          refine wpAnyH_ready (rs := [23]) (by kernel_rfl) (by simp) ?_
          refine AllReadyH.cons (o := ⟨some 107, _, _, _, _, _⟩) rfl (fun K hK => ?_) (AllReadyH.nil)
          · go_simp
            go_at_call 33; refine (C2.out _ (below_kept HK9.out hHeld.2)).mono ?_; rintro e w10 ⟨rfl, k10⟩; have hb10 := below_kept hHeld.2 k10; dsimp only
            go_wp2_with fail
            refine hK.out _ _ ?_ (fun hHeld => ?_)
            · exact Hk.out _ (by repeat (first | with_reducible assumption | with_reducible refine below_drew0 ?_))
            clear hK K
            try simp only [Act.put, List.setIfInBounds_toArray, List.set_cons_zero, List.set_cons_succ]
            refine wpAnyH_take (i := 24) (oi := ⟨some 108, _, _, _, _, _⟩) (v := ?_) rfl (by kernel_rfl) (by kernel_rfl) (by kernel_rfl) (fun _ _ _ h => h) (Or.inl ⟨by rfl, ?_⟩) hHeld ?_
            rotate_left
            · (intro w hSw; (try dsimp only at hSw); go_simp; (try with_reducible rfl))
            try simp only [Act.put, List.setIfInBounds_toArray, List.set_cons_zero, List.set_cons_succ]
            refine wpAnyH_take (i := 25) (oi := ⟨some 109, _, _, _, _, _⟩) (v := ?_) rfl (by kernel_rfl) (by kernel_rfl) (by kernel_rfl) (fun _ _ _ h => h) (Or.inl ⟨by rfl, ?_⟩) hHeld ?_
            rotate_left
            · (intro w hSw; (try dsimp only at hSw); go_simp; (try with_reducible rfl))
            try simp only [Act.put, List.setIfInBounds_toArray, List.set_cons_zero, List.set_cons_succ]
            refine wpAnyH_take (i := 26) (oi := ⟨some 110, _, _, _, _, _⟩) (v := ?_) rfl (by kernel_rfl) (by kernel_rfl) (by kernel_rfl) (fun _ _ _ h => h) (Or.inl ⟨by rfl, ?_⟩) hHeld ?_
            rotate_left
            · (intro w hSw; (try dsimp only at hSw); go_simp; (try with_reducible rfl))
            try simp only [Act.put, List.setIfInBounds_toArray, List.set_cons_zero, List.set_cons_succ]
            refine wpAnyH_take (i := 27) (oi := ⟨some 111, _, _, _, _, _⟩) (v := ?_) rfl (by kernel_rfl) (by kernel_rfl) (by kernel_rfl) (fun _ _ _ h => h) (Or.inl ⟨by rfl, ?_⟩) hHeld ?_
            rotate_left
            · (intro w hSw; (try dsimp only at hSw); go_simp; (try with_reducible rfl))
            try simp only [Act.put, List.setIfInBounds_toArray, List.set_cons_zero, List.set_cons_succ]
            refine wpAnyH_done (by kernel_rfl) ?_ _
            go_wp2_with fail
            go_meet
            exact ⟨rfl, hHeld.2⟩
        case rest =>
        obtain ⟨rfl, k10⟩ := hcut
        have HKn := Lib.hid (below_kept HK79.out k10)
        clear Hk hb9 C2 k10
        go_wp2_with fail
        go_roundw
        case rel => exact ⟨j + 1, by omega, by go_num, HKn.out⟩
        case measure => simp [intOf]; omega
      · have C1 := Lib.hid (fun W => step_no (a, b, c, d) A3 kx c3 hk64 W)
        have hq : ∀ W, (Op.equalIn 10000 24 (.agg #[.int .u32 0, .int .u32 0, .int .u32 0, .int .u32 0]) (.agg #[.int .u32 0, .int .u32 0, .int .u32 0, .int .u32 0])).run Tryd.prog W = .ok true W := eq_zero
        have hx1 : ((kx : Int) != 64) = true := by simp; omega
        have hx2 : ((kx : Int) == 64) = false := by simp; omega
        dsimp only [vals] at C1
        go_upto_region 11 with (first
          | ((refine wpList_load_row ?c0 24 (.tmp 3) ?c1 w.heap.size ?c2 24 #[V a, V b, V c, V d] (0, 0) _ Hg.out Tryd.underlying24 ?c3 size4 ?_); (case c0 => with_reducible rfl); (case c1 => with_reducible rfl); (case c2 => rfl); (case c3 => rfl))
          | (go_at_call 27; refine (C1.out _).mono ?_; rintro e w8 ⟨rfl, k8⟩; have K8 := Lib.hid k8; clear k8)
          | ((refine wpList_store_row ?c0 24 (.tmp 12) (.tmp 82) ?c1 w8.heap.size #[.int .u32 0, .int .u32 0, .int .u32 0, .int .u32 0] ?c2 ?c3 _ _ (hnew _ rfl) ?c4 ?c5 ?c6 ?_); (case c0 => with_reducible rfl); (case c1 => with_reducible rfl); (case c2 => rfl); (case c3 => rfl); (case c4 => exact size4); (case c5 => rfl); (case c6 => simp [Value.oneCell'])))
        have k9 : Kept w8 (World.setRow (w8.alloc (.cells #[.int .u32 0, .int .u32 0, .int .u32 0, .int .u32 0] 24)) w8.heap.size #[.int .u32 0, .int .u32 0, .int .u32 0, .int .u32 0]) := below_setRow ((Below.refl _ w8).alloc (Nat.le_refl _) _) (Nat.le_refl _) _
        have m9 : (World.setRow (w8.alloc (.cells #[.int .u32 0, .int .u32 0, .int .u32 0, .int .u32 0] 24)) w8.heap.size #[.int .u32 0, .int .u32 0, .int .u32 0, .int .u32 0]).heap[w8.heap.size]? = some (.cells #[.int .u32 0, .int .u32 0, .int .u32 0, .int .u32 0] 24 (0, 0)) := setRow_heap _ _ _ _ _ _ (hnew _ rfl)
        have hk9 := below_kept (show Kept wr w8 from K8.out) k9
        generalize World.setRow (w8.alloc (.cells #[.int .u32 0, .int .u32 0, .int .u32 0, .int .u32 0] 24)) w8.heap.size #[.int .u32 0, .int .u32 0, .int .u32 0, .int .u32 0] = w9 at *
        obtain ⟨g9, hg9⟩ : ∃ g, g = w8.heap.size := ⟨_, rfl⟩
        rw [← hg9] at m9 ⊢
        have HK79 := Lib.hid (below_kept HK7.out hk9)
        have Hk : Hid (∀ W, Below w9.heap.size w9 W → (W.cell? ⟨g9, 0, none⟩ = some (.int .u32 0) ∧ W.cell? ⟨g9, 1, none⟩ = some (.int .u32 0) ∧ W.cell? ⟨g9, 2, none⟩ = some (.int .u32 0) ∧ W.cell? ⟨g9, 3, none⟩ = some (.int .u32 0)) ∧ Below w9.heap.size w9 W) := by
          refine fun W h => ⟨⟨?_, ?_, ?_, ?_⟩, h⟩
          all_goals (rw [cell_of_row _ _ _ _ _ _ (heap_kept h m9)]; rfl)
        have hb9 := Below.refl w9.heap.size w9
        clear k9 hk9 hg9 K8 C1 m9
        go_cut [111] (fun v wx => v = .bool false ∧ Below w9.heap.size w9 wx)
        case first =>
          refine wp_region_held_drew (S := (fun W => (W.cell? ⟨g9, 0, none⟩ = some (.int .u32 0) ∧ W.cell? ⟨g9, 1, none⟩ = some (.int .u32 0) ∧ W.cell? ⟨g9, 2, none⟩ = some (.int .u32 0) ∧ W.cell? ⟨g9, 3, none⟩ = some (.int .u32 0)) ∧ Below w9.heap.size w9 W)) (by kernel_rfl) ?_ (fun hHeld => ?_)
          · exact Hk.out _ (by repeat (first | with_reducible assumption | with_reducible refine below_drew0 ?_))
          refine wpAnyH_take (i := 0) (oi := ⟨some 84, _, _, _, _, _⟩) (v := ?_) rfl (by kernel_rfl) (by kernel_rfl) (by kernel_rfl) (fun _ _ _ h => h) (Or.inl ⟨by rfl, ?_⟩) hHeld ?_
          rotate_left
          · (intro w hSw; (try dsimp only at hSw); go_simp; (try with_reducible rfl))
          try simp only [Act.put, List.setIfInBounds_toArray, List.set_cons_zero, List.set_cons_succ]
          refine wpAnyH_take (i := 1) (oi := ⟨some 85, _, _, _, _, _⟩) (v := ?_) rfl (by kernel_rfl) (by kernel_rfl) (by kernel_rfl) (fun _ _ _ h => h) (Or.inl ⟨by rfl, ?_⟩) hHeld ?_
          rotate_left
          · (intro w hSw; (try dsimp only at hSw); go_simp; (try with_reducible rfl))
          try simp only [Act.put, List.setIfInBounds_toArray, List.set_cons_zero, List.set_cons_succ]
          refine wpAnyH_take (i := 2) (oi := ⟨some 86, _, _, _, _, _⟩) (v := ?_) rfl (by kernel_rfl) (by kernel_rfl) (by kernel_rfl) (fun _ _ _ h => h) (Or.inl ⟨by rfl, ?_⟩) hHeld ?_
          rotate_left
          · (intro w hSw; (try dsimp only at hSw); go_simp; (try with_reducible rfl))
          try simp only [Act.put, List.setIfInBounds_toArray, List.set_cons_zero, List.set_cons_succ]
          refine wpAnyH_take (i := 3) (oi := ⟨some 87, _, _, _, _, _⟩) (v := ?_) rfl (by kernel_rfl) (by kernel_rfl) (by kernel_rfl) (fun _ _ _ h => h) (Or.inl ⟨by rfl, ?_⟩) hHeld ?_
          rotate_left
          · (intro w hSw; (try dsimp only at hSw); go_simp; (try with_reducible rfl))
          try simp only [Act.put, List.setIfInBounds_toArray, List.set_cons_zero, List.set_cons_succ]
          refine wpAnyH_take (i := 4) (oi := ⟨some 88, _, _, _, _, _⟩) (v := ?_) rfl (by kernel_rfl) (by kernel_rfl) (by kernel_rfl) (fun _ _ _ h => h) (Or.inl ⟨by rfl, ?_⟩) hHeld ?_
          rotate_left
          · (intro w hSw; (try dsimp only at hSw); go_simp; (try with_reducible rfl))
          try simp only [Act.put, List.setIfInBounds_toArray, List.set_cons_zero, List.set_cons_succ]
          refine wpAnyH_take (i := 5) (oi := ⟨some 89, _, _, _, _, _⟩) (v := ?_) rfl (by kernel_rfl) (by kernel_rfl) (by kernel_rfl) (fun _ _ _ h => h) (Or.inl ⟨by rfl, ?_⟩) hHeld ?_
          rotate_left
          · (intro w hSw; (try dsimp only at hSw); go_simp; (try with_reducible rfl))
          try simp only [Act.put, List.setIfInBounds_toArray, List.set_cons_zero, List.set_cons_succ]
          refine wpAnyH_take (i := 6) (oi := ⟨some 90, _, _, _, _, _⟩) (v := ?_) rfl (by kernel_rfl) (by kernel_rfl) (by kernel_rfl) (fun _ _ _ h => h) (Or.inl ⟨by rfl, ?_⟩) hHeld ?_
          rotate_left
          · (intro w hSw; (try dsimp only at hSw); go_simp; (try with_reducible rfl))
          try simp only [Act.put, List.setIfInBounds_toArray, List.set_cons_zero, List.set_cons_succ]
          refine wpAnyH_take (i := 7) (oi := ⟨some 91, _, _, _, _, _⟩) (v := ?_) rfl (by kernel_rfl) (by kernel_rfl) (by kernel_rfl) (fun _ _ _ h => h) (Or.inl ⟨by rfl, ?_⟩) hHeld ?_
          rotate_left
          · (intro w hSw; (try dsimp only at hSw); go_simp; (try with_reducible rfl))
          try simp only [Act.put, List.setIfInBounds_toArray, List.set_cons_zero, List.set_cons_succ]
          refine wpAnyH_take (i := 8) (oi := ⟨some 92, _, _, _, _, _⟩) (v := ?_) rfl (by kernel_rfl) (by kernel_rfl) (by kernel_rfl) (fun _ _ _ h => h) (Or.inl ⟨by rfl, ?_⟩) hHeld ?_
          rotate_left
          · (intro w hSw; (try dsimp only at hSw); go_simp; (try with_reducible rfl))
          try simp only [Act.put, List.setIfInBounds_toArray, List.set_cons_zero, List.set_cons_succ]
          refine wpAnyH_take (i := 9) (oi := ⟨some 93, _, _, _, _, _⟩) (v := ?_) rfl (by kernel_rfl) (by kernel_rfl) (by kernel_rfl) (fun _ _ _ h => h) (Or.inl ⟨by rfl, ?_⟩) hHeld ?_
          rotate_left
          · (intro w hSw; (try dsimp only at hSw); go_simp; (try with_reducible rfl))
          try simp only [Act.put, List.setIfInBounds_toArray, List.set_cons_zero, List.set_cons_succ]
          refine wpAnyH_take (i := 10) (oi := ⟨some 94, _, _, _, _, _⟩) (v := ?_) rfl (by kernel_rfl) (by kernel_rfl) (by kernel_rfl) (fun _ _ _ h => h) (Or.inl ⟨by rfl, ?_⟩) hHeld ?_
          rotate_left
          · (intro w hSw; (try dsimp only at hSw); go_simp; (try with_reducible rfl))
          try simp only [Act.put, List.setIfInBounds_toArray, List.set_cons_zero, List.set_cons_succ]
          refine wpAnyH_take (i := 11) (oi := ⟨some 95, _, _, _, _, _⟩) (v := ?_) rfl (by kernel_rfl) (by kernel_rfl) (by kernel_rfl) (fun _ _ _ h => h) (Or.inl ⟨by rfl, ?_⟩) hHeld ?_
          rotate_left
          · (intro w hSw; (try dsimp only at hSw); go_simp; (try with_reducible rfl))
          try simp only [Act.put, List.setIfInBounds_toArray, List.set_cons_zero, List.set_cons_succ]
          refine wpAnyH_take (i := 12) (oi := ⟨some 96, _, _, _, _, _⟩) (v := ?_) rfl (by kernel_rfl) (by kernel_rfl) (by kernel_rfl) (fun _ _ _ h => h) (Or.inl ⟨by rfl, ?_⟩) hHeld ?_
          rotate_left
          · (intro w hSw; (try dsimp only at hSw); go_simp; (try with_reducible rfl))
          try simp only [Act.put, List.setIfInBounds_toArray, List.set_cons_zero, List.set_cons_succ]
          refine wpAnyH_take (i := 13) (oi := ⟨some 97, _, _, _, _, _⟩) (v := ?_) rfl (by kernel_rfl) (by kernel_rfl) (by kernel_rfl) (fun _ _ _ h => h) (Or.inl ⟨by rfl, ?_⟩) hHeld ?_
          rotate_left
          · (intro w hSw; (try dsimp only at hSw); go_simp; (try with_reducible rfl))
          try simp only [Act.put, List.setIfInBounds_toArray, List.set_cons_zero, List.set_cons_succ]
          refine wpAnyH_take (i := 14) (oi := ⟨some 98, _, _, _, _, _⟩) (v := ?_) rfl (by kernel_rfl) (by kernel_rfl) (by kernel_rfl) (fun _ _ _ h => h) (Or.inl ⟨by rfl, ?_⟩) hHeld ?_
          rotate_left
          · (intro w hSw; (try dsimp only at hSw); go_simp; (try with_reducible rfl))
          try simp only [Act.put, List.setIfInBounds_toArray, List.set_cons_zero, List.set_cons_succ]
          refine wpAnyH_take (i := 15) (oi := ⟨some 99, _, _, _, _, _⟩) (v := ?_) rfl (by kernel_rfl) (by kernel_rfl) (by kernel_rfl) (fun _ _ _ h => h) (Or.inl ⟨by rfl, ?_⟩) hHeld ?_
          rotate_left
          · (intro w hSw; (try dsimp only at hSw); go_simp; (try with_reducible rfl))
          try simp only [Act.put, List.setIfInBounds_toArray, List.set_cons_zero, List.set_cons_succ]
          refine wpAnyH_take (i := 16) (oi := ⟨some 100, _, _, _, _, _⟩) (v := ?_) rfl (by kernel_rfl) (by kernel_rfl) (by kernel_rfl) (fun _ _ _ h => h) (Or.inl ⟨by rfl, ?_⟩) hHeld ?_
          rotate_left
          · (intro w hSw; (try dsimp only at hSw); go_simp; (try with_reducible rfl))
          try simp only [Act.put, List.setIfInBounds_toArray, List.set_cons_zero, List.set_cons_succ]
          refine wpAnyH_take (i := 17) (oi := ⟨some 101, _, _, _, _, _⟩) rfl (by kernel_rfl) (by kernel_rfl) (by kernel_rfl) (fun _ _ _ h => h) (Or.inr ⟨by rfl, rfl⟩) hHeld ?_
          try simp only [Act.put, List.setIfInBounds_toArray, List.set_cons_zero, List.set_cons_succ]
          refine wpAnyH_take (i := 18) (oi := ⟨some 102, _, _, _, _, _⟩) rfl (by kernel_rfl) (by kernel_rfl) (by kernel_rfl) (fun _ _ _ h => h) (Or.inr ⟨by rfl, rfl⟩) hHeld ?_
          try simp only [Act.put, List.setIfInBounds_toArray, List.set_cons_zero, List.set_cons_succ]
          refine wpAnyH_take (i := 19) (oi := ⟨some 103, _, _, _, _, _⟩) rfl (by kernel_rfl) (by kernel_rfl) (by kernel_rfl) (fun _ _ _ h => h) (Or.inr ⟨by rfl, rfl⟩) hHeld ?_
          try simp only [Act.put, List.setIfInBounds_toArray, List.set_cons_zero, List.set_cons_succ]
          refine wpAnyH_take (i := 20) (oi := ⟨some 104, _, _, _, _, _⟩) rfl (by kernel_rfl) (by kernel_rfl) (by kernel_rfl) (fun _ _ _ h => h) (Or.inr ⟨by rfl, rfl⟩) hHeld ?_
          try simp only [Act.put, List.setIfInBounds_toArray, List.set_cons_zero, List.set_cons_succ]
          refine wpAnyH_take (i := 21) (oi := ⟨some 105, _, _, _, _, _⟩) rfl (by kernel_rfl) (by kernel_rfl) (by kernel_rfl) (fun _ _ _ h => h) (Or.inr ⟨by rfl, rfl⟩) hHeld ?_
          try simp only [Act.put, List.setIfInBounds_toArray, List.set_cons_zero, List.set_cons_succ]
          refine wpAnyH_take (i := 22) (oi := ⟨some 106, _, _, _, _, _⟩) rfl (by kernel_rfl) (by kernel_rfl) (by kernel_rfl) (fun _ _ _ h => h) (Or.inr ⟨by rfl, rfl⟩) hHeld ?_
          try simp only [Act.put, List.setIfInBounds_toArray, List.set_cons_zero, List.set_cons_succ]
          refine wpAnyH_take (i := 23) (oi := ⟨some 107, _, _, _, _, _⟩) rfl (by kernel_rfl) (by kernel_rfl) (by kernel_rfl) (fun _ _ _ h => h) (Or.inr ⟨by rfl, rfl⟩) hHeld ?_
          try simp only [Act.put, List.setIfInBounds_toArray, List.set_cons_zero, List.set_cons_succ]
          refine wpAnyH_take (i := 24) (oi := ⟨some 108, _, _, _, _, _⟩) rfl (by kernel_rfl) (by kernel_rfl) (by kernel_rfl) (fun _ _ _ h => h) (Or.inr ⟨by rfl, rfl⟩) hHeld ?_
          try simp only [Act.put, List.setIfInBounds_toArray, List.set_cons_zero, List.set_cons_succ]
          refine wpAnyH_take (i := 25) (oi := ⟨some 109, _, _, _, _, _⟩) rfl (by kernel_rfl) (by kernel_rfl) (by kernel_rfl) (fun _ _ _ h => h) (Or.inr ⟨by rfl, rfl⟩) hHeld ?_
          try simp only [Act.put, List.setIfInBounds_toArray, List.set_cons_zero, List.set_cons_succ]
          refine wpAnyH_take (i := 26) (oi := ⟨some 110, _, _, _, _, _⟩) (v := ?_) rfl (by kernel_rfl) (by kernel_rfl) (by kernel_rfl) (fun _ _ _ h => h) (Or.inl ⟨by rfl, ?_⟩) hHeld ?_
          rotate_left
          · (intro w hSw; (try dsimp only at hSw); go_simp; (try with_reducible rfl))
          try simp only [Act.put, List.setIfInBounds_toArray, List.set_cons_zero, List.set_cons_succ]
          refine wpAnyH_take (i := 27) (oi := ⟨some 111, _, _, _, _, _⟩) (v := ?_) rfl (by kernel_rfl) (by kernel_rfl) (by kernel_rfl) (fun _ _ _ h => h) (Or.inl ⟨by rfl, ?_⟩) hHeld ?_
          rotate_left
          · (intro w hSw; (try dsimp only at hSw); go_simp; (try with_reducible rfl))
          try simp only [Act.put, List.setIfInBounds_toArray, List.set_cons_zero, List.set_cons_succ]
          refine wpAnyH_done (by kernel_rfl) ?_ _
          go_wp2_with fail
          go_meet
          exact ⟨rfl, hHeld.2⟩
        case rest =>
        obtain ⟨rfl, k10⟩ := hcut
        have HKn := Lib.hid (below_kept HK79.out k10)
        clear Hk hb9 k10
        go_wp2_with fail
        go_roundw
        case rel => exact ⟨j + 1, by omega, by go_num, HKn.out⟩
        case measure => simp [intOf]; omega
    · obtain rfl : j = 2 := by omega
      have hcv1 := conv_any wr wr.heap.size A3 k c3 P (rd_kept (below_kept K7.out hK) Hrd3.out)
      have hcv2 := conv_any wr wr.heap.size A0 k c0 P (rd_kept (below_kept Hw3.out (below_kept K7.out hK)) Hr0.out)
      have HKf := Lib.hid (below_kept Hw3.out (below_kept K7.out hK))
      go_wp2_with fail
      go_ret
      exact ⟨rfl, HKf.out⟩
end Go.Proofs.YtlgdbhebcglkoaaDoor
