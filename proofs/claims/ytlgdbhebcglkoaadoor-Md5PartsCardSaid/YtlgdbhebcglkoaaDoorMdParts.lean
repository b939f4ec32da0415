/-
  The walk of Md5Parts.
-/
import Derived.Test.YtlgdbhebcglkoaaDoorMdT
import Derived.Deep.DeepCutAuto
namespace Go.Proofs.YtlgdbhebcglkoaaDoor
open Go.RowKit Go.Shelf
theorem rd_take {w : World} {B n : Nat} {A : Option Addr} {xs : List Value} (h : Rd w B A n xs) (k : Nat) (hk : k ≤ n) : Rd w B A k (xs.take k) := by
  refine ⟨by rw [List.length_take, h.1]; omega, fun h0 => ?_⟩
  obtain ⟨ad, e, hb, hc⟩ := h.2 (by omega)
  refine ⟨ad, e, hb, fun j u hu => hc j u ?_⟩
  have hj : j < (xs.take k).length := (List.getElem?_eq_some_iff.1 hu).1
  rw [List.length_take] at hj
  rw [List.getElem?_take, if_pos (by omega)] at hu
  exact hu
theorem u8s_take (l : List Int) (k : Nat) : (u8s l).take k = u8s (l.take k) := by unfold u8s; rw [List.map_take]
theorem read_tx (D : List Int) (hl : D.length = 16) (hb : Bts D) (W : World) :
    Calls Tryd.prog 28 #[.string (strOfNums (tx D))] W fun e w' => e = .returned (.tuple #[.agg (u8s D).toArray, .int .i64 0]) ∧ Kept W w' := by
  refine (read_any _ W).mono ?_
  rintro e w' ⟨⟨E, hE, bE, hsE, rfl⟩ | ⟨hn, _⟩, hk⟩
  · obtain rfl := strTx_inj hl hE hb bE hsE
    exact ⟨rfl, hk⟩
  · exact absurd rfl (hn D hl hb)
theorem tx_size (D : List Int) (hl : D.length = 16) (hb : Bts D) : (strOfNums (tx D)).size = 32 := by
  rw [← bys_length, bys_strOfNums (tx_bts D hb), tx_length, hl]
set_option maxRecDepth 100000 in
set_option maxHeartbeats 8000000 in
theorem parts_walk (A0 : Option Addr) (n0 c0 : Nat) (hn0 : n0 ≤ c0) (hc0 : c0 ≤ maxLen) (P0 : List Int) (hP0 : Bts P0) (m n : Nat) (hm : m < 4294967296) (hn : n < 4294967296) (D E : List Int) (hD : D.length = 16) (bD : Bts D) (hE : E.length = 16) (bE : Bts E) (s : ByteArray) (w : World)
    (hr0 : Rd w w.heap.size A0 n0 (u8s P0)) (hT : Tab w) :
    Calls Tryd.prog 10 #[.slice A0 n0 c0, .int .u32 (m : Int), .int .u32 (n : Int), .agg (u8s D).toArray, .agg (u8s E).toArray, .string s] w fun e w' => e = .returned (.bool true) ∧ Below w.heap.size w w' := by
  unfold maxLen at hc0
  have hP0l : P0.length = n0 := by have := hr0.1; rwa [u8s_length] at this
  have HF := Lib.hid (show D.length = 16 ∧ Bts D ∧ E.length = 16 ∧ Bts E from ⟨hD, bD, hE, bE⟩)
  have HdL : Hid ((u8s D).length = 16) := by show _ = _; rw [u8s_length, hD]
  have HeL : Hid ((u8s E).length = 16) := by show _ = _; rw [u8s_length, hE]
  have HdOne := Lib.hid (row_all D)
  have HdS : Hid ((u8s D).toArray.size = 16) := by show _ = _; rw [List.size_toArray, u8s_length, hD]
  have HdZ : Hid ((Tryd.prog.info? 30).map (·.size) = some (u8s D).toArray.size) := by show _ = _; rw [HdS.out]; exact size16b
  have HRd := Lib.hid (fun W => read_tx D hD bD W)
  have HTd := Lib.hid (fun W => text_any D hD bD W)
  have HTe := Lib.hid (fun W => text_any E hE bE W)
  have Hde : Hid (∀ W, (Op.equalIn 10000 30 (.agg (u8s D).toArray) (.agg (u8s D).toArray)).run Tryd.prog W = .ok true W) := fun W => by rw [eq_dig D D hD hD, decide_eq_true rfl]
  have Hed : Hid (∀ W, (Op.equalIn 10000 30 (.agg (u8s E).toArray) (.agg (u8s D).toArray)).run Tryd.prog W = .ok (decide (E = D)) W) := fun W => eq_dig E D hE hD W
  have Hts : Hid (E ≠ D → ((strOfNums (tx E)).toList == (strOfNums (tx D)).toList) = false) := fun h => str_ne (fun e => h (strTx_inj hE hD bE bD (bys_eq e)))
  have Hts2 : Hid (E = D → strOfNums (tx E) = strOfNums (tx D)) := fun h => by rw [h]
  generalize u8s D = LD at *
  generalize u8s E = LE at *
  generalize strOfNums (tx D) = tD at *
  generalize strOfNums (tx E) = tE at *
  clear hD bD hE bE HF
  have HT := Lib.hid hT
  have Hr0 := Lib.hid hr0
  have HP0 := Lib.hid hP0
  have HP0l := Lib.hid hP0l
  clear hT hr0 hP0 hP0l
  go_enter Tryd.func10, Tryd.ntmps10
  go_upto_region 1 with fail
  generalize hw0 : World.alloc (World.alloc w _) _ = w0
  have hB0 : Below w.heap.size w w0 := by rw [← hw0]; exact ((Below.refl _ w).alloc (Nat.le_refl _) _).alloc (by simp) _
  have hg0 : w0.heap[w.heap.size]? = some (.cells LD.toArray 30 (0, 0)) := by rw [← hw0]; exact halloc _ (heap_alloc_new w _)
  have hg1 : w0.heap[w.heap.size + 1]? = some (.cells LE.toArray 30 (0, 0)) := by rw [← hw0]; exact hnew _ (by simp)
  clear hw0
  go_cut [0] (fun v0 wx => (∃ k, v0 = .slice A0 k c0 ∧ k ≤ 500 ∧ k ≤ n0) ∧ wx = w0)
  case first =>
    by_cases h3 : (n0 : Int) ≤ 500
    · go_wp2_with fail
      go_meet
      exact ⟨⟨_, rfl, by omega, by omega⟩, rfl⟩
    · have h4 : (500 : Int) ≤ (n0 : Int) := by omega
      have h5 : (500 : Int) ≤ (c0 : Int) := by omega
      go_wp2_with fail
      go_meet
      exact ⟨⟨_, rfl, by omega, by omega⟩, rfl⟩
  case rest =>
  obtain ⟨⟨k, rfl, hk5, hkn⟩, hw⟩ := hcut
  obtain rfl : w0 = wc := hw.symm
  obtain ⟨P, hP⟩ : ∃ P, P = P0.take k := ⟨_, rfl⟩
  have HPb : Hid (Bts P) := by rw [hP]; exact HP0.out.take k
  have HrP : Hid (Rd w0 w0.heap.size A0 k (u8s P)) := by
    have := rd_take ((Hr0.out.below hB0).more hB0.size) k hkn
    rw [u8s_take, ← hP] at this
    exact this
  have hkc : k ≤ c0 := by omega
  clear hP Hr0 HP0 HP0l hkn hn0 hc0
  have HT0 := Lib.hid (HT.out.below hB0)
  have HB0 := Lib.hid hB0
  have CS : Hid (∀ W, Below w0.heap.size w0 W → Calls Tryd.prog 24 #[.slice A0 k c0] W fun e w' => e = .returned (.agg (u8s (sumL P)).toArray) ∧ Kept W w') := fun W h => sum_any A0 k c0 P HPb.out (by omega) hkc W ((HrP.out.below h).more h.size) (HT0.out.below h)
  have CW : Hid (∀ W, Below w0.heap.size w0 W → Calls Tryd.prog 30 #[.slice A0 k c0] W fun e w' => e = .returned (.int .u64 (wordL P : Int)) ∧ Kept W w') := fun W h => word_any A0 k c0 P HPb.out (by omega) hkc W ((HrP.out.below h).more h.size) (HT0.out.below h)
  have CM : Hid (∀ W x, 0 < x → Below w0.heap.size w0 W → Calls Tryd.prog 29 #[.slice A0 k c0, .int .u64 ((x : Nat) : Int)] W fun e w' => e = .returned (.tuple #[.int .u64 ((wordL P % x : Nat) : Int), .int .i64 0]) ∧ Kept W w') := fun W x hx h => modulo_any A0 k c0 P HPb.out (by omega) hkc x hx W ((HrP.out.below h).more h.size) (HT0.out.below h)
  have hSl := sumL_length P
  have hSb := sumL_bts P
  have HTs := Lib.hid (fun W => text_any (sumL P) hSl hSb W)
  have HRs := Lib.hid (fun W => read_tx (sumL P) hSl hSb W)
  have htz : ((strOfNums (tx (sumL P))).size : Int) = 32 := by rw [tx_size _ hSl hSb]; rfl
  have Hss : Hid (∀ W, (Op.equalIn 10000 30 (.agg (u8s (sumL P)).toArray) (.agg (u8s (sumL P)).toArray)).run Tryd.prog W = .ok true W) := fun W => by rw [eq_dig _ _ hSl hSl, decide_eq_true rfl]
  have HsL : Hid ((u8s (sumL P)).length = 16) := by show _ = _; rw [u8s_length, hSl]
  have HW8 : Hid (wordL P = wdv ((sumL P).drop 8)) := rfl
  have hget : ∀ j, j < 8 → (u8s (sumL P))[8 + j]? = some (.int .u8 (((sumL P).drop 8).getD j 0)) := fun j hj => by
    rw [u8s_get _ _ (by rw [hSl]; omega)]
    simp
  have Hget := Lib.hid hget
  have Hdl : Hid (((sumL P).drop 8).length = 8) := by show _ = _; rw [List.length_drop, hSl]
  have Hdb := Lib.hid (hSb.drop 8)
  have Hone := Lib.hid (row_all (sumL P))
  have hb00 := Below.refl w0.heap.size w0
  generalize strOfNums (tx (sumL P)) = t at *
  generalize (sumL P).drop 8 = S8 at *
  generalize u8s (sumL P) = L at *
  generalize wordL P = wv at *
  clear hSl hSb hget HPb HrP hkc
  have Hsz : Hid ((Tryd.prog.info? 30).map (·.size) = some L.toArray.size) := by show _ = _; rw [List.size_toArray, HsL.out]; exact size16b
  have HLs : Hid (L.toArray.size = 16) := by show _ = _; rw [List.size_toArray, HsL.out]
  go_upto_region 4 with (first
    | (go_at_call 24; refine (CS.out _ hb00).mono ?_; rintro e w1 ⟨rfl, k1⟩)
    | (go_at_call 23; refine (HTs.out _).mono ?_; rintro e w2 ⟨rfl, k2⟩; have k02 := below_kept k1 k2; clear k1 k2)
    | (go_at_call 28; refine (HRs.out _).mono ?_; rintro e w3 ⟨rfl, k3⟩; have k03 := Lib.hid (below_kept k02 k3); clear k02 k3)
    | ((refine wpList_store_row ?c0 30 (.tmp 14) (.tmp 38) ?c1 w3.heap.size L.toArray ?c2 ?c3 _ _ (hnew _ rfl) ?c4 ?c5 ?c6 ?_); (case c0 => with_reducible rfl); (case c1 => with_reducible rfl); (case c2 => rfl); (case c3 => rfl); (case c4 => exact Hsz.out); (case c5 => exact HLs.out.symm); (case c6 => exact Hone.out)))
  have k34 : Kept w3 (World.setRow (w3.alloc (.cells z16 30)) w3.heap.size L.toArray) := below_setRow ((Below.refl _ w3).alloc (Nat.le_refl _) _) (Nat.le_refl _) _
  have m4 : (World.setRow (w3.alloc (.cells z16 30)) w3.heap.size L.toArray).heap[w3.heap.size]? = some (.cells L.toArray 30 (0, 0)) := setRow_heap _ _ _ _ _ _ (hnew _ rfl)
  have k04 := below_kept k03.out k34
  generalize World.setRow (w3.alloc (.cells z16 30)) w3.heap.size L.toArray = w4 at *
  obtain ⟨g4, hg4⟩ : ∃ g, g = w3.heap.size := ⟨_, rfl⟩
  rw [← hg4] at m4 ⊢
  clear k03 k34 hg4 hw HRs HTs
  have r4 := range_row m4
  have hl4 := heap_lt m4
  have Hk4 : Hid (∀ W, Below w4.heap.size w4 W → W.rangeAt g4 0 L ∧ Below w4.heap.size w4 W) := fun W h => ⟨range_kept h hl4 r4, h⟩
  have CS4 : Hid (∀ W, Below w4.heap.size w4 W → Calls Tryd.prog 24 #[.slice A0 k c0] W fun e w' => e = .returned (.agg L.toArray) ∧ Below w4.heap.size w4 w') := fun W h => (CS.out W (below_kept k04 h)).mono fun _ _ g => ⟨g.1, below_kept h g.2⟩
  have M4 := Lib.hid m4
  have K04 := Lib.hid k04
  clear m4 k04 r4
  have hu := Tryd.underlying30
  have hsz : (Tryd.prog.info? 30).map (·.size) = some L.length := by have := Hsz.out; rwa [List.size_toArray] at this
  have hss := Hss.out
  have hb4 := Below.refl w4.heap.size w4
  go_region_held3 (fun W => W.rangeAt g4 0 L ∧ Below w4.heap.size w4 W)
    ((refine Hk4.out _ ?_; (repeat (first | with_reducible assumption | with_reducible refine below_drew0 ?_)); done))
    (first
      | (go_at_call 24; refine (CS4.out _ (by repeat (first | with_reducible assumption | with_reducible refine below_drew0 ?_))).mono ?_; rintro e w5 ⟨rfl, k5⟩; dsimp only))
  rename_i hS
  have K05 := Lib.hid (below_kept K04.out hS.2)
  have M5 := Lib.hid (heap_kept hS.2 M4.out)
  have HGd : Hid (∀ W, Below w0.heap.size w0 W → W.heap[w.heap.size]? = some (.cells LD.toArray 30 (0, 0))) := fun W h => heap_kept h hg0
  have HGe : Hid (∀ W, Below w0.heap.size w0 W → W.heap[w.heap.size + 1]? = some (.cells LE.toArray 30 (0, 0))) := fun W h => heap_kept h hg1
  clear hS hb4 CS4 Hk4 K04 M4 hg0 hg1 hb00 k5 hB0 htz CS hss hl4
  go_wp2_with fail
  go_loopw [16, 55] (fun x i wr => ∃ (j : Nat) (y : Nat), j ≤ 8 ∧ i = .int .i64 j ∧ x = .int .u64 (y : Int) ∧ Hid (y = wdv (S8.take j)) ∧ wr = w5) (fun _ i _ => 8 - (intOf i).toNat)
  case atStart => exact ⟨0, 0, by omega, rfl, rfl, rfl, rfl⟩
  case round =>
    obtain ⟨j, y, hj, rfl, rfl, hy, rfl⟩ := hrel
    by_cases hj8 : j < 8
    · have hyb : y < 72057594037927936 := by
        have h := wdv_lt (S8.take j) (Hdb.out.take j)
        rw [← hy.out, List.length_take, Hdl.out, Nat.min_eq_left (by omega)] at h
        have h2 : 256 ^ j ≤ 256 ^ 7 := Nat.pow_le_pow_right (by omega) (by omega)
        omega
      obtain ⟨cb, hcb⟩ : ∃ cb, cb = S8.getD j 0 := ⟨_, rfl⟩
      have hc := Hdb.out.getD j
      rw [← hcb] at hc
      obtain ⟨c, hcc'⟩ := Int.eq_ofNat_of_zero_le hc.1
      have hc256 : c < 256 := by omega
      have hcell : wr.cell? ⟨g4, 8 + j, none⟩ = some (.int .u8 (c : Int)) := by
        rw [cell_of_row _ _ _ _ _ _ M5.out, List.getElem?_toArray, Hget.out j hj8, ← hcb, hcc']
      have hsh : (y : Int) * 256 % 18446744073709551616 = (y : Int) * 256 := by omega
      have hw0 : IntKind.u64.wrap ((y : Int) * 256) = (y : Int) * 256 := by rw [IntKind.wrap_u64]; exact hsh
      have hw1 : IntKind.u64.wrap (c : Int) = (c : Int) := by rw [IntKind.wrap_u64]; omega
      have Hn : Hid (y * 256 + c = wdv (S8.take (j + 1))) := by
        show _ = _
        rw [List.take_add_one, show S8[j]? = some cb from by rw [hcb]; simp [Hdl.out, hj8], Option.toList_some, wdv_snoc, ← hy.out, hcc']
        rfl
      obtain ⟨y', hy'⟩ : ∃ y', y * 256 + c = y' := ⟨_, rfl⟩
      have hor : (y : Int) * 256 + (c : Int) = (y' : Int) := by omega
      have hor2 : IntKind.u64.wrap ((y : Int) * 256 + (c : Int)) = (y' : Int) := by rw [IntKind.wrap_u64]; omega
      rw [hy'] at Hn
      clear hcb hy'
      go_wp2_with fail
      go_roundw
      case rel => exact ⟨j + 1, y', by omega, by go_num, rfl, Hn, trivial⟩
      case measure => simp [intOf]; omega
    · obtain rfl : j = 8 := by omega
      obtain rfl : y = wv := by rw [hy.out, HW8.out, List.take_of_length_le (by rw [Hdl.out]; omega)]
      clear hy HW8 Hget Hdl Hdb M5 Hone HsL Hss hsz hu Hsz HLs hj hj8
      obtain ⟨w6, rfl⟩ : ∃ x, x = wr := ⟨_, rfl⟩
      go_upto_region 12 with fail
      go_cut [1, 2] (fun v1 v2 wx => (∃ M N : Nat, v1 = .int .u32 (M : Int) ∧ v2 = .int .u32 (N : Int) ∧ 0 < M ∧ M < 4294967296 ∧ 0 < N ∧ N < 4294967296) ∧ wx = w6)
      case first =>
        by_cases hm0 : m = 0
        · subst hm0
          by_cases hn0 : n = 0
          · subst hn0
            go_wp2_with fail
            go_meet
            exact ⟨⟨1, 1, rfl, rfl, by omega, by omega, by omega, by omega⟩, rfl⟩
          · have hn1 : ¬ (n : Int) < 1 := by omega
            have hn2 : (1 : Int) ≤ (n : Int) := by omega
            go_wp2_with fail
            all_goals
              go_meet
              exact ⟨⟨1, n, rfl, rfl, by omega, by omega, by omega, by omega⟩, rfl⟩
        · have hm1 : ¬ (m : Int) < 1 := by omega
          have hm2 : (1 : Int) ≤ (m : Int) := by omega
          by_cases hn0 : n = 0
          · subst hn0
            go_wp2_with fail
            all_goals
              go_meet
              exact ⟨⟨m, 1, rfl, rfl, by omega, by omega, by omega, by omega⟩, rfl⟩
          · have hn1 : ¬ (n : Int) < 1 := by omega
            have hn2 : (1 : Int) ≤ (n : Int) := by omega
            go_wp2_with fail
            all_goals
              go_meet
              exact ⟨⟨m, n, rfl, rfl, by omega, by omega, by omega, by omega⟩, rfl⟩
      case rest =>
      obtain ⟨⟨M, N, rfl, rfl, hM0, hM, hN0, hN⟩, hw⟩ := hcut
      obtain rfl : w6 = wc := hw.symm
      clear hm hn
      obtain ⟨Q, hQ⟩ : ∃ Q, M * N = Q := ⟨_, rfl⟩
      have hQ0 : 0 < Q := by rw [← hQ]; exact Nat.mul_pos hM0 hN0
      have hQ1 : Q < 18446744073709551616 := by
        rw [← hQ]
        have h1 : M * N ≤ 4294967295 * 4294967295 := Nat.mul_le_mul (by omega) (by omega)
        omega
      have hQI : (M : Int) * (N : Int) = (Q : Int) := by rw [← hQ]; simp
      have hQW : IntKind.u64.wrap ((M : Int) * (N : Int)) = (Q : Int) := by rw [IntKind.wrap_u64, hQI]; omega
      have hM1 : IntKind.u64.wrap (M : Int) = (M : Int) := by rw [IntKind.wrap_u64]; omega
      have hN1 : IntKind.u64.wrap (N : Int) = (N : Int) := by rw [IntKind.wrap_u64]; omega
      have hdvd : y % Q % M = y % M := by rw [← hQ]; exact Nat.mod_mul_right_mod _ _ _
      have hlt := Nat.mod_lt y hQ0
      have CQ := Lib.hid (fun W h => CM.out W Q hQ0 h)
      have CM' := Lib.hid (fun W h => CM.out W M hM0 h)
      obtain ⟨p, hp⟩ : ∃ p, y % Q = p := ⟨_, rfl⟩
      obtain ⟨q, hq⟩ : ∃ q, y % M = q := ⟨_, rfl⟩
      rw [hp] at hdvd hlt CQ
      rw [hq] at hdvd CM'
      have hpI : (p : Int) % (M : Int) = (q : Int) := by rw [← hdvd]; simp
      have hpT : (p : Int).tmod (M : Int) = (q : Int) := by rw [Int.tmod_eq_emod_of_nonneg (by omega)]; exact hpI
      have hM2 : ¬ (M : Int) = 0 := by omega
      have hM3 : ((M : Int) == 0) = false := by simp; omega
      have hge : ¬ (Q : Int) ≤ (p : Int) := by omega
      clear CM hQ hdvd hlt hp hq hM0 hN0
      go_upto_region 15 with (first
        | (go_at_call_of 29 (Q : Int); refine (CQ.out _ K05.out).mono ?_; rintro e w7 ⟨rfl, k7⟩; have K7 := Lib.hid (below_kept K05.out k7); clear k7)
        | (go_at_call_of 29 (M : Int); refine (CM'.out _ K7.out).mono ?_; rintro e w8 ⟨rfl, k8⟩; have K8 := Lib.hid (below_kept K7.out k8); clear k8))
      --R18
      go_upto_region 18 with (first
        | (go_at_call 30; refine (CW.out _ K8.out).mono ?_; rintro e w9 ⟨rfl, k9⟩; have K9 := Lib.hid (below_kept K8.out k9); clear k9)
        | ((refine wpList_load_row ?c0 30 (.tmp 9) ?c1 w.heap.size ?c2 30 LD.toArray (0, 0) _ (HGd.out _ K9.out) Tryd.underlying30 ?c3 HdZ.out ?_); (case c0 => with_reducible rfl); (case c1 => with_reducible rfl); (case c2 => rfl); (case c3 => rfl))
        | (go_at_call 23; refine (HTd.out _).mono ?_; rintro e w10 ⟨rfl, k10⟩; have K10 := Lib.hid (below_kept K9.out k10); clear k10)
        | (go_at_call 28; refine (HRd.out _).mono ?_; rintro e w11 ⟨rfl, k11⟩; have K11 := Lib.hid (below_kept K10.out k11); clear k11)
        | ((refine wpList_store_row ?c0 30 (.tmp 23) (.tmp 117) ?c1 w11.heap.size LD.toArray ?c2 ?c3 _ _ (hnew _ rfl) ?c4 ?c5 ?c6 ?_); (case c0 => with_reducible rfl); (case c1 => with_reducible rfl); (case c2 => rfl); (case c3 => rfl); (case c4 => exact HdZ.out); (case c5 => exact HdS.out.symm); (case c6 => exact HdOne.out)))
      have k12 : Kept w11 (World.setRow (w11.alloc (.cells z16 30)) w11.heap.size LD.toArray) := below_setRow ((Below.refl _ w11).alloc (Nat.le_refl _) _) (Nat.le_refl _) _
      have m12 : (World.setRow (w11.alloc (.cells z16 30)) w11.heap.size LD.toArray).heap[w11.heap.size]? = some (.cells LD.toArray 30 (0, 0)) := setRow_heap _ _ _ _ _ _ (hnew _ rfl)
      have k012 := below_kept K11.out k12
      generalize World.setRow (w11.alloc (.cells z16 30)) w11.heap.size LD.toArray = w12 at *
      obtain ⟨g12, hg12⟩ : ∃ g, g = w11.heap.size := ⟨_, rfl⟩
      rw [← hg12] at m12 ⊢
      have K012 := Lib.hid k012
      have rd9 := range_row (HGd.out _ k012)
      have rd10 := range_row (HGe.out _ k012)
      have ld9 := heap_lt (HGd.out _ k012)
      have ld10 := heap_lt (HGe.out _ k012)
      have rd12 := range_row m12
      have ld12 := heap_lt m12
      have Hk12 : Hid (∀ W, Below w12.heap.size w12 W → (W.rangeAt g12 0 LD ∧ W.rangeAt w.heap.size 0 LD ∧ W.rangeAt (w.heap.size + 1) 0 LE) ∧ Below w12.heap.size w12 W) := fun W h => ⟨⟨range_kept h ld12 rd12, range_kept h ld9 rd9, range_kept h ld10 rd10⟩, h⟩
      have hu := Tryd.underlying30
      have hsd : (Tryd.prog.info? 30).map (·.size) = some LD.length := by rw [HdL.out]; exact size16b
      have hse : (Tryd.prog.info? 30).map (·.size) = some LE.length := by rw [HeL.out]; exact size16b
      clear k12 m12 k012 hg12 rd9 rd10 ld9 ld10 rd12 ld12 K05 K7 K8 K9 K10 K11 HGd HGe CW CQ CM' HRd HdOne HdS HdZ hQI hQW hM1 hN1 hpI hpT hM2 hM3 hge hQ0 hQ1 hM hN
      go_cut [136] (fun v wx => v = .bool false ∧ Below w12.heap.size w12 wx)
      case first =>
        by_cases hED : E = D
        · have hstr : (tE.toList == tD.toList) = true := by rw [Hts2.out hED]; simp
          have hq1 := Hde.out
          have hq2 : ∀ W, (Op.equalIn 10000 30 (.agg LE.toArray) (.agg LD.toArray)).run Tryd.prog W = .ok true W := fun W => by rw [Hed.out, decide_eq_true hED]
          clear hED
          refine wp_region_held_drew (S := (fun W => (W.rangeAt g12 0 LD ∧ W.rangeAt w.heap.size 0 LD ∧ W.rangeAt (w.heap.size + 1) 0 LE) ∧ Below w12.heap.size w12 W)) (by kernel_rfl) ?_ (fun hHeld => ?_)
          · exact Hk12.out _ (by repeat (first | with_reducible assumption | with_reducible refine below_drew0 ?_ | with_reducible exact Below.refl _ _))
          refine wpAnyH_take (i := 0) (oi := ⟨some 119, _, _, _, _, _⟩) (v := ?_) rfl (by kernel_rfl) (by kernel_rfl) (by kernel_rfl) (fun _ _ _ h => h) (Or.inl ⟨by rfl, ?_⟩) hHeld ?_
          rotate_left
          · (intro w hSw; (try dsimp only at hSw); go_simp; (try with_reducible rfl))
          try simp only [Act.put, List.setIfInBounds_toArray, List.set_cons_zero, List.set_cons_succ]
          refine wpAnyH_take (i := 1) (oi := ⟨some 120, _, _, _, _, _⟩) (v := ?_) rfl (by kernel_rfl) (by kernel_rfl) (by kernel_rfl) (fun _ _ _ h => h) (Or.inl ⟨by rfl, ?_⟩) hHeld ?_
          rotate_left
          · (intro w hSw; (try dsimp only at hSw); go_simp; (try with_reducible rfl))
          try simp only [Act.put, List.setIfInBounds_toArray, List.set_cons_zero, List.set_cons_succ]
          refine wpAnyH_take (i := 2) (oi := ⟨some 121, _, _, _, _, _⟩) (v := ?_) rfl (by kernel_rfl) (by kernel_rfl) (by kernel_rfl) (fun _ _ _ h => h) (Or.inl ⟨by rfl, ?_⟩) hHeld ?_
          rotate_left
          · (intro w hSw; (try dsimp only at hSw); go_simp; (try with_reducible rfl))
          try simp only [Act.put, List.setIfInBounds_toArray, List.set_cons_zero, List.set_cons_succ]
          refine wpAnyH_take (i := 3) (oi := ⟨some 122, _, _, _, _, _⟩) rfl (by kernel_rfl) (by kernel_rfl) (by kernel_rfl) (fun _ _ _ h => h) (yieldsIf_load_mid (by rfl) _ _ rfl _ _ rfl LD _ (fun w hw => hw.1.1) hu rfl hsd) hHeld ?_
          try simp only [Act.put, List.setIfInBounds_toArray, List.set_cons_zero, List.set_cons_succ]
          refine wpAnyH_take (i := 4) (oi := ⟨some 123, _, _, _, _, _⟩) rfl (by kernel_rfl) (by kernel_rfl) (by kernel_rfl) (fun _ _ _ h => h) (yieldsIf_load_mid (by rfl) _ _ rfl _ _ rfl LD _ (fun w hw => hw.1.2.1) hu rfl hsd) hHeld ?_
          try simp only [Act.put, List.setIfInBounds_toArray, List.set_cons_zero, List.set_cons_succ]
          refine wpAnyH_take (i := 5) (oi := ⟨some 124, _, _, _, _, _⟩) (v := ?_) rfl (by kernel_rfl) (by kernel_rfl) (by kernel_rfl) (fun _ _ _ h => h) (Or.inl ⟨by rfl, ?_⟩) hHeld ?_
          rotate_left
          · (intro w hSw; (try dsimp only at hSw); go_simp; (try with_reducible rfl))
          try simp only [Act.put, List.setIfInBounds_toArray, List.set_cons_zero, List.set_cons_succ]
          refine wpAnyH_take (i := 6) (oi := ⟨some 125, _, _, _, _, _⟩) (v := ?_) rfl (by kernel_rfl) (by kernel_rfl) (by kernel_rfl) (fun _ _ _ h => h) (Or.inl ⟨by rfl, ?_⟩) hHeld ?_
          rotate_left
          · (intro w hSw; (try dsimp only at hSw); go_simp; (try with_reducible rfl))
          try simp only [Act.put, List.setIfInBounds_toArray, List.set_cons_zero, List.set_cons_succ]
          refine wpAnyH_take (i := 7) (oi := ⟨some 126, _, _, _, _, _⟩) (v := ?_) rfl (by kernel_rfl) (by kernel_rfl) (by kernel_rfl) (fun _ _ _ h => h) (Or.inl ⟨by rfl, ?_⟩) hHeld ?_
          rotate_left
          · (intro w hSw; (try dsimp only at hSw); go_simp; (try with_reducible rfl))
          try simp only [Act.put, List.setIfInBounds_toArray, List.set_cons_zero, List.set_cons_succ]
          refine wpAnyH_take (i := 8) (oi := ⟨some 127, _, _, _, _, _⟩) rfl (by kernel_rfl) (by kernel_rfl) (by kernel_rfl) (fun _ _ _ h => h) (yieldsIf_load_mid (by rfl) _ _ rfl _ _ rfl LE _ (fun w hw => hw.1.2.2) hu rfl hse) hHeld ?_
          try simp only [Act.put, List.setIfInBounds_toArray, List.set_cons_zero, List.set_cons_succ]
          refine wpAnyH_take (i := 10) (oi := ⟨some 129, _, _, _, _, _⟩) rfl (by kernel_rfl) (by kernel_rfl) (by kernel_rfl) (fun _ _ _ h => h) (yieldsIf_load_mid (by rfl) _ _ rfl _ _ rfl LD _ (fun w hw => hw.1.2.1) hu rfl hsd) hHeld ?_
          try simp only [Act.put, List.setIfInBounds_toArray, List.set_cons_zero, List.set_cons_succ]
          refine wpAnyH_take (i := 13) (oi := ⟨some 132, _, _, _, _, _⟩) rfl (by kernel_rfl) (by kernel_rfl) (by kernel_rfl) (fun _ _ _ h => h) (yieldsIf_load_mid (by rfl) _ _ rfl _ _ rfl LE _ (fun w hw => hw.1.2.2) hu rfl hse) hHeld ?_
          try simp only [Act.put, List.setIfInBounds_toArray, List.set_cons_zero, List.set_cons_succ]
          refine wpAnyH_take (i := 14) (oi := ⟨some 133, _, _, _, _, _⟩) rfl (by kernel_rfl) (by kernel_rfl) (by kernel_rfl) (fun _ _ _ h => h) (yieldsIf_load_mid (by rfl) _ _ rfl _ _ rfl LD _ (fun w hw => hw.1.2.1) hu rfl hsd) hHeld ?_
          try simp only [Act.put, List.setIfInBounds_toArray, List.set_cons_zero, List.set_cons_succ]
          refine wpAnyH_take (i := 15) (oi := ⟨some 134, _, _, _, _, _⟩) (v := ?_) rfl (by kernel_rfl) (by kernel_rfl) (by kernel_rfl) (fun _ _ _ h => h) (Or.inl ⟨by rfl, ?_⟩) hHeld ?_
          rotate_left
          · (intro w hSw; (try dsimp only at hSw); go_simp; (try with_reducible rfl))
          try simp only [Act.put, List.setIfInBounds_toArray, List.set_cons_zero, List.set_cons_succ]
          refine wpAnyH_ready (rs := [9]) (by kernel_rfl) (by simp) ?_
          refine AllReadyH.cons (o := ⟨some 128, _, _, _, _, _⟩) rfl (fun K hK => ?_) (AllReadyH.nil)
          · go_simp
            go_at_call 23; refine (HTe.out _).mono ?_; rintro e wa ⟨rfl, ka⟩; have hba := below_kept hHeld.2 ka; dsimp only
            go_wp2_with fail
            refine hK.out _ _ ?_ (fun hHeld => ?_)
            · exact Hk12.out _ (by repeat (first | with_reducible assumption | with_reducible refine below_drew0 ?_ | with_reducible exact Below.refl _ _))
            clear hK K
            try simp only [Act.put, List.setIfInBounds_toArray, List.set_cons_zero, List.set_cons_succ]
            refine wpAnyH_ready (rs := [11]) (by kernel_rfl) (by simp) ?_
            refine AllReadyH.cons (o := ⟨some 130, _, _, _, _, _⟩) rfl (fun K hK => ?_) (AllReadyH.nil)
            · go_simp
              go_at_call 23; refine (HTd.out _).mono ?_; rintro e wb ⟨rfl, kb⟩; have hbb := below_kept hHeld.2 kb; dsimp only
              go_wp2_with fail
              refine hK.out _ _ ?_ (fun hHeld => ?_)
              · exact Hk12.out _ (by repeat (first | with_reducible assumption | with_reducible refine below_drew0 ?_ | with_reducible exact Below.refl _ _))
              clear hK K
              try simp only [Act.put, List.setIfInBounds_toArray, List.set_cons_zero, List.set_cons_succ]
              refine wpAnyH_take (i := 12) (oi := ⟨some 131, _, _, _, _, _⟩) (v := ?_) rfl (by kernel_rfl) (by kernel_rfl) (by kernel_rfl) (fun _ _ _ h => h) (Or.inl ⟨by rfl, ?_⟩) hHeld ?_
              rotate_left
              · (intro w hSw; (try dsimp only at hSw); go_simp; (try with_reducible rfl))
              try simp only [Act.put, List.setIfInBounds_toArray, List.set_cons_zero, List.set_cons_succ]
              refine wpAnyH_take (i := 16) (oi := ⟨some 135, _, _, _, _, _⟩) (v := ?_) rfl (by kernel_rfl) (by kernel_rfl) (by kernel_rfl) (fun _ _ _ h => h) (Or.inl ⟨by rfl, ?_⟩) hHeld ?_
              rotate_left
              · (intro w hSw; (try dsimp only at hSw); go_simp; (try with_reducible rfl))
              try simp only [Act.put, List.setIfInBounds_toArray, List.set_cons_zero, List.set_cons_succ]
              refine wpAnyH_take (i := 17) (oi := ⟨some 136, _, _, _, _, _⟩) (v := ?_) rfl (by kernel_rfl) (by kernel_rfl) (by kernel_rfl) (fun _ _ _ h => h) (Or.inl ⟨by rfl, ?_⟩) hHeld ?_
              rotate_left
              · (intro w hSw; (try dsimp only at hSw); go_simp; (try with_reducible rfl))
              try simp only [Act.put, List.setIfInBounds_toArray, List.set_cons_zero, List.set_cons_succ]
              refine wpAnyH_done (by kernel_rfl) ?_ _
              go_wp2_with fail
              go_meet
              exact ⟨rfl, hHeld.2⟩
        · have hstr := Hts.out hED
          have hq1 := Hde.out
          have hq2 : ∀ W, (Op.equalIn 10000 30 (.agg LE.toArray) (.agg LD.toArray)).run Tryd.prog W = .ok false W := fun W => by rw [Hed.out, decide_eq_false hED]
          clear hED
          refine wp_region_held_drew (S := (fun W => (W.rangeAt g12 0 LD ∧ W.rangeAt w.heap.size 0 LD ∧ W.rangeAt (w.heap.size + 1) 0 LE) ∧ Below w12.heap.size w12 W)) (by kernel_rfl) ?_ (fun hHeld => ?_)
          · exact Hk12.out _ (by repeat (first | with_reducible assumption | with_reducible refine below_drew0 ?_ | with_reducible exact Below.refl _ _))
          refine wpAnyH_take (i := 0) (oi := ⟨some 119, _, _, _, _, _⟩) (v := ?_) rfl (by kernel_rfl) (by kernel_rfl) (by kernel_rfl) (fun _ _ _ h => h) (Or.inl ⟨by rfl, ?_⟩) hHeld ?_
          rotate_left
          · (intro w hSw; (try dsimp only at hSw); go_simp; (try with_reducible rfl))
          try simp only [Act.put, List.setIfInBounds_toArray, List.set_cons_zero, List.set_cons_succ]
          refine wpAnyH_take (i := 1) (oi := ⟨some 120, _, _, _, _, _⟩) (v := ?_) rfl (by kernel_rfl) (by kernel_rfl) (by kernel_rfl) (fun _ _ _ h => h) (Or.inl ⟨by rfl, ?_⟩) hHeld ?_
          rotate_left
          · (intro w hSw; (try dsimp only at hSw); go_simp; (try with_reducible rfl))
          try simp only [Act.put, List.setIfInBounds_toArray, List.set_cons_zero, List.set_cons_succ]
          refine wpAnyH_take (i := 2) (oi := ⟨some 121, _, _, _, _, _⟩) (v := ?_) rfl (by kernel_rfl) (by kernel_rfl) (by kernel_rfl) (fun _ _ _ h => h) (Or.inl ⟨by rfl, ?_⟩) hHeld ?_
          rotate_left
          · (intro w hSw; (try dsimp only at hSw); go_simp; (try with_reducible rfl))
          try simp only [Act.put, List.setIfInBounds_toArray, List.set_cons_zero, List.set_cons_succ]
          refine wpAnyH_take (i := 3) (oi := ⟨some 122, _, _, _, _, _⟩) rfl (by kernel_rfl) (by kernel_rfl) (by kernel_rfl) (fun _ _ _ h => h) (yieldsIf_load_mid (by rfl) _ _ rfl _ _ rfl LD _ (fun w hw => hw.1.1) hu rfl hsd) hHeld ?_
          try simp only [Act.put, List.setIfInBounds_toArray, List.set_cons_zero, List.set_cons_succ]
          refine wpAnyH_take (i := 4) (oi := ⟨some 123, _, _, _, _, _⟩) rfl (by kernel_rfl) (by kernel_rfl) (by kernel_rfl) (fun _ _ _ h => h) (yieldsIf_load_mid (by rfl) _ _ rfl _ _ rfl LD _ (fun w hw => hw.1.2.1) hu rfl hsd) hHeld ?_
          try simp only [Act.put, List.setIfInBounds_toArray, List.set_cons_zero, List.set_cons_succ]
          refine wpAnyH_take (i := 5) (oi := ⟨some 124, _, _, _, _, _⟩) (v := ?_) rfl (by kernel_rfl) (by kernel_rfl) (by kernel_rfl) (fun _ _ _ h => h) (Or.inl ⟨by rfl, ?_⟩) hHeld ?_
          rotate_left
          · (intro w hSw; (try dsimp only at hSw); go_simp; (try with_reducible rfl))
          try simp only [Act.put, List.setIfInBounds_toArray, List.set_cons_zero, List.set_cons_succ]
          refine wpAnyH_take (i := 6) (oi := ⟨some 125, _, _, _, _, _⟩) (v := ?_) rfl (by kernel_rfl) (by kernel_rfl) (by kernel_rfl) (fun _ _ _ h => h) (Or.inl ⟨by rfl, ?_⟩) hHeld ?_
          rotate_left
          · (intro w hSw; (try dsimp only at hSw); go_simp; (try with_reducible rfl))
          try simp only [Act.put, List.setIfInBounds_toArray, List.set_cons_zero, List.set_cons_succ]
          refine wpAnyH_take (i := 7) (oi := ⟨some 126, _, _, _, _, _⟩) (v := ?_) rfl (by kernel_rfl) (by kernel_rfl) (by kernel_rfl) (fun _ _ _ h => h) (Or.inl ⟨by rfl, ?_⟩) hHeld ?_
          rotate_left
          · (intro w hSw; (try dsimp only at hSw); go_simp; (try with_reducible rfl))
          try simp only [Act.put, List.setIfInBounds_toArray, List.set_cons_zero, List.set_cons_succ]
          refine wpAnyH_take (i := 8) (oi := ⟨some 127, _, _, _, _, _⟩) rfl (by kernel_rfl) (by kernel_rfl) (by kernel_rfl) (fun _ _ _ h => h) (yieldsIf_load_mid (by rfl) _ _ rfl _ _ rfl LE _ (fun w hw => hw.1.2.2) hu rfl hse) hHeld ?_
          try simp only [Act.put, List.setIfInBounds_toArray, List.set_cons_zero, List.set_cons_succ]
          refine wpAnyH_take (i := 10) (oi := ⟨some 129, _, _, _, _, _⟩) rfl (by kernel_rfl) (by kernel_rfl) (by kernel_rfl) (fun _ _ _ h => h) (yieldsIf_load_mid (by rfl) _ _ rfl _ _ rfl LD _ (fun w hw => hw.1.2.1) hu rfl hsd) hHeld ?_
          try simp only [Act.put, List.setIfInBounds_toArray, List.set_cons_zero, List.set_cons_succ]
          refine wpAnyH_take (i := 13) (oi := ⟨some 132, _, _, _, _, _⟩) rfl (by kernel_rfl) (by kernel_rfl) (by kernel_rfl) (fun _ _ _ h => h) (yieldsIf_load_mid (by rfl) _ _ rfl _ _ rfl LE _ (fun w hw => hw.1.2.2) hu rfl hse) hHeld ?_
          try simp only [Act.put, List.setIfInBounds_toArray, List.set_cons_zero, List.set_cons_succ]
          refine wpAnyH_take (i := 14) (oi := ⟨some 133, _, _, _, _, _⟩) rfl (by kernel_rfl) (by kernel_rfl) (by kernel_rfl) (fun _ _ _ h => h) (yieldsIf_load_mid (by rfl) _ _ rfl _ _ rfl LD _ (fun w hw => hw.1.2.1) hu rfl hsd) hHeld ?_
          try simp only [Act.put, List.setIfInBounds_toArray, List.set_cons_zero, List.set_cons_succ]
          refine wpAnyH_take (i := 15) (oi := ⟨some 134, _, _, _, _, _⟩) (v := ?_) rfl (by kernel_rfl) (by kernel_rfl) (by kernel_rfl) (fun _ _ _ h => h) (Or.inl ⟨by rfl, ?_⟩) hHeld ?_
          rotate_left
          · (intro w hSw; (try dsimp only at hSw); go_simp; (try with_reducible rfl))
          try simp only [Act.put, List.setIfInBounds_toArray, List.set_cons_zero, List.set_cons_succ]
          refine wpAnyH_ready (rs := [9]) (by kernel_rfl) (by simp) ?_
          refine AllReadyH.cons (o := ⟨some 128, _, _, _, _, _⟩) rfl (fun K hK => ?_) (AllReadyH.nil)
          · go_simp
            go_at_call 23; refine (HTe.out _).mono ?_; rintro e wa ⟨rfl, ka⟩; have hba := below_kept hHeld.2 ka; dsimp only
            go_wp2_with fail
            refine hK.out _ _ ?_ (fun hHeld => ?_)
            · exact Hk12.out _ (by repeat (first | with_reducible assumption | with_reducible refine below_drew0 ?_ | with_reducible exact Below.refl _ _))
            clear hK K
            try simp only [Act.put, List.setIfInBounds_toArray, List.set_cons_zero, List.set_cons_succ]
            refine wpAnyH_ready (rs := [11]) (by kernel_rfl) (by simp) ?_
            refine AllReadyH.cons (o := ⟨some 130, _, _, _, _, _⟩) rfl (fun K hK => ?_) (AllReadyH.nil)
            · go_simp
              go_at_call 23; refine (HTd.out _).mono ?_; rintro e wb ⟨rfl, kb⟩; have hbb := below_kept hHeld.2 kb; dsimp only
              go_wp2_with fail
              refine hK.out _ _ ?_ (fun hHeld => ?_)
              · exact Hk12.out _ (by repeat (first | with_reducible assumption | with_reducible refine below_drew0 ?_ | with_reducible exact Below.refl _ _))
              clear hK K
              try simp only [Act.put, List.setIfInBounds_toArray, List.set_cons_zero, List.set_cons_succ]
              refine wpAnyH_take (i := 12) (oi := ⟨some 131, _, _, _, _, _⟩) (v := ?_) rfl (by kernel_rfl) (by kernel_rfl) (by kernel_rfl) (fun _ _ _ h => h) (Or.inl ⟨by rfl, ?_⟩) hHeld ?_
              rotate_left
              · (intro w hSw; (try dsimp only at hSw); go_simp; (try with_reducible rfl))
              try simp only [Act.put, List.setIfInBounds_toArray, List.set_cons_zero, List.set_cons_succ]
              refine wpAnyH_take (i := 16) (oi := ⟨some 135, _, _, _, _, _⟩) (v := ?_) rfl (by kernel_rfl) (by kernel_rfl) (by kernel_rfl) (fun _ _ _ h => h) (Or.inl ⟨by rfl, ?_⟩) hHeld ?_
              rotate_left
              · (intro w hSw; (try dsimp only at hSw); go_simp; (try with_reducible rfl))
              try simp only [Act.put, List.setIfInBounds_toArray, List.set_cons_zero, List.set_cons_succ]
              refine wpAnyH_take (i := 17) (oi := ⟨some 136, _, _, _, _, _⟩) (v := ?_) rfl (by kernel_rfl) (by kernel_rfl) (by kernel_rfl) (fun _ _ _ h => h) (Or.inl ⟨by rfl, ?_⟩) hHeld ?_
              rotate_left
              · (intro w hSw; (try dsimp only at hSw); go_simp; (try with_reducible rfl))
              try simp only [Act.put, List.setIfInBounds_toArray, List.set_cons_zero, List.set_cons_succ]
              refine wpAnyH_done (by kernel_rfl) ?_ _
              go_wp2_with fail
              go_meet
              exact ⟨rfl, hHeld.2⟩
      case rest =>
      obtain ⟨rfl, k13⟩ := hcut
      --TAIL
      have K13 := Lib.hid (below_kept K012.out k13)
      obtain ⟨w13, rfl⟩ : ∃ x, x = wc := ⟨_, rfl⟩
      have hb13 := Below.refl w13.heap.size w13
      clear k13 K012 Hk12 Hts Hts2 Hed Hde HTd HTe hsd hse
      go_upto_region 20 with fail
      go_cut [25, 26] (fun v25 v26 wx => ∃ (g : Nat) (Z : List Int) (x : Int), v25 = .pointer (some ⟨g, 0, none⟩) ∧ v26 = .int .i64 x ∧ Hid (wx.heap[g]? = some (.cells (u8s Z).toArray 30 (0, 0))) ∧ Z.length = 16 ∧ Bts Z ∧ ((x = 0 ∧ s = strOfNums (tx Z)) ∨ (x = 30 ∧ Z = List.replicate 16 0)) ∧ Below w13.heap.size w13 wx)
      case first =>
        by_cases h2 : (s.size : Int) ≤ 200
        · have h3 : ¬ (200 : Int) < (s.size : Int) := by omega
          obtain ⟨Z, x, hZl, hZb, hx, C1, _⟩ := reads_same s
          have HX := Lib.hid (show (x = 0 ∧ s = strOfNums (tx Z)) ∨ (x = 30 ∧ Z = List.replicate 16 0) from hx.imp id (fun h => ⟨h.1, h.2.2⟩))
          have HZo := Lib.hid (row_all Z)
          have HZs : Hid ((u8s Z).toArray.size = 16) := by show _ = _; rw [List.size_toArray, u8s_length, hZl]
          have HZz : Hid ((Tryd.prog.info? 30).map (·.size) = some (u8s Z).toArray.size) := by show _ = _; rw [HZs.out]; exact size16b
          have HZ := Lib.hid (show Z.length = 16 ∧ Bts Z from ⟨hZl, hZb⟩)
          replace C1 := Lib.hid C1
          clear hZl hZb hx
          go_wp2_with (first
            | (go_at_call 28; refine (C1.out _).mono ?_; rintro e w14 ⟨rfl, k14⟩; have K14 := Lib.hid k14; clear k14)
            | ((refine wpList_store_row ?c0 30 (.tmp 25) (.tmp 144) ?c1 w14.heap.size (u8s Z).toArray ?c2 ?c3 _ _ (hnew _ rfl) ?c4 ?c5 ?c6 ?_); (case c0 => with_reducible rfl); (case c1 => with_reducible rfl); (case c2 => rfl); (case c3 => rfl); (case c4 => exact HZz.out); (case c5 => exact HZs.out.symm); (case c6 => exact HZo.out)))
          go_meet
          exact ⟨w14.heap.size, Z, x, rfl, rfl, setRow_heap _ _ _ _ _ _ (hnew _ rfl), HZ.out.1, HZ.out.2, HX.out, below_kept K14.out (below_setRow ((Below.refl _ w14).alloc (Nat.le_refl _) _) (Nat.le_refl _) _)⟩
        · have h3 : (200 : Int) < (s.size : Int) := by omega
          have h4 : (200 : Int) ≤ (s.size : Int) := by omega
          obtain ⟨Z, x, hZl, hZb, hx, C1, _⟩ := reads_same (s.extract 0 200)
          have HX := Lib.hid (show (x = 0 ∧ s = strOfNums (tx Z)) ∨ (x = 30 ∧ Z = List.replicate 16 0) from by
            rcases hx with ⟨_, h⟩ | h
            · exfalso
              have h5 := congrArg ByteArray.size h
              rw [tx_size _ hZl hZb, ByteArray.size_extract] at h5
              omega
            · exact .inr ⟨h.1, h.2.2⟩)
          have HZo := Lib.hid (row_all Z)
          have HZs : Hid ((u8s Z).toArray.size = 16) := by show _ = _; rw [List.size_toArray, u8s_length, hZl]
          have HZz : Hid ((Tryd.prog.info? 30).map (·.size) = some (u8s Z).toArray.size) := by show _ = _; rw [HZs.out]; exact size16b
          have HZ := Lib.hid (show Z.length = 16 ∧ Bts Z from ⟨hZl, hZb⟩)
          replace C1 := Lib.hid C1
          clear hZl hZb hx
          go_wp2_with (first
            | (go_at_call 28; refine (C1.out _).mono ?_; rintro e w14 ⟨rfl, k14⟩; have K14 := Lib.hid k14; clear k14)
            | ((refine wpList_store_row ?c0 30 (.tmp 25) (.tmp 144) ?c1 w14.heap.size (u8s Z).toArray ?c2 ?c3 _ _ (hnew _ rfl) ?c4 ?c5 ?c6 ?_); (case c0 => with_reducible rfl); (case c1 => with_reducible rfl); (case c2 => rfl); (case c3 => rfl); (case c4 => exact HZz.out); (case c5 => exact HZs.out.symm); (case c6 => exact HZo.out)))
          go_meet
          exact ⟨w14.heap.size, Z, x, rfl, rfl, setRow_heap _ _ _ _ _ _ (hnew _ rfl), HZ.out.1, HZ.out.2, HX.out, below_kept K14.out (below_setRow ((Below.refl _ w14).alloc (Nat.le_refl _) _) (Nat.le_refl _) _)⟩
      case rest =>
      obtain ⟨g, Z, x, rfl, rfl, hgZ, hZl, hZb, hx, k14⟩ := hcut
      have K14 := Lib.hid (below_kept K13.out k14)
      obtain ⟨w14, rfl⟩ : ∃ x, x = wc := ⟨_, rfl⟩
      have HAw := Lib.hid (awake_any w14 (HT0.out.below K14.out))
      have HB14 := Lib.hid (HB0.out.trans (Below.mono K14.out HB0.out.size))
      rcases hx with ⟨rfl, hs⟩ | ⟨rfl, hZ0⟩
      · subst hs
        have HTz := Lib.hid (fun W => text_any Z hZl hZb W)
        have HZz : Hid ((Tryd.prog.info? 30).map (·.size) = some (u8s Z).toArray.size) := by show _ = _; rw [List.size_toArray, u8s_length, hZl]; exact size16b
        generalize (u8s Z).toArray = LZ at *
        generalize strOfNums (tx Z) = tZ at *
        clear hZl hZb
        go_wp2_with (first
          | ((refine wpList_load_if ?c0 30 (.tmp 25) ?c1 g ?c2 30 LZ _ hgZ.out Tryd.underlying30 ?c3 HZz.out ?_); (case c0 => rfl); (case c1 => with_reducible rfl); (case c2 => rfl); (case c3 => rfl))
          | (go_at_call 23; refine (HTz.out _).mono ?_; rintro e w15 ⟨rfl, k15⟩; have K15 := Lib.hid k15; clear k15)
          | (go_at_call 14; refine (awake_any _ ((HT0.out.below K14.out).below K15.out)).mono ?_; rintro e w16 ⟨rfl, k16⟩; have HB16 := Lib.hid (HB14.out.trans (Below.mono (below_kept K15.out k16) HB14.out.size)); clear k16))
        go_ret
        exact ⟨rfl, HB16.out⟩
      · subst hZ0
        have hz : ∀ W, (Op.equalIn 10000 30 (.agg #[.int .u8 0, .int .u8 0, .int .u8 0, .int .u8 0, .int .u8 0, .int .u8 0, .int .u8 0, .int .u8 0, .int .u8 0, .int .u8 0, .int .u8 0, .int .u8 0, .int .u8 0, .int .u8 0, .int .u8 0, .int .u8 0]) (.agg #[.int .u8 0, .int .u8 0, .int .u8 0, .int .u8 0, .int .u8 0, .int .u8 0, .int .u8 0, .int .u8 0, .int .u8 0, .int .u8 0, .int .u8 0, .int .u8 0, .int .u8 0, .int .u8 0, .int .u8 0, .int .u8 0])).run Tryd.prog W = .ok true W := fun W => by
          have h := eq_dig (List.replicate 16 0) (List.replicate 16 0) (by simp) (by simp) W
          rw [decide_eq_true rfl] at h
          exact h
        have hgz : Hid (w14.heap[g]? = some (.cells #[.int .u8 0, .int .u8 0, .int .u8 0, .int .u8 0, .int .u8 0, .int .u8 0, .int .u8 0, .int .u8 0, .int .u8 0, .int .u8 0, .int .u8 0, .int .u8 0, .int .u8 0, .int .u8 0, .int .u8 0, .int .u8 0] 30 (0, 0))) := hgZ.out
        clear hgZ hZl hZb
        go_wp2_with (first
          | ((refine wpList_load_if ?c0 30 (.tmp 25) ?c1 g ?c2 30 #[.int .u8 0, .int .u8 0, .int .u8 0, .int .u8 0, .int .u8 0, .int .u8 0, .int .u8 0, .int .u8 0, .int .u8 0, .int .u8 0, .int .u8 0, .int .u8 0, .int .u8 0, .int .u8 0, .int .u8 0, .int .u8 0] _ hgz.out Tryd.underlying30 ?c3 size16b ?_); (case c0 => rfl); (case c1 => with_reducible rfl); (case c2 => rfl); (case c3 => rfl))
          | (go_at_call 14; refine HAw.out.mono ?_; rintro e w16 ⟨rfl, k16⟩; have HB16 := Lib.hid (HB14.out.trans (Below.mono k16 HB14.out.size)); clear k16))
        go_ret
        exact ⟨rfl, HB16.out⟩
end Go.Proofs.YtlgdbhebcglkoaaDoor
