/-
  The walk of Md5Cuts.
-/
import Derived.Test.YtlgdbhebcglkoaaDoorMdZ7
import Derived.Test.YtlgdbhebcglkoaaDoorMdBlocks
import Derived.Test.YtlgdbhebcglkoaaDoorMdL

import Derived.Deep.DeepCutAuto
namespace Go.Proofs.YtlgdbhebcglkoaaDoor
open Go.RowKit Go.Shelf
theorem u8s_drop' (l : List Int) (k : Nat) : u8s (l.drop k) = (u8s l).drop k := by unfold u8s; rw [List.map_drop]
/-- A part of a slice. -/
theorem rd_part {w : World} {B n c : Nat} {A : Option Addr} {xs : List Value} (h : Rd w B A n xs) (l r : Nat) (hl : l ≤ r) (hr : r ≤ n) (hc : n ≤ c) : Rd w B (if c = l then A else A.map (·.add l)) (r - l) ((xs.drop l).take (r - l)) := by
  refine ⟨by rw [List.length_take, List.length_drop, h.1]; omega, fun h0 => ?_⟩
  obtain ⟨ad, e, hb, hcell⟩ := h.2 (by omega)
  refine ⟨ad.add l, by rw [if_neg (by omega), e]; rfl, by rw [addBlock]; exact hb, fun j u hu => ?_⟩
  rw [addr_add_add]
  refine hcell (l + j) u ?_
  have hj := (List.getElem?_eq_some_iff.1 hu).1
  rw [List.length_take, List.length_drop] at hj
  rw [List.getElem?_take, if_pos (by omega), List.getElem?_drop] at hu
  exact hu
theorem rd_apart {w : World} {B n g : Nat} {A : Option Addr} {xs : List Value} (h : Rd w B A n xs) (hg : B ≤ g) : ∀ ad, A = some ad → 0 < n → ad.block ≠ g := by
  intro ad e h0
  obtain ⟨ad', e', hb, _⟩ := h.2 h0
  rw [e] at e'
  cases e'
  omega
set_option maxRecDepth 100000 in
set_option maxHeartbeats 8000000 in
theorem cuts_walk (A0 : Option Addr) (n0 c0 : Nat) (hn0 : n0 ≤ c0) (hc0 : c0 ≤ maxLen) (P0 : List Int) (hP0 : Bts P0) (A1 : Option Addr) (n1 c1 : Nat) (hn1 : n1 ≤ c1) (hc1 : c1 ≤ maxLen) (Z : List Int) (hZ : ∀ z ∈ Z, 0 ≤ z ∧ z ≤ 65535) (A2 : Option Addr) (n2 c2 : Nat) (hn2 : n2 ≤ c2) (hc2 : c2 ≤ maxLen) (P2 : List Int) (hP2 : Bts P2) (w : World)
    (hr0 : Rd w w.heap.size A0 n0 (u8s P0)) (hr1 : Rd w w.heap.size A1 n1 (Z.map (Value.int .u16))) (hr2 : Rd w w.heap.size A2 n2 (u8s P2)) (hT : Tab w) :
    Calls Tryd.prog 9 #[.slice A0 n0 c0, .slice A1 n1 c1, .slice A2 n2 c2] w fun e w' => e = .returned (.bool true) ∧ Below w.heap.size w w' := by
  unfold maxLen at hc0 hc1 hc2
  have hZl : Z.length = n1 := by have := hr1.1; rwa [List.length_map] at this
  have HT := Lib.hid hT
  have Hr0 := Lib.hid hr0
  have Hr1 := Lib.hid hr1
  have Hr2 := Lib.hid hr2
  have HP0 := Lib.hid hP0
  have HP2 := Lib.hid hP2
  have HZ := Lib.hid hZ
  have HZl := Lib.hid hZl
  have Hb1 := Lib.hid (⟨hn1, hc1⟩ : n1 ≤ c1 ∧ c1 ≤ 9223372036854775807)
  have Hb2 := Lib.hid (⟨hn2, hc2⟩ : n2 ≤ c2 ∧ c2 ≤ 9223372036854775807)
  clear hT hr0 hr1 hr2 hP0 hP2 hZ hZl hn1 hc1 hn2 hc2
  go_enter Tryd.func9, Tryd.ntmps9
  go_upto_region 1 with fail
  go_cut [0] (fun v0 wx => (∃ k, v0 = .slice A0 k c0 ∧ k ≤ 1500 ∧ k ≤ n0) ∧ wx = w)
  case first =>
    by_cases h3 : (n0 : Int) ≤ 1500
    · go_wp2_with fail
      go_meet
      exact ⟨⟨_, rfl, by omega, by omega⟩, rfl⟩
    · have h4 : (1500 : Int) ≤ (n0 : Int) := by omega
      have h5 : (1500 : Int) ≤ (c0 : Int) := by omega
      go_wp2_with fail
      go_meet
      exact ⟨⟨_, rfl, by omega, by omega⟩, rfl⟩
  case rest =>
  obtain ⟨⟨k, rfl, hk5, hkn⟩, hw⟩ := hcut
  obtain rfl : w = wc := hw.symm
  obtain ⟨P, hP⟩ : ∃ P, P = P0.take k := ⟨_, rfl⟩
  have HPb : Hid (Bts P) := by rw [hP]; exact HP0.out.take k
  have HrP : Hid (Rd w w.heap.size A0 k (u8s P)) := by
    have := rd_take' Hr0.out k hkn
    rw [u8s_take', ← hP] at this
    exact this
  have hPl : P.length = k := by have := HrP.out.1; rwa [u8s_length] at this
  have hkc : k ≤ c0 := by omega
  clear hP Hr0 HP0 hkn hn0 hw
  have HN := Lib.hid (new_inv w)
  have CS : Hid (∀ W, Kept w W → Calls Tryd.prog 24 #[.slice A0 k c0] W fun e w' => e = .returned (.agg (u8s (sumL P)).toArray) ∧ Kept W w') := fun W h => sum_any A0 k c0 P HPb.out (by omega) hkc W ((HrP.out.below h).more h.size) (HT.out.below h)
  have CA : Hid (∀ W, Kept w W → Calls Tryd.prog 14 #[] W fun e w' => e = .returned (.bool true) ∧ Kept W w') := fun W h => awake_any W (HT.out.below h)
  go_upto_region 5 with (go_at_call 17; refine HN.out.mono ?_; rintro e w1 ⟨g, rfl, hg, hD, hk⟩)
  have HD := Lib.hid hD
  have HK := Lib.hid hk
  have CW : Hid (∀ W P Q A m cc, Kept w W → DInv g P W → Bts Q → P.length + m ≤ 1000000 → m ≤ cc → Rd w w.heap.size A m (u8s Q) → Calls Tryd.prog 19 #[.pointer (some ⟨g, 0, none⟩), .slice A m cc] W fun e w' => e = .returned (.int .i64 0) ∧ DInv g (P ++ Q) w' ∧ Kept w w') := fun W P Q A m cc hk hD hQ hm hcc hr =>
    (write_inv hD A m cc Q hQ (by omega) hcc ((hr.below hk).more hk.size) (rd_apart hr hg) (HT.out.below hk)).mono fun _ _ ⟨he, hD', hb, _⟩ => ⟨he, hD', Below.trans hk (hb.mono hg)⟩
  have CR : Hid (∀ W P, Kept w W → DInv g P W → Calls Tryd.prog 18 #[.pointer (some ⟨g, 0, none⟩)] W fun e w' => e = .returned (.int .i64 0) ∧ DInv g [] w' ∧ Kept w w') := fun W P hk hD =>
    (reset_inv hD).mono fun _ _ ⟨he, hD', hb, _⟩ => ⟨he, hD', Below.trans hk (hb.mono hg)⟩
  have CD : Hid (∀ W P, Kept w W → DInv g P W → P.length ≤ 1000000 → Calls Tryd.prog 20 #[.pointer (some ⟨g, 0, none⟩)] W fun e w' => e = .returned (.tuple #[.agg (u8s (sumL P)).toArray, .int .i64 0]) ∧ DInv g P w' ∧ Kept w w' ∧ Kept W w') := fun W P hk hD hP =>
    (sum_inv hD (by omega) (HT.out.below hk)).mono fun _ _ ⟨he, hb⟩ => ⟨he, hD.kept hb, below_kept hk hb, hb⟩
  clear hD hk HN
  go_cut [8] (fun v8 wx => v8 = .int .i64 0 ∧ ∃ Q, DInv g Q wx ∧ Kept w wx)
  case first =>
    have h6 := Hb2.out.1
    by_cases h3 : (n2 : Int) ≤ 200
    · go_wp2_with (go_at_call 19; refine (CW.out _ [] P2 A2 n2 c2 HK.out HD.out HP2.out (by simp; omega) Hb2.out.1 Hr2.out).mono ?_; rintro e w2 ⟨rfl, hD2, hk2⟩)
      go_meet
      exact ⟨rfl, _, hD2, hk2⟩
    · have h4 : (200 : Int) ≤ (n2 : Int) := by omega
      have h5 : (200 : Int) ≤ (c2 : Int) := by have := Hb2.out; omega
      have HrQ : Hid (Rd w w.heap.size A2 200 (u8s (P2.take 200))) := by
        have := rd_take' Hr2.out 200 (by omega)
        rwa [u8s_take'] at this
      go_wp2_with (go_at_call 19; refine (CW.out _ [] (P2.take 200) A2 200 c2 HK.out HD.out (HP2.out.take 200) (by simp) (by omega) HrQ.out).mono ?_; rintro e w2 ⟨rfl, hD2, hk2⟩)
      go_meet
      exact ⟨rfl, _, hD2, hk2⟩
  case rest =>
  obtain ⟨rfl, Q, hD2, hk2⟩ := hcut
  obtain ⟨w2, rfl⟩ : ∃ x, x = wc := ⟨_, rfl⟩
  have HD2 := Lib.hid hD2
  have HK2 := Lib.hid hk2
  clear hD2 hk2 HD HK Hr2 HP2 Hb2
  have CL0 : Hid (∀ W, DInv g [] W → Calls Tryd.prog 22 #[.pointer (some ⟨g, 0, none⟩)] W fun e w' => e = .returned (.int .i64 0) ∧ W = w') := fun W hD => len_inv hD
  go_upto_region 10 with (first
    | (go_at_call 18; refine (CR.out _ _ HK2.out HD2.out).mono ?_; rintro e w3 ⟨rfl, hD3, hk3⟩; have HD3 := Lib.hid hD3; have HK3 := Lib.hid hk3; clear hD3 hk3)
    | (go_at_call 22; refine (CL0.out _ HD3.out).mono ?_; rintro e w4 ⟨rfl, rfl⟩))
  clear HD2 HK2 CR CL0
  go_cut [48, 49, 50] (fun v48 v49 v50 wx => (∃ q, v48 = .slice A1 q c1 ∧ v49 = .int .i64 q ∧ q ≤ 40 ∧ q ≤ n1) ∧ v50 = .int .i64 0 ∧ wx = w3)
  case first =>
    have h6 := Hb1.out.1
    by_cases h3 : (n1 : Int) ≤ 40
    · go_wp2_with fail
      go_meet
      exact ⟨⟨_, rfl, rfl, by omega, by omega⟩, rfl, rfl⟩
    · have h4 : (40 : Int) ≤ (n1 : Int) := by omega
      have h5 : (40 : Int) ≤ (c1 : Int) := by omega
      go_wp2_with fail
      go_meet
      exact ⟨⟨_, rfl, rfl, by omega, by omega⟩, rfl, rfl⟩
  case rest =>
  obtain ⟨⟨q, rfl, rfl, hq40, hqn⟩, rfl, hw⟩ := hcut
  obtain rfl : w3 = wc := hw.symm
  have HrZ : Hid (Rd w w.heap.size A1 q ((Z.map (Value.int .u16)).take q)) := rd_take' Hr1.out q hqn
  clear hw Hr1 Hb1
  go_wp2_with fail
  go_loopw [10, 50] (fun v10 v50 wr => ∃ i p : Nat, i ≤ q ∧ p ≤ k ∧ v10 = .int .i64 p ∧ v50 = .int .i64 i ∧ Hid (Kept w wr) ∧ Hid (DInv g (P.take p) wr)) (fun _ v50 _ => q - (intOf v50).toNat)
  case atStart => exact ⟨0, 0, by omega, by omega, rfl, rfl, HK3, by rw [List.take_zero]; exact HD3⟩
  case round =>
    obtain ⟨i, p, hi, hp, rfl, rfl, hkr, hDr⟩ := hrel
    by_cases hiq : i < q
    · obtain ⟨ad, u, rfl, hadb, hu, hcu⟩ := HrZ.out.at_ hiq
      obtain ⟨z, hzZ, rfl⟩ : ∃ z, z ∈ Z ∧ u = .int .u16 z := by
        rw [List.getElem?_take, if_pos hiq, List.getElem?_map] at hu
        obtain ⟨z, hz, e⟩ := Option.map_eq_some_iff.1 hu
        exact ⟨z, List.mem_of_getElem? hz, e.symm⟩
      obtain ⟨hz0, hz1⟩ := HZ.out z hzZ
      obtain ⟨zn, rfl⟩ := Int.eq_ofNat_of_zero_le hz0
      have hcell : wr.cell? (ad.add i) = some (.int .u16 (zn : Int)) := (Below.cell hkr.out (by rw [addBlock]; exact hadb)).trans hcu
      have hzw : IntKind.i64.wrap (zn : Int) = (zn : Int) := by rw [IntWalk.i64_in _ (by omega)]
      obtain ⟨d, hd⟩ : ∃ d, k - p + 1 = d := ⟨_, rfl⟩
      have hd1 : (k : Int) - (p : Int) + 1 = (d : Int) := by omega
      have hd0 : ¬ ((d : Int) = 0) := by omega
      obtain ⟨r, hr⟩ : ∃ r, zn % d = r := ⟨_, rfl⟩
      obtain ⟨t, ht⟩ : ∃ t, p + r = t := ⟨_, rfl⟩
      have hrd : r < d := by rw [← hr]; exact Nat.mod_lt _ (by omega)
      have hmI : (zn : Int) % (d : Int) = (r : Int) := by omega
      have hadd : (p : Int) + (r : Int) = (t : Int) := by omega
      have htp : p ≤ t := by omega
      have htk : t ≤ k := by omega
      have htpI : (p : Int) ≤ (t : Int) := by omega
      have htkI : (t : Int) ≤ (c0 : Int) := by omega
      have HrT := Lib.hid (rd_part HrP.out p t htp htk hkc)
      rw [← u8s_drop', u8s_take'] at HrT
      have HbT : Hid (Bts ((P.drop p).take (t - p))) := (HPb.out.drop p).take _
      have heq : P.take p ++ (P.drop p).take (t - p) = P.take t := by
        rw [← List.take_append_drop p (P.take t), List.take_take, Nat.min_eq_left htp, List.drop_take]
      have HW : Hid (∀ A, A = (if c0 = p then A0 else A0.map (·.add p)) → Calls Tryd.prog 19 #[.pointer (some ⟨g, 0, none⟩), .slice A (t - p) (c0 - p)] wr fun e w' => e = .returned (.int .i64 0) ∧ DInv g (P.take t) w' ∧ Kept w w') := fun A hA => by
        have h := CW.out wr (P.take p) ((P.drop p).take (t - p)) A (t - p) (c0 - p) hkr.out hDr.out HbT.out (by rw [List.length_take]; omega) (by omega) (by rw [hA]; exact HrT.out)
        rwa [heq] at h
      have HL : Hid (∀ W, DInv g (P.take t) W → Calls Tryd.prog 22 #[.pointer (some ⟨g, 0, none⟩)] W fun e w' => e = .returned (.int .i64 (t : Int)) ∧ W = w') := fun W hD => by
        have h := len_inv hD
        rwa [List.length_take, hPl, Nat.min_eq_left htk] at h
      have hd2 := hd0
      clear hu hcu hzZ heq hr ht hd
      go_upto_region 14 with fail
      go_cut [76] (fun v76 wx => v76 = .bool false ∧ Hid (Kept w wx) ∧ Hid (DInv g (P.take t) wx))
      case first =>
        by_cases hcp : c0 = p
        · have HW2 := Lib.hid (HW.out A0 (by rw [if_pos hcp]))
          have hcp2 : (c0 = p) = True := eq_true hcp
          clear hcp
          go_wp2_with (first
            | (go_at_call 19; refine HW2.out.mono ?_; rintro e w4 ⟨rfl, hD4, hk4⟩; have HD4 := Lib.hid hD4; have HK4 := Lib.hid hk4; clear hD4 hk4)
            | (go_at_call 22; refine (HL.out _ HD4.out).mono ?_; rintro e w5 ⟨rfl, rfl⟩))
          go_meet
          exact ⟨rfl, HK4, HD4⟩
        · have HW2 := Lib.hid (HW.out (A0.map (·.add p)) (by rw [if_neg hcp]))
          go_wp2_with (first
            | (go_at_call 19; refine HW2.out.mono ?_; rintro e w4 ⟨rfl, hD4, hk4⟩; have HD4 := Lib.hid hD4; have HK4 := Lib.hid hk4; clear hD4 hk4)
            | (go_at_call 22; refine (HL.out _ HD4.out).mono ?_; rintro e w5 ⟨rfl, rfl⟩))
          go_meet
          exact ⟨rfl, HK4, HD4⟩
      case rest =>
      obtain ⟨rfl, HK4, HD4⟩ := hcut
      obtain ⟨w4, rfl⟩ : ∃ x, x = wc := ⟨_, rfl⟩
      have HS4 := Lib.hid (CD.out w4 (P.take t) HK4.out HD4.out (by rw [List.length_take]; omega))
      clear HW HL HbT HrT
      by_cases h3 : (zn : Int) % 3 = 0
      · go_wp2_with (go_at_call 20; refine HS4.out.mono ?_; rintro e w5 ⟨rfl, hD5, hk5, _⟩; have HD5 := Lib.hid hD5; have HK5 := Lib.hid hk5; clear hD5 hk5)
        go_roundw
        case rel => exact ⟨i + 1, t, by omega, htk, rfl, by go_num, HK5, HD5⟩
        case measure => simp [intOf]; omega
      · go_wp2_with fail
        go_roundw
        case rel => exact ⟨i + 1, t, by omega, htk, rfl, by go_num, HK4, HD4⟩
        case measure => simp [intOf]; omega
    · obtain rfl : i = q := by omega
      have HK := Lib.hid hkr.out
      have hpk : (p : Int) ≤ (k : Int) := by omega
      have hkc2 : (k : Int) ≤ (c0 : Int) := by omega
      have HrT := Lib.hid (rd_part HrP.out p k hp (Nat.le_refl _) hkc)
      rw [← u8s_drop', u8s_take'] at HrT
      have HbT : Hid (Bts ((P.drop p).take (k - p))) := (HPb.out.drop p).take _
      have heq : P.take p ++ (P.drop p).take (k - p) = P := by
        rw [List.take_of_length_le (l := P.drop p) (by rw [List.length_drop]; omega), List.take_append_drop]
      have HW : Hid (∀ A, A = (if c0 = p then A0 else A0.map (·.add p)) → Calls Tryd.prog 19 #[.pointer (some ⟨g, 0, none⟩), .slice A (k - p) (c0 - p)] wr fun e w' => e = .returned (.int .i64 0) ∧ DInv g P w' ∧ Kept w w') := fun A hA => by
        have h := CW.out wr (P.take p) ((P.drop p).take (k - p)) A (k - p) (c0 - p) HK.out hDr.out HbT.out (by rw [List.length_take]; omega) (by omega) (by rw [hA]; exact HrT.out)
        rwa [heq] at h
      clear heq
      go_upto_region 20 with fail
      go_cut [89] (fun v89 wx => v89 = .bool false ∧ Hid (Kept w wx) ∧ Hid (DInv g P wx))
      case first =>
        by_cases hcp : c0 = p
        · have HW2 := Lib.hid (HW.out A0 (by rw [if_pos hcp]))
          have hcp2 : (c0 = p) = True := eq_true hcp
          clear hcp
          go_wp2_with (go_at_call 19; refine HW2.out.mono ?_; rintro e w4 ⟨rfl, hD4, hk4⟩; have HD4 := Lib.hid hD4; have HK4 := Lib.hid hk4; clear hD4 hk4)
          go_meet
          exact ⟨rfl, HK4, HD4⟩
        · have HW2 := Lib.hid (HW.out (A0.map (·.add p)) (by rw [if_neg hcp]))
          go_wp2_with (go_at_call 19; refine HW2.out.mono ?_; rintro e w4 ⟨rfl, hD4, hk4⟩; have HD4 := Lib.hid hD4; have HK4 := Lib.hid hk4; clear hD4 hk4)
          go_meet
          exact ⟨rfl, HK4, HD4⟩
      case rest =>
      obtain ⟨rfl, HK4, HD4⟩ := hcut
      obtain ⟨w4, rfl⟩ : ∃ x, x = wc := ⟨_, rfl⟩
      have hSl := sumL_length P
      have CD4 := Lib.hid (fun W hk hD => CD.out W P hk hD (by omega))
      have CL4 : Hid (∀ W, DInv g P W → Calls Tryd.prog 22 #[.pointer (some ⟨g, 0, none⟩)] W fun e w' => e = .returned (.int .i64 (k : Int)) ∧ W = w') := fun W hD => by
        have h := len_inv hD
        rwa [hPl] at h
      have Hss : Hid (∀ W, (Op.equalIn 10000 30 (.agg (u8s (sumL P)).toArray) (.agg (u8s (sumL P)).toArray)).run Tryd.prog W = .ok true W) := fun W => by rw [eq_dig _ _ hSl hSl, decide_eq_true rfl]
      have HsL : Hid ((u8s (sumL P)).length = 16) := by show _ = _; rw [u8s_length, hSl]
      have Hone := Lib.hid (row_all' (sumL P))
      generalize u8s (sumL P) = L at *
      have Hsz : Hid ((Tryd.prog.info? 30).map (·.size) = some L.toArray.size) := by show _ = _; rw [List.size_toArray, HsL.out]; exact size16b
      have HLs : Hid (L.toArray.size = 16) := by show _ = _; rw [List.size_toArray, HsL.out]
      clear HW HrT HbT hSl
      go_upto_region 23 with (first
        | (go_at_call 20; refine (CD4.out _ HK4.out HD4.out).mono ?_; rintro e w5 ⟨rfl, hD5, hk5, hb5⟩; have HD5 := Lib.hid hD5; have HK5 := Lib.hid hk5; clear hD5 hk5 hb5)
        | ((refine wpList_store_row ?c0 30 (.tmp 14) (.tmp 93) ?c1 w5.heap.size L.toArray ?c2 ?c3 _ _ (hnew _ rfl) ?c4 ?c5 ?c6 ?_); (case c0 => with_reducible rfl); (case c1 => with_reducible rfl); (case c2 => rfl); (case c3 => rfl); (case c4 => exact Hsz.out); (case c5 => exact HLs.out.symm); (case c6 => exact Hone.out)))
      --R23
      have k6 : Kept w5 (World.setRow (w5.alloc (.cells z16 30)) w5.heap.size L.toArray) := below_setRow ((Below.refl _ w5).alloc (Nat.le_refl _) _) (Nat.le_refl _) _
      have m6 : (World.setRow (w5.alloc (.cells z16 30)) w5.heap.size L.toArray).heap[w5.heap.size]? = some (.cells L.toArray 30 (0, 0)) := setRow_heap _ _ _ _ _ _ (hnew _ rfl)
      have HK6 := Lib.hid (below_kept HK5.out k6)
      have HD6 := Lib.hid (HD5.out.kept k6)
      generalize World.setRow (w5.alloc (.cells z16 30)) w5.heap.size L.toArray = w6 at *
      obtain ⟨g6, hg6⟩ : ∃ x, x = w5.heap.size := ⟨_, rfl⟩
      rw [← hg6] at m6 ⊢
      have M6 := Lib.hid m6
      clear k6 m6 hg6 HK5 HD5 HK4 HD4
      go_upto_region 24 with (first
        | (go_at_call 20; refine (CD4.out _ HK6.out HD6.out).mono ?_; rintro e w7 ⟨rfl, hD7, hk7, hb7⟩; have HD7 := Lib.hid hD7; have HK7 := Lib.hid hk7; have HB7 := Lib.hid hb7; clear hD7 hk7 hb7)
        | ((refine wpList_store_row ?c0 30 (.tmp 16) (.tmp 98) ?c1 w7.heap.size L.toArray ?c2 ?c3 _ _ (hnew _ rfl) ?c4 ?c5 ?c6 ?_); (case c0 => with_reducible rfl); (case c1 => with_reducible rfl); (case c2 => rfl); (case c3 => rfl); (case c4 => exact Hsz.out); (case c5 => exact HLs.out.symm); (case c6 => exact Hone.out)))
      have k8 : Kept w7 (World.setRow (w7.alloc (.cells z16 30)) w7.heap.size L.toArray) := below_setRow ((Below.refl _ w7).alloc (Nat.le_refl _) _) (Nat.le_refl _) _
      have m8 : (World.setRow (w7.alloc (.cells z16 30)) w7.heap.size L.toArray).heap[w7.heap.size]? = some (.cells L.toArray 30 (0, 0)) := setRow_heap _ _ _ _ _ _ (hnew _ rfl)
      have HK8 := Lib.hid (below_kept HK7.out k8)
      have HD8 := Lib.hid (HD7.out.kept k8)
      have r6 := range_row0 (heap_kept k8 (heap_kept HB7.out M6.out))
      have l6 := heap_lt (heap_kept k8 (heap_kept HB7.out M6.out))
      generalize World.setRow (w7.alloc (.cells z16 30)) w7.heap.size L.toArray = w8 at *
      obtain ⟨g8, hg8⟩ : ∃ x, x = w7.heap.size := ⟨_, rfl⟩
      rw [← hg8] at m8 ⊢
      have r8 := range_row0 m8
      have l8 := heap_lt m8
      have Hk8 : Hid (∀ W, Below w8.heap.size w8 W → (W.rangeAt g6 0 L ∧ W.rangeAt g8 0 L) ∧ Below w8.heap.size w8 W) := fun W h => ⟨⟨range_kept' h l6 r6, range_kept' h l8 r8⟩, h⟩
      have hu := Tryd.underlying30
      have hsd : (Tryd.prog.info? 30).map (·.size) = some L.length := by rw [HsL.out]; exact size16b
      have hss := Hss.out
      have hw0 : IntKind.i64.wrap 0 = 0 := by decide
      clear k8 m8 hg8 HK6 HD6 HK7 HD7 HB7 M6 r6 r8 l6 l8
      refine wp_region_held_drew (S := (fun W => (W.rangeAt g6 0 L ∧ W.rangeAt g8 0 L) ∧ Below w8.heap.size w8 W)) (by kernel_rfl) ?_ (fun hHeld => ?_)
      · exact Hk8.out _ (by repeat (first | with_reducible assumption | with_reducible refine below_drew0 ?_ | with_reducible exact Below.refl _ _))
      refine wpAnyH_take (i := 0) (oi := ⟨some 100, _, _, _, _, _⟩) (v := ?_) rfl (by kernel_rfl) (by kernel_rfl) (by kernel_rfl) (fun _ _ _ h => h) (Or.inl ⟨by rfl, ?_⟩) hHeld ?_
      rotate_left
      · (intro w hSw; (try dsimp only at hSw); go_simp; (try with_reducible rfl))
      try simp only [Act.put, List.setIfInBounds_toArray, List.set_cons_zero, List.set_cons_succ]
      refine wpAnyH_take (i := 1) (oi := ⟨some 101, _, _, _, _, _⟩) (v := ?_) rfl (by kernel_rfl) (by kernel_rfl) (by kernel_rfl) (fun _ _ _ h => h) (Or.inl ⟨by rfl, ?_⟩) hHeld ?_
      rotate_left
      · (intro w hSw; (try dsimp only at hSw); go_simp; (try with_reducible rfl))
      try simp only [Act.put, List.setIfInBounds_toArray, List.set_cons_zero, List.set_cons_succ]
      refine wpAnyH_take (i := 2) (oi := ⟨some 102, _, _, _, _, _⟩) (v := ?_) rfl (by kernel_rfl) (by kernel_rfl) (by kernel_rfl) (fun _ _ _ h => h) (Or.inl ⟨by rfl, ?_⟩) hHeld ?_
      rotate_left
      · (intro w hSw; (try dsimp only at hSw); go_simp; (try with_reducible rfl))
      try simp only [Act.put, List.setIfInBounds_toArray, List.set_cons_zero, List.set_cons_succ]
      refine wpAnyH_take (i := 3) (oi := ⟨some 103, _, _, _, _, _⟩) (v := ?_) rfl (by kernel_rfl) (by kernel_rfl) (by kernel_rfl) (fun _ _ _ h => h) (Or.inl ⟨by rfl, ?_⟩) hHeld ?_
      rotate_left
      · (intro w hSw; (try dsimp only at hSw); go_simp; (try with_reducible rfl))
      try simp only [Act.put, List.setIfInBounds_toArray, List.set_cons_zero, List.set_cons_succ]
      refine wpAnyH_take (i := 4) (oi := ⟨some 104, _, _, _, _, _⟩) (v := ?_) rfl (by kernel_rfl) (by kernel_rfl) (by kernel_rfl) (fun _ _ _ h => h) (Or.inl ⟨by rfl, ?_⟩) hHeld ?_
      rotate_left
      · (intro w hSw; (try dsimp only at hSw); go_simp; (try with_reducible rfl))
      try simp only [Act.put, List.setIfInBounds_toArray, List.set_cons_zero, List.set_cons_succ]
      refine wpAnyH_take (i := 5) (oi := ⟨some 105, _, _, _, _, _⟩) rfl (by kernel_rfl) (by kernel_rfl) (by kernel_rfl) (fun _ _ _ h => h) (yieldsIf_load_mid (by rfl) _ _ rfl _ _ rfl L _ (fun w hw => hw.1.1) hu rfl hsd) hHeld ?_
      try simp only [Act.put, List.setIfInBounds_toArray, List.set_cons_zero, List.set_cons_succ]
      refine wpAnyH_take (i := 6) (oi := ⟨some 106, _, _, _, _, _⟩) rfl (by kernel_rfl) (by kernel_rfl) (by kernel_rfl) (fun _ _ _ h => h) (yieldsIf_load_mid (by rfl) _ _ rfl _ _ rfl L _ (fun w hw => hw.1.2) hu rfl hsd) hHeld ?_
      try simp only [Act.put, List.setIfInBounds_toArray, List.set_cons_zero, List.set_cons_succ]
      refine wpAnyH_take (i := 7) (oi := ⟨some 107, _, _, _, _, _⟩) (v := ?_) rfl (by kernel_rfl) (by kernel_rfl) (by kernel_rfl) (fun _ _ _ h => h) (Or.inl ⟨by rfl, ?_⟩) hHeld ?_
      rotate_left
      · (intro w hSw; (try dsimp only at hSw); go_simp; (try with_reducible rfl))
      try simp only [Act.put, List.setIfInBounds_toArray, List.set_cons_zero, List.set_cons_succ]
      refine wpAnyH_take (i := 8) (oi := ⟨some 108, _, _, _, _, _⟩) (v := ?_) rfl (by kernel_rfl) (by kernel_rfl) (by kernel_rfl) (fun _ _ _ h => h) (Or.inl ⟨by rfl, ?_⟩) hHeld ?_
      rotate_left
      · (intro w hSw; (try dsimp only at hSw); go_simp; (try with_reducible rfl))
      try simp only [Act.put, List.setIfInBounds_toArray, List.set_cons_zero, List.set_cons_succ]
      refine wpAnyH_take (i := 9) (oi := ⟨some 109, _, _, _, _, _⟩) (v := ?_) rfl (by kernel_rfl) (by kernel_rfl) (by kernel_rfl) (fun _ _ _ h => h) (Or.inl ⟨by rfl, ?_⟩) hHeld ?_
      rotate_left
      · (intro w hSw; (try dsimp only at hSw); go_simp; (try with_reducible rfl))
      try simp only [Act.put, List.setIfInBounds_toArray, List.set_cons_zero, List.set_cons_succ]
      refine wpAnyH_take (i := 10) (oi := ⟨some 110, _, _, _, _, _⟩) rfl (by kernel_rfl) (by kernel_rfl) (by kernel_rfl) (fun _ _ _ h => h) (yieldsIf_load_mid (by rfl) _ _ rfl _ _ rfl L _ (fun w hw => hw.1.1) hu rfl hsd) hHeld ?_
      try simp only [Act.put, List.setIfInBounds_toArray, List.set_cons_zero, List.set_cons_succ]
      refine wpAnyH_take (i := 11) (oi := ⟨some 111, _, _, _, _, _⟩) (v := ?_) rfl (by kernel_rfl) (by kernel_rfl) (by kernel_rfl) (fun _ _ _ h => h) (Or.inl ⟨by rfl, ?_⟩) hHeld ?_
      rotate_left
      · (intro w hSw; (try dsimp only at hSw); go_simp; (try with_reducible rfl))
      try simp only [Act.put, List.setIfInBounds_toArray, List.set_cons_zero, List.set_cons_succ]
      refine wpAnyH_ready (rs := [12]) (by kernel_rfl) (by simp) ?_
      refine AllReadyH.cons (o := ⟨some 112, _, _, _, _, _⟩) rfl (fun K hK => ?_) (AllReadyH.nil)
      · go_simp
        go_at_call 24; refine (CS.out _ (below_kept HK8.out hHeld.2)).mono ?_; rintro e wa ⟨rfl, ka⟩; have hba := below_kept hHeld.2 ka; dsimp only
        go_wp2_with fail
        refine hK.out _ _ ?_ (fun hHeld => ?_)
        · exact Hk8.out _ (by repeat (first | with_reducible assumption | with_reducible refine below_drew0 ?_ | with_reducible exact Below.refl _ _))
        clear hK K
        try simp only [Act.put, List.setIfInBounds_toArray, List.set_cons_zero, List.set_cons_succ]
        refine wpAnyH_take (i := 13) (oi := ⟨some 113, _, _, _, _, _⟩) (v := ?_) rfl (by kernel_rfl) (by kernel_rfl) (by kernel_rfl) (fun _ _ _ h => h) (Or.inl ⟨by rfl, ?_⟩) hHeld ?_
        rotate_left
        · (intro w hSw; (try dsimp only at hSw); go_simp; (try with_reducible rfl))
        try simp only [Act.put, List.setIfInBounds_toArray, List.set_cons_zero, List.set_cons_succ]
        refine wpAnyH_take (i := 14) (oi := ⟨some 114, _, _, _, _, _⟩) (v := ?_) rfl (by kernel_rfl) (by kernel_rfl) (by kernel_rfl) (fun _ _ _ h => h) (Or.inl ⟨by rfl, ?_⟩) hHeld ?_
        rotate_left
        · (intro w hSw; (try dsimp only at hSw); go_simp; (try with_reducible rfl))
        try simp only [Act.put, List.setIfInBounds_toArray, List.set_cons_zero, List.set_cons_succ]
        refine wpAnyH_take (i := 15) (oi := ⟨some 115, _, _, _, _, _⟩) (v := ?_) rfl (by kernel_rfl) (by kernel_rfl) (by kernel_rfl) (fun _ _ _ h => h) (Or.inl ⟨by rfl, ?_⟩) hHeld ?_
        rotate_left
        · (intro w hSw; (try dsimp only at hSw); go_simp; (try with_reducible rfl))
        try simp only [Act.put, List.setIfInBounds_toArray, List.set_cons_zero, List.set_cons_succ]
        refine wpAnyH_take (i := 16) (oi := ⟨some 116, _, _, _, _, _⟩) (v := ?_) rfl (by kernel_rfl) (by kernel_rfl) (by kernel_rfl) (fun _ _ _ h => h) (Or.inl ⟨by rfl, ?_⟩) hHeld ?_
        rotate_left
        · (intro w hSw; (try dsimp only at hSw); go_simp; (try with_reducible rfl))
        try simp only [Act.put, List.setIfInBounds_toArray, List.set_cons_zero, List.set_cons_succ]
        refine wpAnyH_take (i := 18) (oi := ⟨some 118, _, _, _, _, _⟩) (v := ?_) rfl (by kernel_rfl) (by kernel_rfl) (by kernel_rfl) (fun _ _ _ h => h) (Or.inl ⟨by rfl, ?_⟩) hHeld ?_
        rotate_left
        · (intro w hSw; (try dsimp only at hSw); go_simp; (try with_reducible rfl))
        try simp only [Act.put, List.setIfInBounds_toArray, List.set_cons_zero, List.set_cons_succ]
        refine wpAnyH_take (i := 19) (oi := ⟨some 119, _, _, _, _, _⟩) (v := ?_) rfl (by kernel_rfl) (by kernel_rfl) (by kernel_rfl) (fun _ _ _ h => h) (Or.inl ⟨by rfl, ?_⟩) hHeld ?_
        rotate_left
        · (intro w hSw; (try dsimp only at hSw); go_simp; (try with_reducible rfl))
        try simp only [Act.put, List.setIfInBounds_toArray, List.set_cons_zero, List.set_cons_succ]
        refine wpAnyH_ready (rs := [17]) (by kernel_rfl) (by simp) ?_
        refine AllReadyH.cons (o := ⟨some 117, _, _, _, _, _⟩) rfl (fun K hK => ?_) (AllReadyH.nil)
        · go_simp
          go_at_call 22; refine (CL4.out _ (HD8.out.kept hHeld.2)).mono ?_; rintro e wb ⟨rfl, rfl⟩; have hbb := hHeld.2; dsimp only
          go_wp2_with fail
          refine hK.out _ _ ?_ (fun hHeld => ?_)
          · exact Hk8.out _ (by repeat (first | with_reducible assumption | with_reducible refine below_drew0 ?_ | with_reducible exact Below.refl _ _))
          clear hK K
          try simp only [Act.put, List.setIfInBounds_toArray, List.set_cons_zero, List.set_cons_succ]
          refine wpAnyH_take (i := 20) (oi := ⟨some 120, _, _, _, _, _⟩) (v := ?_) rfl (by kernel_rfl) (by kernel_rfl) (by kernel_rfl) (fun _ _ _ h => h) (Or.inl ⟨by rfl, ?_⟩) hHeld ?_
          rotate_left
          · (intro w hSw; (try dsimp only at hSw); go_simp; (try with_reducible rfl))
          try simp only [Act.put, List.setIfInBounds_toArray, List.set_cons_zero, List.set_cons_succ]
          refine wpAnyH_take (i := 21) (oi := ⟨some 121, _, _, _, _, _⟩) (v := ?_) rfl (by kernel_rfl) (by kernel_rfl) (by kernel_rfl) (fun _ _ _ h => h) (Or.inl ⟨by rfl, ?_⟩) hHeld ?_
          rotate_left
          · (intro w hSw; (try dsimp only at hSw); go_simp; (try with_reducible rfl))
          try simp only [Act.put, List.setIfInBounds_toArray, List.set_cons_zero, List.set_cons_succ]
          refine wpAnyH_take (i := 22) (oi := ⟨some 122, _, _, _, _, _⟩) (v := ?_) rfl (by kernel_rfl) (by kernel_rfl) (by kernel_rfl) (fun _ _ _ h => h) (Or.inl ⟨by rfl, ?_⟩) hHeld ?_
          rotate_left
          · (intro w hSw; (try dsimp only at hSw); go_simp; (try with_reducible rfl))
          try simp only [Act.put, List.setIfInBounds_toArray, List.set_cons_zero, List.set_cons_succ]
          refine wpAnyH_ready (rs := [23]) (by kernel_rfl) (by simp) ?_
          refine AllReadyH.cons (o := ⟨some 123, _, _, _, _, _⟩) rfl (fun K hK => ?_) (AllReadyH.nil)
          · go_simp
            go_at_call 14; refine (CA.out _ (below_kept HK8.out hHeld.2)).mono ?_; rintro e wd ⟨rfl, kd⟩; have hbd := below_kept hHeld.2 kd; dsimp only
            go_wp2_with fail
            refine hK.out _ _ ?_ (fun hHeld => ?_)
            · exact Hk8.out _ (by repeat (first | with_reducible assumption | with_reducible refine below_drew0 ?_ | with_reducible exact Below.refl _ _))
            clear hK K
            try simp only [Act.put, List.setIfInBounds_toArray, List.set_cons_zero, List.set_cons_succ]
            refine wpAnyH_take (i := 24) (oi := ⟨some 124, _, _, _, _, _⟩) (v := ?_) rfl (by kernel_rfl) (by kernel_rfl) (by kernel_rfl) (fun _ _ _ h => h) (Or.inl ⟨by rfl, ?_⟩) hHeld ?_
            rotate_left
            · (intro w hSw; (try dsimp only at hSw); go_simp; (try with_reducible rfl))
            try simp only [Act.put, List.setIfInBounds_toArray, List.set_cons_zero, List.set_cons_succ]
            refine wpAnyH_take (i := 25) (oi := ⟨some 6, _, _, _, _, _⟩) (v := ?_) rfl (by kernel_rfl) (by kernel_rfl) (by kernel_rfl) (fun _ _ _ h => h) (Or.inl ⟨by rfl, ?_⟩) hHeld ?_
            rotate_left
            · (intro w hSw; (try dsimp only at hSw); go_simp; (try with_reducible rfl))
            try simp only [Act.put, List.setIfInBounds_toArray, List.set_cons_zero, List.set_cons_succ]
            refine wpAnyH_done (by kernel_rfl) ?_ _
            go_wp2_with fail
            go_ret
            exact ⟨rfl, below_kept HK8.out hHeld.2⟩
end Go.Proofs.YtlgdbhebcglkoaaDoor
