/-
  LabelCompares, of what right gives.
-/
import Derived.Test.YtnnnpnmiepbbeaaDoorLbX
import Derived.Test.YtnnnpnmiepbbeaaDoorLbR
import Derived.Deep.DeepCutAuto
namespace Go.Proofs.YtnnnpnmiepbbeaaDoor
open Go.RowKit Go.Shelf Go.Maps Go.Sort
theorem rd_front {w : World} {B n m : Nat} {A : Option Addr} {xs ys zs : List Value} (h : Rd w B A n xs) (hm : m ≤ n) (hl : ys.length = m) (hp : xs = ys ++ zs) : Rd w B A m ys :=
  ⟨hl, fun h0 => by
    obtain ⟨ad, e, hb, hc⟩ := h.2 (by omega)
    refine ⟨ad, e, hb, fun j u hj => hc j u ?_⟩
    rw [hp, List.getElem?_append_left (List.getElem?_eq_some_iff.1 hj).1]
    exact hj⟩
set_option maxRecDepth 100000 in
set_option maxHeartbeats 20000000 in
theorem compares_of (p q r : List (Nat × Nat)) (a b c : Value) (w : World) (hT : Tab w)
    (C1 : ∀ W, Kept w W → Calls Tryd.prog 18 #[a] W fun e w' => ∃ A c, e = .returned (.tuple #[.slice A (rightL p).length c, .bool true]) ∧ RdL w' w'.heap.size A (rightL p) ∧ Kept W w' ∧ (rightL p).length ≤ c)
    (C2 : ∀ W, Kept w W → Calls Tryd.prog 18 #[b] W fun e w' => ∃ A c, e = .returned (.tuple #[.slice A (rightL q).length c, .bool true]) ∧ RdL w' w'.heap.size A (rightL q) ∧ Kept W w' ∧ (rightL q).length ≤ c)
    (C3 : ∀ W, Kept w W → Calls Tryd.prog 18 #[c] W fun e w' => ∃ A c, e = .returned (.tuple #[.slice A (rightL r).length c, .bool true]) ∧ RdL w' w'.heap.size A (rightL r) ∧ Kept W w' ∧ (rightL r).length ≤ c) :
    Calls Tryd.prog 9 #[a, b, c] w fun e w' => e = .returned (.bool true) ∧ Kept w w' := by
  have CA := Lib.hid (awake_any w hT)
  have H1 := Lib.hid C1
  have H2 := Lib.hid C2
  have H3 := Lib.hid C3
  have l1 := rightL_len p
  have l2 := rightL_len q
  have l3 := rightL_len r
  generalize rightL p = L at *
  generalize rightL q = E at *
  generalize rightL r = F at *
  have CC : Hid (∀ (X Y : List Lab) A A' c c' W, X.length ≤ 16 → Y.length ≤ 16 → RdL W W.heap.size A X → RdL W W.heap.size A' Y → Calls Tryd.prog 27 #[.slice A X.length c, .slice A' Y.length c'] W fun e w' => e = .returned (.int .i64 (cmpL X Y)) ∧ Kept W w') := fun X Y A A' c c' W hX hY h1 h2 => compare_any A A' c c' X Y (by omega) (by omega) W h1 h2
  clear C1 C2 C3 hT
  go_enter Tryd.func9, Tryd.ntmps9
  go_wp2_with fail
  refine CA.out.mono ?_
  rintro e w1 ⟨rfl, hk⟩
  have K1 := Lib.hid hk
  clear hk CA
  go_wp2_with fail
  refine (H1.out _ K1.out).mono ?_
  rintro e w2 ⟨A1, c1, rfl, hr, hk, hcap⟩
  have HCap := Lib.hid hcap
  clear hcap
  have R1 := Lib.hid hr
  have K2 := Lib.hid (below_kept K1.out hk)
  clear hr hk H1 K1
  go_wp2_with fail
  refine (H2.out _ K2.out).mono ?_
  rintro e w3 ⟨A2, c2, rfl, hr, hk, _⟩
  replace R1 := Lib.hid ((R1.out.below hk).more (Below.size hk))
  have R2 := Lib.hid hr
  have K3 := Lib.hid (below_kept K2.out hk)
  clear hr hk H2 K2
  go_wp2_with fail
  refine (H3.out _ K3.out).mono ?_
  rintro e w4 ⟨A3, c3, rfl, hr, hk, _⟩
  replace R1 := Lib.hid ((R1.out.below hk).more (Below.size hk))
  replace R2 := Lib.hid ((R2.out.below hk).more (Below.size hk))
  have R3 := Lib.hid hr
  have K4 := Lib.hid (below_kept K3.out hk)
  clear hr hk H3 K3
  go_wp2_with fail
  refine (CC.out L E A1 A2 c1 c2 _ l1 l2 R1.out R2.out).mono ?_
  rintro e w5 ⟨rfl, hk⟩
  replace R1 := Lib.hid ((R1.out.below hk).more (Below.size hk))
  replace R2 := Lib.hid ((R2.out.below hk).more (Below.size hk))
  replace R3 := Lib.hid ((R3.out.below hk).more (Below.size hk))
  have K5 := Lib.hid (below_kept K4.out hk)
  clear hk K4
  go_wp2_with fail
  refine (CC.out E F A2 A3 c2 c3 _ l2 l3 R2.out R3.out).mono ?_
  rintro e w6 ⟨rfl, hk⟩
  replace R1 := Lib.hid ((R1.out.below hk).more (Below.size hk))
  replace R2 := Lib.hid ((R2.out.below hk).more (Below.size hk))
  replace R3 := Lib.hid ((R3.out.below hk).more (Below.size hk))
  have K6 := Lib.hid (below_kept K5.out hk)
  clear hk K5
  go_wp2_with fail
  refine (CC.out L F A1 A3 c1 c3 _ l1 l3 R1.out R3.out).mono ?_
  rintro e w7 ⟨rfl, hk⟩
  replace R1 := Lib.hid ((R1.out.below hk).more (Below.size hk))
  replace R2 := Lib.hid ((R2.out.below hk).more (Below.size hk))
  have K7 := Lib.hid (below_kept K6.out hk)
  clear hk K6 R3
  have hz : Hid (sameB L E = decide (cmpL L E = 0)) := by
    show _ = _
    unfold sameB
    by_cases h : L = E
    · rw [decide_eq_true h, decide_eq_true ((cmpL_o3.zero L E).2 h)]
    · rw [decide_eq_false h, decide_eq_false fun e => h ((cmpL_o3.zero L E).1 e)]
  have ht : Hid (cmpL E L = - cmpL L E) := cmpL_o3.turn L E
  have hle : cmpL L E ≤ 0 → cmpL E F ≤ 0 → ¬ 0 < cmpL L F := fun h1 h2 => by have := cmpL_o3.le h1 h2; omega
  have hge : 0 ≤ cmpL L E → 0 ≤ cmpL E F → ¬ cmpL L F < 0 := fun h1 h2 => by
    have a1 := cmpL_o3.turn L E
    have a2 := cmpL_o3.turn E F
    have a3 := cmpL_o3.turn L F
    have := cmpL_o3.le (a := F) (b := E) (c := L) (by omega) (by omega)
    omega
  have h3 := cmpL_o3.three L E
  have h4 := cmpL_o3.three E F
  have h5 := cmpL_o3.three L F
  generalize hx : cmpL L E = x at *
  generalize hy : cmpL E F = y at *
  generalize hzz : cmpL L F = z at *
  clear hx hy hzz
  go_upto_region 9 with fail
  have CB := Lib.hid (CC.out E L A2 A1 c2 c1 w7 l2 l1 R2.out R1.out)
  rw [ht.out] at CB
  have CS : Hid (∀ W, Kept w7 W → Calls Tryd.prog 15 #[.slice A1 L.length c1, .slice A2 E.length c2] W fun e w' => e = .returned (.bool (sameB L E)) ∧ Kept W w') := fun W h => same_any A1 A2 c1 c2 L E (by omega) (by omega) W ((R1.out.below h).more (Below.size h)) ((R2.out.below h).more (Below.size h))
  rw [hz.out] at CS
  obtain ⟨nx, hnx⟩ : ∃ n, n = -x := ⟨_, rfl⟩
  obtain ⟨bz, hbz⟩ : ∃ b, b = decide (x = 0) := ⟨_, rfl⟩
  rw [← hnx] at CB
  rw [← hbz] at CS
  clear hz ht
  have HKM := Lib.hid (Below.refl w7.heap.size w7)
  go_cut [98] (fun v98 wx => v98 = .bool false ∧ Hid (Kept w7 wx))
  case first =>
    have Hl1 := Lib.hid l1
    have Hl2 := Lib.hid l2
    generalize L.length = n1 at *
    generalize E.length = n2 at *
    clear l1 l2 l3
    rcases h3 with rfl | rfl | rfl
    · obtain rfl : nx = 1 := by omega
      obtain rfl : bz = false := by rw [hbz]; rfl
      clear hnx hbz
      rcases h4 with rfl | rfl | rfl
      · rcases h5 with rfl | rfl | rfl
        · clear hle hge
          go_wp2_with (first
            | (go_at_call 27; refine CB.out.mono ?_; rintro e w8 ⟨rfl, hk⟩; have K8 := Lib.hid hk; clear hk)
            | (go_at_call 15; refine (CS.out _ K8.out).mono ?_; rintro e w9 ⟨rfl, hk⟩; have K9 := Lib.hid (below_kept K8.out hk); clear hk))
          go_meet
          exact ⟨rfl, K9⟩
        · clear hle hge
          go_wp2_with (first
            | (go_at_call 27; refine CB.out.mono ?_; rintro e w8 ⟨rfl, hk⟩; have K8 := Lib.hid hk; clear hk)
            | (go_at_call 15; refine (CS.out _ K8.out).mono ?_; rintro e w9 ⟨rfl, hk⟩; have K9 := Lib.hid (below_kept K8.out hk); clear hk))
          go_meet
          exact ⟨rfl, K9⟩
        · exact absurd (hle (by omega) (by omega)) (by omega)
      · rcases h5 with rfl | rfl | rfl
        · clear hle hge
          go_wp2_with (first
            | (go_at_call 27; refine CB.out.mono ?_; rintro e w8 ⟨rfl, hk⟩; have K8 := Lib.hid hk; clear hk)
            | (go_at_call 15; refine (CS.out _ K8.out).mono ?_; rintro e w9 ⟨rfl, hk⟩; have K9 := Lib.hid (below_kept K8.out hk); clear hk))
          go_meet
          exact ⟨rfl, K9⟩
        · clear hle hge
          go_wp2_with (first
            | (go_at_call 27; refine CB.out.mono ?_; rintro e w8 ⟨rfl, hk⟩; have K8 := Lib.hid hk; clear hk)
            | (go_at_call 15; refine (CS.out _ K8.out).mono ?_; rintro e w9 ⟨rfl, hk⟩; have K9 := Lib.hid (below_kept K8.out hk); clear hk))
          go_meet
          exact ⟨rfl, K9⟩
        · exact absurd (hle (by omega) (by omega)) (by omega)
      · rcases h5 with rfl | rfl | rfl
        · clear hle hge
          go_wp2_with (first
            | (go_at_call 27; refine CB.out.mono ?_; rintro e w8 ⟨rfl, hk⟩; have K8 := Lib.hid hk; clear hk)
            | (go_at_call 15; refine (CS.out _ K8.out).mono ?_; rintro e w9 ⟨rfl, hk⟩; have K9 := Lib.hid (below_kept K8.out hk); clear hk))
          go_meet
          exact ⟨rfl, K9⟩
        · clear hle hge
          go_wp2_with (first
            | (go_at_call 27; refine CB.out.mono ?_; rintro e w8 ⟨rfl, hk⟩; have K8 := Lib.hid hk; clear hk)
            | (go_at_call 15; refine (CS.out _ K8.out).mono ?_; rintro e w9 ⟨rfl, hk⟩; have K9 := Lib.hid (below_kept K8.out hk); clear hk))
          go_meet
          exact ⟨rfl, K9⟩
        · clear hle hge
          go_wp2_with (first
            | (go_at_call 27; refine CB.out.mono ?_; rintro e w8 ⟨rfl, hk⟩; have K8 := Lib.hid hk; clear hk)
            | (go_at_call 15; refine (CS.out _ K8.out).mono ?_; rintro e w9 ⟨rfl, hk⟩; have K9 := Lib.hid (below_kept K8.out hk); clear hk))
          go_meet
          exact ⟨rfl, K9⟩
    · obtain rfl : nx = 0 := by omega
      obtain rfl : bz = true := by rw [hbz]; rfl
      clear hnx hbz
      rcases h4 with rfl | rfl | rfl
      · rcases h5 with rfl | rfl | rfl
        · clear hle hge
          go_wp2_with (first
            | (go_at_call 27; refine CB.out.mono ?_; rintro e w8 ⟨rfl, hk⟩; have K8 := Lib.hid hk; clear hk)
            | (go_at_call 15; refine (CS.out _ K8.out).mono ?_; rintro e w9 ⟨rfl, hk⟩; have K9 := Lib.hid (below_kept K8.out hk); clear hk))
          go_meet
          exact ⟨rfl, K9⟩
        · clear hle hge
          go_wp2_with (first
            | (go_at_call 27; refine CB.out.mono ?_; rintro e w8 ⟨rfl, hk⟩; have K8 := Lib.hid hk; clear hk)
            | (go_at_call 15; refine (CS.out _ K8.out).mono ?_; rintro e w9 ⟨rfl, hk⟩; have K9 := Lib.hid (below_kept K8.out hk); clear hk))
          go_meet
          exact ⟨rfl, K9⟩
        · exact absurd (hle (by omega) (by omega)) (by omega)
      · rcases h5 with rfl | rfl | rfl
        · exact absurd (hge (by omega) (by omega)) (by omega)
        · clear hle hge
          go_wp2_with (first
            | (go_at_call 27; refine CB.out.mono ?_; rintro e w8 ⟨rfl, hk⟩; have K8 := Lib.hid hk; clear hk)
            | (go_at_call 15; refine (CS.out _ K8.out).mono ?_; rintro e w9 ⟨rfl, hk⟩; have K9 := Lib.hid (below_kept K8.out hk); clear hk))
          go_meet
          exact ⟨rfl, K9⟩
        · exact absurd (hle (by omega) (by omega)) (by omega)
      · rcases h5 with rfl | rfl | rfl
        · exact absurd (hge (by omega) (by omega)) (by omega)
        · clear hle hge
          go_wp2_with (first
            | (go_at_call 27; refine CB.out.mono ?_; rintro e w8 ⟨rfl, hk⟩; have K8 := Lib.hid hk; clear hk)
            | (go_at_call 15; refine (CS.out _ K8.out).mono ?_; rintro e w9 ⟨rfl, hk⟩; have K9 := Lib.hid (below_kept K8.out hk); clear hk))
          go_meet
          exact ⟨rfl, K9⟩
        · clear hle hge
          go_wp2_with (first
            | (go_at_call 27; refine CB.out.mono ?_; rintro e w8 ⟨rfl, hk⟩; have K8 := Lib.hid hk; clear hk)
            | (go_at_call 15; refine (CS.out _ K8.out).mono ?_; rintro e w9 ⟨rfl, hk⟩; have K9 := Lib.hid (below_kept K8.out hk); clear hk))
          go_meet
          exact ⟨rfl, K9⟩
    · obtain rfl : nx = (-1) := by omega
      obtain rfl : bz = false := by rw [hbz]; rfl
      clear hnx hbz
      rcases h4 with rfl | rfl | rfl
      · rcases h5 with rfl | rfl | rfl
        · clear hle hge
          go_wp2_with (first
            | (go_at_call 27; refine CB.out.mono ?_; rintro e w8 ⟨rfl, hk⟩; have K8 := Lib.hid hk; clear hk)
            | (go_at_call 15; refine (CS.out _ K8.out).mono ?_; rintro e w9 ⟨rfl, hk⟩; have K9 := Lib.hid (below_kept K8.out hk); clear hk))
          go_meet
          exact ⟨rfl, K9⟩
        · clear hle hge
          go_wp2_with (first
            | (go_at_call 27; refine CB.out.mono ?_; rintro e w8 ⟨rfl, hk⟩; have K8 := Lib.hid hk; clear hk)
            | (go_at_call 15; refine (CS.out _ K8.out).mono ?_; rintro e w9 ⟨rfl, hk⟩; have K9 := Lib.hid (below_kept K8.out hk); clear hk))
          go_meet
          exact ⟨rfl, K9⟩
        · clear hle hge
          go_wp2_with (first
            | (go_at_call 27; refine CB.out.mono ?_; rintro e w8 ⟨rfl, hk⟩; have K8 := Lib.hid hk; clear hk)
            | (go_at_call 15; refine (CS.out _ K8.out).mono ?_; rintro e w9 ⟨rfl, hk⟩; have K9 := Lib.hid (below_kept K8.out hk); clear hk))
          go_meet
          exact ⟨rfl, K9⟩
      · rcases h5 with rfl | rfl | rfl
        · exact absurd (hge (by omega) (by omega)) (by omega)
        · clear hle hge
          go_wp2_with (first
            | (go_at_call 27; refine CB.out.mono ?_; rintro e w8 ⟨rfl, hk⟩; have K8 := Lib.hid hk; clear hk)
            | (go_at_call 15; refine (CS.out _ K8.out).mono ?_; rintro e w9 ⟨rfl, hk⟩; have K9 := Lib.hid (below_kept K8.out hk); clear hk))
          go_meet
          exact ⟨rfl, K9⟩
        · clear hle hge
          go_wp2_with (first
            | (go_at_call 27; refine CB.out.mono ?_; rintro e w8 ⟨rfl, hk⟩; have K8 := Lib.hid hk; clear hk)
            | (go_at_call 15; refine (CS.out _ K8.out).mono ?_; rintro e w9 ⟨rfl, hk⟩; have K9 := Lib.hid (below_kept K8.out hk); clear hk))
          go_meet
          exact ⟨rfl, K9⟩
      · rcases h5 with rfl | rfl | rfl
        · exact absurd (hge (by omega) (by omega)) (by omega)
        · clear hle hge
          go_wp2_with (first
            | (go_at_call 27; refine CB.out.mono ?_; rintro e w8 ⟨rfl, hk⟩; have K8 := Lib.hid hk; clear hk)
            | (go_at_call 15; refine (CS.out _ K8.out).mono ?_; rintro e w9 ⟨rfl, hk⟩; have K9 := Lib.hid (below_kept K8.out hk); clear hk))
          go_meet
          exact ⟨rfl, K9⟩
        · clear hle hge
          go_wp2_with (first
            | (go_at_call 27; refine CB.out.mono ?_; rintro e w8 ⟨rfl, hk⟩; have K8 := Lib.hid hk; clear hk)
            | (go_at_call 15; refine (CS.out _ K8.out).mono ?_; rintro e w9 ⟨rfl, hk⟩; have K9 := Lib.hid (below_kept K8.out hk); clear hk))
          go_meet
          exact ⟨rfl, K9⟩
  case rest =>
    obtain ⟨rfl, hkc⟩ := hcut
    clear CB CS hnx hbz h3 h4 h5 hle hge HKM
    have R9 := Lib.hid ((R1.out.below hkc.out).more (Below.size hkc.out))
    have K9 := Lib.hid (below_kept K7.out hkc.out)
    obtain ⟨w9, rfl⟩ : ∃ x, x = wc := ⟨_, rfl⟩
    clear R1 R2 K7 hkc
    obtain ⟨n, hn⟩ : ∃ n, n = L.length := ⟨_, rfl⟩
    have Hn := Lib.hid hn
    have CP : Hid (∀ k W, k < n → Kept w9 W → Calls Tryd.prog 27 #[.slice A1 k c1, .slice A1 n c1] W fun e w' => e = .returned (.int .i64 (-1)) ∧ Kept W w') := fun k W hk h => by
      have hr := (R9.out.below h).more (Below.size h)
      have hlt : (L.take k).length = k := by rw [List.length_take]; omega
      have hrk : RdL W W.heap.size A1 (L.take k) := by
        refine rd_front hr (m := (L.take k).length * 2) (by rw [hlt]; omega) (by rw [labs_length]) (zs := labs (L.drop k)) ?_
        rw [← labs_app, List.take_append_drop]
      have := CC.out (L.take k) L A1 A1 c1 c1 W (by omega) l1 hrk hr
      rw [hlt, ← hn, cmpL_part L k (by omega)] at this
      exact this
    have CQ : Hid (∀ W, Kept w9 W → Calls Tryd.prog 27 #[.slice A1 n c1, .slice A1 n c1] W fun e w' => e = .returned (.int .i64 0) ∧ Kept W w') := fun W h => by
      have hr := (R9.out.below h).more (Below.size h)
      have := CC.out L L A1 A1 c1 c1 W l1 l1 hr hr
      rw [← hn, (cmpL_zero L L).2 rfl] at this
      exact this
    have hcap : (n : Int) ≤ c1 := by have := HCap.out; omega
    have hn16 : n ≤ 16 := by omega
    rw [← hn]
    clear CC l1 l2 l3 hn HCap R9
    go_wp2_with fail
    go_loopw [101] (fun v101 wr => ∃ k : Nat, k ≤ n ∧ v101 = .int .i64 k ∧ Hid (Kept w9 wr)) (fun v101 _ => n - (intOf v101).toNat)
    case atStart => exact ⟨0, by omega, rfl, Below.refl _ _⟩
    case round =>
      obtain ⟨k, hk, rfl, hkr⟩ := hrel
      by_cases hkn : k < n
      · have hkc2 : (k : Int) ≤ c1 := by omega
        go_wp2_with (go_at_call 27; refine (CP.out _ _ hkn hkr.out).mono ?_; rintro e w8 ⟨rfl, hk8⟩; have K8 := Lib.hid (below_kept hkr.out hk8); clear hk8)
        go_roundw
        case rel => exact ⟨k + 1, by omega, by go_num, K8⟩
        case measure => simp [intOf]; omega
      · have hge : ¬ (k : Int) < n := by omega
        go_wp2_with (go_at_call 27; refine (CQ.out _ hkr.out).mono ?_; rintro e w8 ⟨rfl, hk8⟩; have K8 := Lib.hid (below_kept hkr.out hk8); clear hk8)
        go_ret
        exact ⟨rfl, below_kept K9.out K8.out⟩
end Go.Proofs.YtnnnpnmiepbbeaaDoor
