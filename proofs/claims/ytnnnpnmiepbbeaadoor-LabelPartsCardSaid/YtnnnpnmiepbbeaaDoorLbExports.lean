/-
  LabelExports, of what right gives.
-/
import Derived.Test.YtnnnpnmiepbbeaaDoorLbEx
import Derived.Test.YtnnnpnmiepbbeaaDoorLbMerges
import Derived.Test.YtnnnpnmiepbbeaaDoorTurn
namespace Go.Proofs.YtnnnpnmiepbbeaaDoor
open Go.RowKit Go.Shelf Go.Maps Go.Sort
section
variable {T E : List Lab} (hT : RN T) (hE : RN E) {A : Option Addr} {c n : Nat} (hn : n = (expR T E).length) {w : World} (hr : RdL w w.heap.size A (expR T E))
include hT hE hn hr
theorem get_ex (s : ByteArray) (W : World) (h : Kept w W) : Calls Tryd.prog 17 #[.slice A n c, .string s] W fun e w' => e = .returned (.string (getL s (expR T E))) ∧ Kept W w' := by
  rw [hn]
  have := (expR_right hT hE).2
  exact get_any A c _ (by omega) (right_vals (expR_right hT hE).1) s W ((hr.below h).more (Below.size h))
theorem right_ex (hTb : Tab w) (W : World) (h : Kept w W) : Calls Tryd.prog 14 #[.slice A n c] W fun e w' => e = .returned (.bool true) ∧ Kept W w' := by
  rw [hn]
  have := (expR_right hT hE).2
  have h2 := right_any A c _ (by omega) W ((hr.below h).more (Below.size h)) (hTb.below h)
  rw [(expR_right hT hE).1] at h2
  exact h2
end
theorem filter_take {p : Lab → Bool} {L : List Lab} {j : Nat} {x : Lab} (h : L[j]? = some x) : ((L.take (j + 1)).filter p).length = if p x = true then ((L.take j).filter p).length + 1 else ((L.take j).filter p).length := by
  rw [List.take_add_one, h, List.filter_append, List.length_append]
  show _ + (List.filter p [x]).length = _
  by_cases e : p x = true
  · rw [if_pos e, List.filter_cons_of_pos e]; rfl
  · rw [if_neg e, List.filter_cons_of_neg e]; rfl
theorem filter_take_le (p : Lab → Bool) (L : List Lab) (j : Nat) : ((L.take j).filter p).length ≤ L.length := Nat.le_trans (List.length_filter_le _ _) (List.length_take_le' _ _)
set_option maxRecDepth 100000 in
set_option maxHeartbeats 20000000 in
theorem exports_of (p q : List (Nat × Nat)) (a b : Value) (w : World) (hT : Tab w) (C1 : RightIs p a w) (C2 : RightIs q b w) :
    Calls Tryd.prog 7 #[a, b] w fun e w' => e = .returned (.bool true) ∧ Kept w w' := by
  have CA := Lib.hid (awake_any w hT)
  have HT := Lib.hid hT
  have H1 : Hid (RightIs p a w) := C1
  have H2 : Hid (RightIs q b w) := C2
  unfold RightIs at H1 H2
  have n1 := Lib.hid (rightL_RN p)
  have n2 := Lib.hid (rightL_RN q)
  generalize rightL p = L at *
  generalize rightL q = E at *
  have l1 := n1.out.len
  have l2 := n2.out.len
  obtain ⟨nL, hnL⟩ : ∃ n, n = L.length := ⟨_, rfl⟩
  obtain ⟨nE, hnE⟩ : ∃ n, n = E.length := ⟨_, rfl⟩
  obtain ⟨nM, hnM⟩ : ∃ n, n = (expR L E).length := ⟨_, rfl⟩
  have CM : Hid (∀ A A' c c' W, Kept w W → RdL W W.heap.size A L → RdL W W.heap.size A' E → Calls Tryd.prog 22 #[.slice A nL c, .slice A' nE c'] W fun e w' => ∃ A c, e = .returned (.tuple #[.slice A nM c, .int .i64 0]) ∧ RdL w' w'.heap.size A (expR L E) ∧ Kept W w') := fun A A' c c' W hk h1 h2 => by
    rw [hnL, hnE, hnM]
    exact export_good A A' c c' L E (expR L E) W (by omega) (by omega) h1 h2 (HT.out.below hk) (merge_none n1.out n2.out) (exp_is n1.out n2.out) (expR_right n1.out n2.out).2
  have HC : Hid (nL + (E.filter (expK L E)).length = nM) := by
    show _ = _
    rw [hnL, hnM]
    exact exp_count n1.out n2.out
  have HnL := Lib.hid hnL
  have HnE := Lib.hid hnE
  have HnM := Lib.hid hnM
  rw [← hnL] at H1 l1
  rw [← hnE] at H2 l2
  clear C1 C2 hT hnL hnE hnM
  go_enter Tryd.func7, Tryd.ntmps7
  go_wp2_with fail
  refine CA.out.mono ?_
  rintro e w1 ⟨rfl, hk⟩
  have K1 := Lib.hid hk
  clear hk CA
  go_wp2_with fail
  refine (H1.out _ K1.out).mono ?_
  rintro e w2 ⟨A1, c1, rfl, hr, hk, _⟩
  have R1 := Lib.hid hr
  have K2 := Lib.hid (below_kept K1.out hk)
  clear hr hk H1 K1
  go_wp2_with fail
  refine (H2.out _ K2.out).mono ?_
  rintro e w3 ⟨A2, c2, rfl, hr, hk, _⟩
  replace R1 := Lib.hid ((R1.out.below hk).more (Below.size hk))
  have R2 := Lib.hid hr
  have K3 := Lib.hid (below_kept K2.out hk)
  clear hr hk H2 K2
  go_wp2_with fail
  refine (CM.out _ _ _ _ _ K3.out R1.out R2.out).mono ?_
  rintro e w4 ⟨A3, c3, rfl, hr, hk⟩
  replace R1 := Lib.hid ((R1.out.below hk).more (Below.size hk))
  replace R2 := Lib.hid ((R2.out.below hk).more (Below.size hk))
  have R3 := Lib.hid hr
  have K4 := Lib.hid (below_kept K3.out hk)
  clear hr hk CM K3
  have CR := Lib.hid (right_ex n1.out n2.out (c := c3) HnM.out R3.out (HT.out.below K4.out))
  have G1 := Lib.hid (get_rn n1.out (c := c1) HnL.out R1.out)
  have G2 := Lib.hid (get_rn n2.out (c := c2) HnE.out R2.out)
  have G3 := Lib.hid (get_ex n1.out n2.out (c := c3) HnM.out R3.out)
  have HX1 : Hid (∀ x ∈ L, getL x.1 (expR L E) = x.2) := fun x hx => get_exp_target n1.out n2.out hx
  have HX2 : Hid (∀ x ∈ E, expK L E x = true → getL (expNm L x) (expR L E) = x.2) := fun x hx => exp_keeps n1.out n2.out hx
  have Kr := Lib.hid (Below.refl w4.heap.size w4)
  clear HT R3
  go_wp2_with (first
    | (go_at_call 14; refine (CR.out _ Kr.out).mono ?_; rintro e w5 ⟨rfl, hk⟩; have K5 := Lib.hid hk; clear hk))
  go_loopw [54] (fun v54 wr => ∃ j : Nat, j ≤ nL ∧ v54 = .int .i64 j ∧ Hid (Kept w4 wr)) (fun v54 _ => nL - (intOf v54).toNat)
  case atStart => exact ⟨0, by omega, rfl, K5⟩
  case round =>
    obtain ⟨j, hj, rfl, hkr⟩ := hrel
    by_cases hin : j < nL
    · obtain ⟨ad, x, rfl, hadb, hx, _, hc0, hc1⟩ := rdl_at R1.out (by rw [← HnL.out]; exact hin)
      have e0 := (Below.cell hkr.out (by rw [addBlock]; exact hadb)).trans hc0
      have e1 := (Below.cell hkr.out (by rw [addBlock]; exact hadb)).trans hc1
      have Hcl := Lib.hid (lab_cells e0 e1)
      have hxv := HX1.out x (List.mem_of_getElem? hx)
      have hinI : (j : Int) < nL := by omega
      have B3 := Lib.hid (G3.out x.1)
      rw [hxv] at B3
      clear hx hc0 hc1 e0 e1 hxv
      go_upto_region 12 with (refine wpList_load_at rfl 36 (.tmp 56) rfl (ad.add (j * 2)) rfl #[.string x.1, .string x.2] _ Hcl.out Tryd.underlying36 rfl sizeL ?_)
      obtain ⟨xa, xb⟩ := x
      obtain ⟨wb, hwb⟩ : ∃ y, y = wr.alloc (.cells #[.string xa, .string xb] 36) := ⟨_, rfl⟩
      have hb0 : wb.heap[wr.heap.size]? = some (.cells #[.string xa, .string xb] 36) := by rw [hwb]; exact heap_alloc_new _ _
      have Kb : Hid (Kept w4 wb) := by rw [hwb]; exact below_alloc0 hkr.out _
      rw [← hwb]
      have hg := heap_lt hb0
      have q0 : wb.cell? ⟨wr.heap.size, 0, none⟩ = some (.string xa) := cell_of_row _ _ _ _ _ _ hb0
      have q1 : wb.cell? ⟨wr.heap.size, 1, none⟩ = some (.string xb) := cell_of_row _ _ _ _ _ _ hb0
      dsimp only at B3
      generalize wr.heap.size = gx at *
      clear hwb hb0
      have Hk : Hid (∀ W', Below wb.heap.size wb W' → (W'.cell? ⟨gx, 0, none⟩ = some (.string xa) ∧ W'.cell? ⟨gx, 1, none⟩ = some (.string xb)) ∧ Below wb.heap.size wb W') := fun W' h => ⟨⟨(Below.cell h hg).trans q0, (Below.cell h hg).trans q1⟩, h⟩
      have hb00 : Below wb.heap.size wb wb.drew := (Below.refl wb.heap.size wb).drew
      clear q0 q1
      go_region_held3 (fun W' => (W'.cell? ⟨gx, 0, none⟩ = some (.string xa) ∧ W'.cell? ⟨gx, 1, none⟩ = some (.string xb)) ∧ Below wb.heap.size wb W')
        ((refine Hk.out _ ?_; assumption))
        (first
          | (go_at_call 17; refine (B3.out _ (below_kept Kb.out hb00)).mono ?_; rintro e w7 ⟨rfl, hk7⟩; have k7 : Below wb.heap.size wb w7 := below_kept hb00 hk7; dsimp only))
      rename_i hS
      clear hS Hk hb00 hk7
      go_wp2_with fail
      go_roundw
      case rel => exact ⟨j + 1, by omega, by go_num, below_kept Kb.out k7⟩
      case measure => simp [intOf]; omega
    · obtain rfl : nL = j := by omega
      have Kr2 := hkr
      have hlim : ∀ j, ((E.take j).filter (expK L E)).length ≤ nE := fun j => by rw [HnE.out]; exact filter_take_le _ _ _
      clear hkr hin hj HX1 K5 CR
      go_wp2_with fail
      go_loopw [11, 68] (fun v11 v68 wr => ∃ j : Nat, j ≤ nE ∧ v11 = .int .i64 ((nL + ((E.take j).filter (expK L E)).length : Nat) : Int) ∧ v68 = .int .i64 j ∧ Hid (Kept w4 wr)) (fun _ v68 _ => nE - (intOf v68).toNat)
      case atStart => exact ⟨0, by omega, rfl, rfl, Kr2⟩
      case round =>
        obtain ⟨j, hj, rfl, rfl, hkr⟩ := hrel
        clear Kr2
        by_cases hin : j < nE
        · obtain ⟨ad, x, rfl, hadb, hx, _, hc0, hc1⟩ := rdl_at R2.out (by rw [← HnE.out]; exact hin)
          have e0 := (Below.cell hkr.out (by rw [addBlock]; exact hadb)).trans hc0
          have e1 := (Below.cell hkr.out (by rw [addBlock]; exact hadb)).trans hc1
          have Hcl := Lib.hid (lab_cells e0 e1)
          have hxm := List.mem_of_getElem? hx
          have hxs := small_of (n2.out.ok x hxm)
          have hinI : (j : Int) < nE := by omega
          have hcn := filter_take (p := expK L E) hx
          have hl0 := hlim j
          have hl1 := hlim (j + 1)
          have hval := HX2.out x hxm
          have B1 := Lib.hid (G1.out x.1)
          have B1' := Lib.hid (G1.out (expN x.1))
          have B2 := Lib.hid (G2.out (expN x.1))
          have B3 := Lib.hid (G3.out (expNm L x))
          have hKx : expK L E x = true ↔ getL x.1 L = ⟨#[]⟩ ∨ (getL (expN x.1) L = ⟨#[]⟩ ∧ getL (expN x.1) E = ⟨#[]⟩) := by
            unfold expK
            rw [Bool.or_eq_true, decide_eq_true_eq, expQ_iff]
            by_cases h : getL x.1 L = ⟨#[]⟩ <;> simp [h]
          have hNx : expNm L x = if getL x.1 L = ⟨#[]⟩ then x.1 else expN x.1 := rfl
          obtain ⟨xa, xb⟩ := x
          have hadd : ¬ 9223372036854775807 < (⟨#[101, 120, 112, 111, 114, 116, 101, 100, 95]⟩ : ByteArray).size + xa.size := by
            have := hxs.1
            dsimp only at this
            show ¬ _ < 9 + xa.size
            omega
          have heN : (⟨#[101, 120, 112, 111, 114, 116, 101, 100, 95]⟩ : ByteArray) ++ xa = expN xa := rfl
          obtain ⟨v0, hv0⟩ : ∃ y, y = wr.alloc (.cells #[.string xa, .string xb] 36) := ⟨_, rfl⟩
          have hb0 : v0.heap[wr.heap.size]? = some (.cells #[.string xa, .string xb] 36) := by rw [hv0]; exact heap_alloc_new _ _
          have Kv0 : Hid (Kept w4 v0) := by rw [hv0]; exact below_alloc0 hkr.out _
          have hg0 := heap_lt hb0
          have q0_0 : v0.cell? ⟨wr.heap.size, 0, none⟩ = some (.string xa) := cell_of_row _ _ _ _ _ _ hb0
          have q1_0 : v0.cell? ⟨wr.heap.size, 1, none⟩ = some (.string xb) := cell_of_row _ _ _ _ _ _ hb0
          dsimp only at B1 B1' B2 hval hKx hNx
          generalize ((List.take j E).filter (expK L E)).length = m0 at *
          generalize expK L E (xa, xb) = bk at *
          generalize expNm L (xa, xb) = xm at *
          generalize getL xa L = z1 at *
          generalize getL (expN xa) L = z2 at *
          generalize getL (expN xa) E = z3 at *
          generalize getL xm (expR L E) = z4 at *
          generalize expN xa = xn at *
          clear hx hc0 hc1 e0 e1 hxm hxs hb0 hlim
          go_upto_region 18 with (refine wpList_load_at rfl 36 (.tmp 70) rfl (ad.add (j * 2)) rfl #[.string (xa, xb).1, .string (xa, xb).2] _ Hcl.out Tryd.underlying36 rfl sizeL ?_)
          rw [← hv0]
          generalize wr.heap.size = gx at *
          clear hv0 Hcl
          by_cases h1 : z1 = ⟨#[]⟩
          · rw [if_pos h1] at hNx
            have hbk : bk = true := hKx.2 (.inl h1)
            subst hbk
            have hzv := hval rfl
            rw [hNx, hzv] at B3
            clear hNx hzv
            rw [if_pos rfl] at hcn; have Hcn := Lib.hid hcn; clear hcn
            have hbz := empty_yes h1
            clear h1 hKx hval B1' B2 heN hadd
            go_upto_region 22 with (first
              | (go_at_call 17; refine (B1.out _ Kv0.out).mono ?_; rintro e v1 ⟨rfl, hk1⟩; have q0_1 : v1.cell? ⟨gx, 0, none⟩ = some (.string xa) := (Below.cell hk1 hg0).trans q0_0; have q1_1 : v1.cell? ⟨gx, 1, none⟩ = some (.string xb) := (Below.cell hk1 hg0).trans q1_0; have hg1 := Nat.lt_of_lt_of_le hg0 (Below.size hk1); have Kv1 := Lib.hid (below_kept Kv0.out hk1); clear hk1))
            have Hk : Hid (∀ W', Below v1.heap.size v1 W' → (W'.cell? ⟨gx, 0, none⟩ = some (.string xa) ∧ W'.cell? ⟨gx, 1, none⟩ = some (.string xb)) ∧ Below v1.heap.size v1 W') := fun W' h => ⟨⟨(Below.cell h hg1).trans q0_1, (Below.cell h hg1).trans q1_1⟩, h⟩
            have hb00 : Below v1.heap.size v1 v1.drew := (Below.refl v1.heap.size v1).drew
            clear q0_1 q1_1
            go_region_held3 (fun W' => (W'.cell? ⟨gx, 0, none⟩ = some (.string xa) ∧ W'.cell? ⟨gx, 1, none⟩ = some (.string xb)) ∧ Below v1.heap.size v1 W')
              ((refine Hk.out _ ?_; assumption))
              (first
                | (go_at_call 17; refine (B3.out _ (below_kept Kv1.out hb00)).mono ?_; rintro e w9 ⟨rfl, hk9⟩; have k9 : Below v1.heap.size v1 w9 := below_kept hb00 hk9; dsimp only))
            rename_i hS
            clear hS Hk hb00 hk9
            go_wp2_with fail
            go_roundw
            case rel => exact ⟨j + 1, by omega, by rw [Hcn.out]; go_num, by go_num, below_kept Kv1.out k9⟩
            case measure => simp [intOf]; omega
          · rw [if_neg h1] at hNx
            rw [hNx] at B3
            clear hNx
            have hbz := empty_no h1
            by_cases h2 : z2 = ⟨#[]⟩
            · have hbz2 := empty_yes h2
              by_cases h3 : z3 = ⟨#[]⟩
              · have hbz3 := empty_yes h3
                have hbk : bk = true := hKx.2 (.inr ⟨h2, h3⟩)
                subst hbk
                have hzv := hval rfl
                rw [hzv] at B3
                clear hzv
                rw [if_pos rfl] at hcn; have Hcn := Lib.hid hcn; clear hcn
                clear h1 h2 h3 hKx hval
                go_upto_region 22 with (first
                  | (go_at_call 17; refine (B2.out _ Kv2.out).mono ?_; rintro e v3 ⟨rfl, hk3⟩; have q0_3 : v3.cell? ⟨gx, 0, none⟩ = some (.string xa) := (Below.cell hk3 hg2).trans q0_2; have q1_3 : v3.cell? ⟨gx, 1, none⟩ = some (.string xb) := (Below.cell hk3 hg2).trans q1_2; have hg3 := Nat.lt_of_lt_of_le hg2 (Below.size hk3); have Kv3 := Lib.hid (below_kept Kv2.out hk3); clear hk3)
                  | (go_at_call 17; refine (B1'.out _ Kv1.out).mono ?_; rintro e v2 ⟨rfl, hk2⟩; have q0_2 : v2.cell? ⟨gx, 0, none⟩ = some (.string xa) := (Below.cell hk2 hg1).trans q0_1; have q1_2 : v2.cell? ⟨gx, 1, none⟩ = some (.string xb) := (Below.cell hk2 hg1).trans q1_1; have hg2 := Nat.lt_of_lt_of_le hg1 (Below.size hk2); have Kv2 := Lib.hid (below_kept Kv1.out hk2); clear hk2)
                  | (go_at_call 17; refine (B1.out _ Kv0.out).mono ?_; rintro e v1 ⟨rfl, hk1⟩; have q0_1 : v1.cell? ⟨gx, 0, none⟩ = some (.string xa) := (Below.cell hk1 hg0).trans q0_0; have q1_1 : v1.cell? ⟨gx, 1, none⟩ = some (.string xb) := (Below.cell hk1 hg0).trans q1_0; have hg1 := Nat.lt_of_lt_of_le hg0 (Below.size hk1); have Kv1 := Lib.hid (below_kept Kv0.out hk1); clear hk1))
                have Hk : Hid (∀ W', Below v3.heap.size v3 W' → (W'.cell? ⟨gx, 0, none⟩ = some (.string xa) ∧ W'.cell? ⟨gx, 1, none⟩ = some (.string xb)) ∧ Below v3.heap.size v3 W') := fun W' h => ⟨⟨(Below.cell h hg3).trans q0_3, (Below.cell h hg3).trans q1_3⟩, h⟩
                have hb00 : Below v3.heap.size v3 v3.drew := (Below.refl v3.heap.size v3).drew
                clear q0_3 q1_3
                go_region_held3 (fun W' => (W'.cell? ⟨gx, 0, none⟩ = some (.string xa) ∧ W'.cell? ⟨gx, 1, none⟩ = some (.string xb)) ∧ Below v3.heap.size v3 W')
                  ((refine Hk.out _ ?_; assumption))
                  (first
                    | (go_at_call 17; refine (B3.out _ (below_kept Kv3.out hb00)).mono ?_; rintro e w9 ⟨rfl, hk9⟩; have k9 : Below v3.heap.size v3 w9 := below_kept hb00 hk9; dsimp only))
                rename_i hS
                clear hS Hk hb00 hk9
                go_wp2_with fail
                go_roundw
                case rel => exact ⟨j + 1, by omega, by rw [Hcn.out]; go_num, by go_num, below_kept Kv3.out k9⟩
                case measure => simp [intOf]; omega
              · have hbz3 := empty_no h3
                have hbk : bk = false := by
                  cases hb : bk
                  · rfl
                  · rcases hKx.1 hb with h | ⟨_, h⟩
                    · exact absurd h h1
                    · exact absurd h h3
                subst hbk
                rw [if_neg (by decide)] at hcn; have Hcn := Lib.hid hcn; clear hcn
                clear h1 h2 h3 hKx hval
                go_wp2_with (first
                  | (go_at_call 17; refine (B2.out _ Kv2.out).mono ?_; rintro e v3 ⟨rfl, hk3⟩; have q0_3 : v3.cell? ⟨gx, 0, none⟩ = some (.string xa) := (Below.cell hk3 hg2).trans q0_2; have q1_3 : v3.cell? ⟨gx, 1, none⟩ = some (.string xb) := (Below.cell hk3 hg2).trans q1_2; have hg3 := Nat.lt_of_lt_of_le hg2 (Below.size hk3); have Kv3 := Lib.hid (below_kept Kv2.out hk3); clear hk3)
                  | (go_at_call 17; refine (B1'.out _ Kv1.out).mono ?_; rintro e v2 ⟨rfl, hk2⟩; have q0_2 : v2.cell? ⟨gx, 0, none⟩ = some (.string xa) := (Below.cell hk2 hg1).trans q0_1; have q1_2 : v2.cell? ⟨gx, 1, none⟩ = some (.string xb) := (Below.cell hk2 hg1).trans q1_1; have hg2 := Nat.lt_of_lt_of_le hg1 (Below.size hk2); have Kv2 := Lib.hid (below_kept Kv1.out hk2); clear hk2)
                  | (go_at_call 17; refine (B1.out _ Kv0.out).mono ?_; rintro e v1 ⟨rfl, hk1⟩; have q0_1 : v1.cell? ⟨gx, 0, none⟩ = some (.string xa) := (Below.cell hk1 hg0).trans q0_0; have q1_1 : v1.cell? ⟨gx, 1, none⟩ = some (.string xb) := (Below.cell hk1 hg0).trans q1_0; have hg1 := Nat.lt_of_lt_of_le hg0 (Below.size hk1); have Kv1 := Lib.hid (below_kept Kv0.out hk1); clear hk1))
                go_roundw
                case rel => exact ⟨j + 1, by omega, by rw [Hcn.out]; go_num, by go_num, Kv3⟩
                case measure => simp [intOf]; omega
            · have hbz2 := empty_no h2
              have hbk : bk = false := by
                cases hb : bk
                · rfl
                · rcases hKx.1 hb with h | ⟨h, _⟩
                  · exact absurd h h1
                  · exact absurd h h2
              subst hbk
              rw [if_neg (by decide)] at hcn; have Hcn := Lib.hid hcn; clear hcn
              clear h1 h2 hKx hval
              go_wp2_with (first
                | (go_at_call 17; refine (B1'.out _ Kv1.out).mono ?_; rintro e v2 ⟨rfl, hk2⟩; have q0_2 : v2.cell? ⟨gx, 0, none⟩ = some (.string xa) := (Below.cell hk2 hg1).trans q0_1; have q1_2 : v2.cell? ⟨gx, 1, none⟩ = some (.string xb) := (Below.cell hk2 hg1).trans q1_1; have hg2 := Nat.lt_of_lt_of_le hg1 (Below.size hk2); have Kv2 := Lib.hid (below_kept Kv1.out hk2); clear hk2)
                | (go_at_call 17; refine (B1.out _ Kv0.out).mono ?_; rintro e v1 ⟨rfl, hk1⟩; have q0_1 : v1.cell? ⟨gx, 0, none⟩ = some (.string xa) := (Below.cell hk1 hg0).trans q0_0; have q1_1 : v1.cell? ⟨gx, 1, none⟩ = some (.string xb) := (Below.cell hk1 hg0).trans q1_0; have hg1 := Nat.lt_of_lt_of_le hg0 (Below.size hk1); have Kv1 := Lib.hid (below_kept Kv0.out hk1); clear hk1))
              go_roundw
              case rel => exact ⟨j + 1, by omega, by rw [Hcn.out]; go_num, by go_num, Kv2⟩
              case measure => simp [intOf]; omega
        · obtain rfl : nE = j := by omega
          rw [List.take_of_length_le (by rw [HnE.out]; exact Nat.le_refl _), HC.out]
          go_wp2_with fail
          go_ret
          exact ⟨rfl, below_kept K4.out hkr.out⟩
end Go.Proofs.YtnnnpnmiepbbeaaDoor
