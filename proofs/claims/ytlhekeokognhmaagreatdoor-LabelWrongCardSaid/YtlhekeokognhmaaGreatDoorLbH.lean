/-
  Check and Right.
-/
import Derived.Test.YtlhekeokognhmaaGreatDoorLbG
import Derived.Deep.DeepCutAuto
import Derived.Deep.QuietTactic
import Derived.Laws.Cover1
namespace Go.Proofs.YtlhekeokognhmaaGreatDoor
open Go.RowKit Go.Shelf Go.Maps Go.Sort
/-- Whether a string is before another one, or the same. -/
def leS (a b : ByteArray) : Bool := Op.bytesLess a.toList b.toList || a.toList == b.toList
/-- What is wrong with a label behind another one (or none). -/
def ordE (p : Option ByteArray) (x : Lab) : Int := if wrE x = 0 then (if x.2 = ⟨#[]⟩ ∨ (∃ y, p = some y ∧ leS x.1 y = true) then 42 else 0) else wrE x
def chkFrom : Nat → Option ByteArray → List Lab → Int × Int
  | _, _, [] => (-1, 0)
  | i, p, x :: L => if ordE p x = 0 then chkFrom (i + 1) (some x.1) L else (i, ordE p x)
def chk (L : List Lab) : Int × Int := if 64 < L.length then (-1, 5) else chkFrom 0 none L
def prevOf (L : List Lab) (k : Nat) : Option ByteArray := if k = 0 then none else (L[k - 1]?).map (·.1)
theorem chk_drop {L : List Lab} {k : Nat} {x : Lab} (hx : L[k]? = some x) (hd : L.drop k = x :: L.drop (k + 1)) : chkFrom k (prevOf L k) (L.drop k) = if ordE (prevOf L k) x = 0 then chkFrom (k + 1) (prevOf L (k + 1)) (L.drop (k + 1)) else (k, ordE (prevOf L k) x) := by
  have : prevOf L (k + 1) = some x.1 := by unfold prevOf; simp [hx]
  rw [hd, this]
  rfl
set_option maxRecDepth 100000 in
set_option maxHeartbeats 2000000 in
theorem check_any' (A : Option Addr) (c : Nat) (L : List Lab) (hL : L.length ≤ 4611686018427387904) (w : World) (hr : RdL w w.heap.size A L) (hT : Tab w) :
    Calls Tryz.prog 12 #[.slice A L.length c] w fun e w' => e = .returned (.tuple #[.int .i64 (chk L).1, .int .i64 (chk L).2]) ∧ Kept w w' := by
  have HR := Lib.hid hr
  have HT := Lib.hid hT
  unfold chk
  obtain ⟨n, hn⟩ : ∃ n, n = L.length := ⟨_, rfl⟩
  have Hn := Lib.hid hn
  rw [← hn] at hL ⊢
  clear hr hT hn
  by_cases h64 : 64 < n
  · have h64' : (64 : Int) < (n : Int) := by omega
    rw [if_pos h64]
    go_enter Tryz.func12, Tryz.ntmps12
    go_wp2_with fail
    go_ret2
    exact ⟨rfl, Below.refl _ _⟩
  · have h64' : ¬ (64 : Int) < (n : Int) := by omega
    rw [if_neg h64]
    go_enter Tryz.func12, Tryz.ntmps12
    go_wp2_with fail
    go_loopw [12] (fun v12 wr => ∃ k : Nat, k ≤ n ∧ v12 = .int .i64 k ∧ Hid (Kept w wr) ∧ Hid (chkFrom 0 none L = chkFrom k (prevOf L k) (L.drop k))) (fun v12 _ => n - (intOf v12).toNat)
    case atStart => exact ⟨0, by omega, rfl, Below.refl _ _, rfl⟩
    case round =>
      obtain ⟨k, hk, rfl, hkr, hf⟩ := hrel
      by_cases hkn : k < n
      · obtain ⟨ad, x, rfl, hadb, hx, hd, hc0, hc1⟩ := rdl_at HR.out (by rw [← Hn.out]; exact hkn)
        have e0 := (Below.cell hkr.out (by rw [addBlock]; exact hadb)).trans hc0
        have e1 := (Below.cell hkr.out (by rw [addBlock]; exact hadb)).trans hc1
        have Hcl := Lib.hid (lab_cells e0 e1)
        have Hfd := Lib.hid (chk_drop hx hd)
        have CW : Hid (∀ W, Kept wr W → Calls Tryz.prog 60 #[.agg #[.string x.1, .string x.2]] W fun e w' => e = .returned (.int .i64 (wrE x)) ∧ Kept W w') := fun W h => wrong_any x W (HT.out.below (below_kept hkr.out h))
        have k1 : Kept wr (wr.alloc (.cells #[.string x.1, .string x.2] 33)) := (Below.refl _ wr).alloc (Nat.le_refl _) _
        have K1 := Lib.hid k1
        have M1 : Hid ((wr.alloc (.cells #[.string x.1, .string x.2] 33)).heap[wr.heap.size]? = some (.cells #[.string x.1, .string x.2] 33 (0, 0))) := heap_alloc_new wr _
        have Hpv : Hid (k ≠ 0 → ∃ y, prevOf L k = some y ∧ wr.cell? ((ad.add ((k - 1) * 2))) = some (.string y)) := fun h0 => by
          obtain ⟨ad', y, ha, hb', hy, _, hy0, _⟩ := rdl_at HR.out (k := k - 1) (by rw [← Hn.out]; omega)
          cases ha
          exact ⟨y.1, by unfold prevOf; rw [if_neg h0, hy]; rfl, (Below.cell hkr.out (by rw [addBlock]; exact hb')).trans hy0⟩
        clear hc0 hc1 hx hd k1 e0 e1
        go_upto_region 7 with (first | (refine wpList_load_at rfl 33 (.tmp 15) rfl (ad.add (k * 2)) rfl #[.string x.1, .string x.2] _ Hcl.out Tryz.underlying33 rfl sizeL ?_) | (go_at_call 60; refine (CW.out _ K1.out).mono ?_; rintro e w2 ⟨rfl, hk2⟩; have HK2 := Lib.hid (below_kept K1.out hk2); have M2 := Lib.hid (heap_kept hk2 M1.out); clear hk2))
        have hk1 := hkn
        obtain ⟨g, hg⟩ : ∃ g, g = wr.heap.size := ⟨_, rfl⟩
        rw [← hg] at M2 ⊢
        have n0 : w2.cell? ⟨g, 0, none⟩ = some (.string x.1) := by rw [cell_of_row _ _ _ _ _ _ M2.out]; rfl
        have n1 : w2.cell? ⟨g, 1, none⟩ = some (.string x.2) := by rw [cell_of_row _ _ _ _ _ _ M2.out]; rfl
        have Hpv2 : Hid (k ≠ 0 → ∃ y, prevOf L k = some y ∧ w2.cell? ((ad.add ((k - 1) * 2))) = some (.string y)) := fun h0 => by
          obtain ⟨y, h1, h2⟩ := Hpv.out h0
          exact ⟨y, h1, (Below.cell HK2.out (block_lt_of_cell h2)).trans h2⟩
        have HK2' := Lib.hid (below_kept hkr.out HK2.out)
        have hb2 := Below.refl w2.heap.size w2
        obtain ⟨xa, xb⟩ := x
        dsimp only at n0 n1
        generalize hEE : wrE (xa, xb) = ee at *
        have HEE := Lib.hid hEE
        clear hEE hg M1 M2 K1 HK2 CW Hpv Hcl
        have Hord : Hid (ordE (prevOf L k) (xa, xb) = if ee = 0 then (if xb = ⟨#[]⟩ ∨ (∃ y, prevOf L k = some y ∧ leS xa y = true) then 42 else 0) else ee) := by show _ = _; rw [← HEE.out]; rfl
        obtain ⟨vb, hvb⟩ : ∃ vb, vb = decide (ee = 0 ∧ ordE (prevOf L k) (xa, xb) = 42) := ⟨_, rfl⟩
        have Hvb := Lib.hid hvb
        clear hvb
        go_cut [40] (fun v40 wx => v40 = .bool vb ∧ Below w2.heap.size w2 wx)
        case first =>
          by_cases hee : ee = 0
          · subst hee
            by_cases hxb : xb = ⟨#[]⟩
            · have hbb : xb.toList.isEmpty = true := empty_yes hxb
              have hv : vb = true := by rw [Hvb.out, Hord.out, if_pos rfl, if_pos (.inl hxb)]; rfl
              subst hv
              clear hxb
              go_quiet (fail)
              go_wp2_with fail
              go_meet
              exact ⟨rfl, below_drewN hb2 nq⟩
            · have hbb : xb.toList.isEmpty = false := empty_no hxb
              rcases k with _ | j
              · have hv : vb = false := by
                  rw [Hvb.out, Hord.out, if_pos rfl, if_neg (by rintro (h | ⟨y, h, _⟩); exact hxb h; simp [prevOf] at h)]
                  rfl
                subst hv
                clear hxb
                go_quiet (fail)
                go_wp2_with fail
                go_meet
                exact ⟨rfl, below_drewN hb2 nq⟩
              · obtain ⟨y, hpy, hcy⟩ := Hpv2.out (by omega)
                have hv : vb = leS xa y := by
                  rw [Hvb.out, Hord.out, if_pos rfl, hpy]
                  rcases hl : leS xa y with _ | _
                  · rw [if_neg (by rintro (h | ⟨z, h, h2⟩); exact hxb h; cases h; rw [hl] at h2; cases h2)]
                    rfl
                  · rw [if_pos (.inr ⟨y, rfl, hl⟩)]
                    rfl
                have hj1 : ((j : Int) + 1 - 1) = (j : Int) := by omega
                have hjn : (j : Int) < (n : Int) := by omega
                have hj0 : (0 : Int) < (j : Int) + 1 := by omega
                have hjw : IntKind.i64.wrap (j : Int) = (j : Int) := by rw [IntWalk.i64_in _ (by omega)]
                rw [show j + 1 - 1 = j from by omega] at hcy
                subst hv
                clear hxb hpy
                go_quiet (fail)
                go_wp2_with fail
                go_meet
                exact ⟨rfl, below_drewN hb2 nq⟩
          · have hbe : (ee == 0) = false := beq_eq_false_iff_ne.2 hee
            have hv : vb = false := by rw [Hvb.out]; exact decide_eq_false (fun h => hee h.1)
            subst hv
            clear hee
            go_quiet (fail)
            go_wp2_with fail
            go_meet
            exact ⟨rfl, below_drewN hb2 nq⟩
        case rest =>
        obtain ⟨rfl, hk3⟩ := hcut
        obtain ⟨w3, rfl⟩ : ∃ x, x = wc := ⟨_, rfl⟩
        have HK3 : Hid (Kept w w3) := below_kept HK2'.out hk3
        rcases hvb : vb with _ | _
        · have ho : ordE (prevOf L k) (xa, xb) = ee := by
            rw [Hord.out]
            by_cases he : ee = 0
            · rw [if_pos he]
              rw [hvb] at Hvb
              have := of_decide_eq_false Hvb.out.symm
              rw [Hord.out, if_pos he] at this
              by_cases hc : xb = ⟨#[]⟩ ∨ (∃ y, prevOf L k = some y ∧ leS xa y = true)
              · rw [if_pos hc] at this
                exact absurd ⟨he, rfl⟩ this
              · rw [if_neg hc, he]
            · rw [if_neg he]
          rw [ho] at Hfd
          by_cases he : ee = 0
          · rw [if_pos he] at Hfd
            subst he
            clear ho hvb
            go_wp2_with fail
            go_roundw
            case rel => exact ⟨k + 1, by omega, by go_num, HK3, by show _ = _; rw [hf.out, Hfd.out]⟩
            case measure => simp [intOf]; omega
          · rw [if_neg he] at Hfd
            have hne : (ee != 0) = true := bne_iff_ne.2 he
            clear ho hvb he
            go_wp2_with fail
            go_ret2
            exact ⟨by rw [hf.out, Hfd.out]; rfl, HK3.out⟩
        · rw [hvb] at Hvb
          obtain ⟨h1, h2⟩ := of_decide_eq_true Hvb.out.symm
          rw [h2, if_neg (by decide)] at Hfd
          clear hvb h1 h2
          go_wp2_with fail
          go_ret2
          exact ⟨by rw [hf.out, Hfd.out]; rfl, HK3.out⟩
      · obtain rfl : k = n := by omega
        go_wp2_with fail
        go_ret2
        refine ⟨?_, hkr.out⟩
        rw [hf.out, List.drop_of_length_le (by rw [← Hn.out]; exact Nat.le_refl _)]
        rfl
end Go.Proofs.YtlhekeokognhmaaGreatDoor
