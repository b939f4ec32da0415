/-
  Plain mathematics: strings of code points that are cut, or bent.
-/
import Derived.Test.YtdgpbminmlpebaaDoorMath5
namespace Go.Proofs.YtdgpbminmlpebaaDoor.Mt
theorem AllPt.take {l : List Int} (h : AllPt l) (j : Nat) : AllPt (l.take j) := fun x hx => h x (List.mem_of_mem_take hx)
theorem AllPt.drop {l : List Int} (h : AllPt l) (j : Nat) : AllPt (l.drop j) := fun x hx => h x (List.mem_of_mem_drop hx)
theorem forms_take (l : List Int) (j : Nat) : (forms l).take (forms (l.take j)).length = forms (l.take j) := by
  conv => lhs; rw [← List.take_append_drop j l, forms_append]
  rw [List.take_append_drop, List.take_left]
theorem forms_drop (l : List Int) (j : Nat) : (forms l).drop (forms (l.take j)).length = forms (l.drop j) := by
  conv => lhs; rw [← List.take_append_drop j l, forms_append]
  rw [List.take_append_drop, List.drop_left]
theorem cut_offs (ps : List Int) (a k : Int) (ha : a ≤ k) : ∃ j, j ≤ ps.length ∧ lastOf a ((offs a ps).takeWhile fun p => decide (p.1 ≤ k)) = a + (forms (ps.take j)).length ∧ a + (forms (ps.take j)).length ≤ k ∧ (j < ps.length → k < a + (forms (ps.take j)).length + szP (ps.getD j 0)) := by
  induction ps generalizing a with
  | nil => exact ⟨0, Nat.le_refl _, by simp [offs, lastOf, forms], by simp [forms]; exact ha, fun h => by cases h⟩
  | cons x t ih =>
    have hf := form_length x
    by_cases h : a + szP x ≤ k
    · obtain ⟨j, h1, h2, h3, h4⟩ := ih (a + szP x) h
      have e : (forms ((x :: t).take (j + 1))).length = (form x).length + (forms (t.take j)).length := by rw [List.take_succ_cons, forms_cons, List.length_append]
      refine ⟨j + 1, by simp; exact h1, ?_, by rw [e]; omega, fun hj => ?_⟩
      · rw [e, show offs a (x :: t) = (a + szP x, x) :: offs (a + szP x) t from rfl, List.takeWhile_cons, if_pos (by simpa using h)]
        show lastOf (a + szP x) _ = _
        rw [h2]; omega
      · have := h4 (by simp at hj; exact hj)
        rw [e]
        show k < _ + szP (t.getD j 0)
        omega
    · refine ⟨0, Nat.zero_le _, ?_, by simp [forms]; exact ha, fun _ => ?_⟩
      · rw [show offs a (x :: t) = (a + szP x, x) :: offs (a + szP x) t from rfl, List.takeWhile_cons, if_neg (by simpa using h)]
        simp [lastOf, forms]
      · simp [forms]; omega
/-- Where a string of code points is cut. -/
theorem cut_forms {ps : List Int} (hp : AllPt ps) (k : Int) (hk : 0 ≤ k) : ∃ j, j ≤ ps.length ∧ cutEnd (forms ps) k = (forms (ps.take j)).length ∧ ((forms (ps.take j)).length : Int) ≤ k ∧ (j < ps.length → k < (forms (ps.take j)).length + szP (ps.getD j 0)) := by
  obtain ⟨j, h1, h2, h3, h4⟩ := cut_offs ps 0 k hk
  refine ⟨j, h1, ?_, by omega, fun h => by have := h4 h; omega⟩
  unfold cutEnd
  rw [allSteps_forms hp, h2]; omega
theorem stop_at (pre l q : List Int) (hl : AllPt l) (hq : (rd q).2.2 ≠ 0) (f : Nat) (hf : l.length < f) : finF (pre ++ (forms l ++ q)) f pre.length = (pre ++ forms l).length := by
  induction l generalizing pre f with
  | nil =>
    obtain ⟨f, rfl⟩ : ∃ g, f = g + 1 := ⟨f - 1, by simp at hf; omega⟩
    show (if _ then _ else _) = _
    rw [List.drop_left, if_neg (by simpa [forms] using hq)]
    simp [forms]
  | cons x t ih =>
    obtain ⟨f, rfl⟩ : ∃ g, f = g + 1 := ⟨f - 1, by simp at hf; omega⟩
    have hr := rd_form hl.head (forms t ++ q)
    have hb := szP_bd x
    have hlen : pre.length + (szP x).toNat = (pre ++ form x).length := by rw [List.length_append, form_length']
    have := ih (pre ++ form x) hl.tail f (by simp at hf; omega)
    show (if _ then _ else _) = _
    rw [List.drop_left, forms_cons, List.append_assoc, hr, if_pos rfl]
    dsimp only
    rw [hlen, ← List.append_assoc pre, this, List.append_assoc]
/-- A string is good up to where something that is not good begins. -/
theorem fin_stop {l q : List Int} (hl : AllPt l) (hq : (rd q).2.2 ≠ 0) : fin (forms l ++ q) = (forms l).length := by
  have := stop_at [] l q hl hq ((forms l ++ q).length + 1) (by have := forms_len l; rw [List.length_append]; omega)
  simpa [fin] using this
theorem chkE_stop {l q : List Int} (hl : AllPt l) (hq : (rd q).2.2 ≠ 0) (hq0 : q ≠ []) : chkE (forms l ++ q) = (rd q).2.2 := by
  unfold chkE
  have : 0 < q.length := List.length_pos_iff.2 hq0
  rw [fin_stop hl hq, if_neg (by rw [List.length_append]; omega), List.drop_left]
/-- A form that is cut. -/
theorem rd_cut {x : Int} (h : isPt x = true) (i : Nat) (h1 : 1 ≤ i) (h2 : (i : Int) < szP x) : rd ((form x).take i) = (0, 0, 10) ∧ ∀ b : Int, b < 128 ∨ 191 < b → rd ((form x).take i ++ [b]) = (0, 0, 11) := by
  obtain ⟨h0, h1', h2'⟩ := isPt_bds h
  by_cases c1 : x < 128
  · rw [szP_1 c1] at h2; omega
  · by_cases c2 : x < 2048
    · rw [szP_2 c1 c2] at h2
      rw [form_2 c1 c2]
      obtain rfl : i = 1 := by omega
      have hl := lead_2 (c := 192 + x / 64) (by omega) (by omega)
      exact ⟨rd_short hl rfl (by simp), fun b hb => rd_bad hl (cont_out (by omega))⟩
    · by_cases c3 : x < 65536
      · rw [szP_3 c2 c3] at h2
        rw [form_3 c2 c3]
        have hl := lead_3 (c := 224 + x / 4096) (by omega) (by omega)
        have k1 : lo3 (224 + x / 4096) ≤ 128 + x / 64 % 64 := by unfold lo3; split <;> omega
        have k2 : 128 + x / 64 % 64 ≤ hi3 (224 + x / 4096) := by unfold hi3; split <;> omega
        have k3 : 128 ≤ lo3 (224 + x / 4096) ∧ hi3 (224 + x / 4096) ≤ 191 := by unfold lo3 hi3; split <;> split <;> omega
        rcases (by omega : i = 1 ∨ i = 2) with rfl | rfl
        · exact ⟨rd_short hl rfl (by simp), fun b hb => rd_bad hl (cont_out (by omega))⟩
        · refine ⟨rd_short hl (cont_in k1 k2) (by simp), fun b hb => rd_bad hl ?_⟩
          show cont _ _ _ [_, b] = none
          rw [cont_in k1 k2, cont_out (by omega)]
      · rw [szP_4 c3] at h2
        rw [form_4 c3]
        have hl := lead_4 (c := 240 + x / 262144) (by omega) (by omega)
        have k1 : lo4 (240 + x / 262144) ≤ 128 + x / 4096 % 64 := by unfold lo4; split <;> omega
        have k2 : 128 + x / 4096 % 64 ≤ hi4 (240 + x / 262144) := by unfold hi4; split <;> omega
        have k3 : 128 ≤ lo4 (240 + x / 262144) ∧ hi4 (240 + x / 262144) ≤ 191 := by unfold lo4 hi4; split <;> split <;> omega
        rcases (by omega : i = 1 ∨ i = 2 ∨ i = 3) with rfl | rfl | rfl
        · exact ⟨rd_short hl rfl (by simp), fun b hb => rd_bad hl (cont_out (by omega))⟩
        · refine ⟨rd_short hl (cont_in k1 k2) (by simp), fun b hb => rd_bad hl ?_⟩
          show cont _ _ _ [_, b] = none
          rw [cont_in k1 k2, cont_out (by omega)]
        · refine ⟨rd_short hl (x := ((240 + x / 262144 - 240) * 64 + (128 + x / 4096 % 64 - 128)) * 64 + (128 + x / 64 % 64 - 128)) ?_ (by simp), fun b hb => rd_bad hl ?_⟩
          · show cont _ _ _ [_, _] = some _
            rw [cont_in k1 k2, cont_in (by omega) (by omega)]; rfl
          · show cont _ _ _ [_, _, b] = none
            rw [cont_in k1 k2, cont_in (by omega) (by omega), cont_out (by omega)]
end Go.Proofs.YtdgpbminmlpebaaDoor.Mt
