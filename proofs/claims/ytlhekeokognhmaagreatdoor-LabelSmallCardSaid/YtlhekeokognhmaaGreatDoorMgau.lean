/-
  Plain mathematics: a string of code points, read at each of its offsets. Plain mathematics: strings of code points that are cut, or bent. Plain mathematics: the order of strings of code points.
-/
import Derived.Test.YtlhekeokognhmaaGreatDoorMgat
namespace Go.Proofs.YtlhekeokognhmaaGreatDoor.Mt
theorem take_snoc' {l : List Int} {k : Nat} (h : k < l.length) : l.take (k + 1) = l.take k ++ [l.getD k 0] := by
  rw [List.take_succ_eq_append_getElem h]
  simp [List.getD, h]
theorem split_at {l : List Int} {k : Nat} (h : k < l.length) : l = l.take k ++ l.getD k 0 :: l.drop (k + 1) := by
  conv => lhs; rw [← List.take_append_drop k l, List.drop_eq_getElem_cons h]
  simp [List.getD, h]
theorem getD_pt {l : List Int} (h : AllPt l) {k : Nat} (hk : k < l.length) : isPt (l.getD k 0) = true := h _ (by simp [List.getD, hk])
theorem back_len {l : List Int} {k : Nat} (h : k < l.length) : (forms (l.take (k + 1))).length = (forms (l.take k)).length + (szP (l.getD k 0)).toNat := by
  rw [take_snoc' h, forms_append, List.length_append, ← form_length']
  simp [forms]
theorem back_le {l : List Int} {k : Nat} (h : k < l.length) : (forms (l.take k)).length + (szP (l.getD k 0)).toNat ≤ (forms l).length := by
  rw [← back_len h]
  conv => rhs; rw [← List.take_append_drop (k + 1) l, forms_append, List.length_append]
  omega
theorem back_drop {l : List Int} {k : Nat} (h : k < l.length) (i : Nat) (hi : (i : Int) < szP (l.getD k 0)) : (forms l).drop ((forms (l.take k)).length + i) = (form (l.getD k 0)).drop i ++ forms (l.drop (k + 1)) := by
  have e : forms l = forms (l.take k) ++ (form (l.getD k 0) ++ forms (l.drop (k + 1))) := by
    conv => lhs; rw [split_at h]
    rw [forms_append, forms_cons]
  have hf := form_length (l.getD k 0)
  rw [e, ← List.drop_drop, List.drop_left, List.drop_append_of_le_length (by omega)]
theorem back_read {l : List Int} (hp : AllPt l) {k : Nat} (h : k < l.length) : rdAt (forms l) ((forms (l.take k)).length : Nat) = (l.getD k 0, szP (l.getD k 0), 0) := by
  have hb := szP_bd (l.getD k 0)
  have hle := back_le h
  have := back_drop h 0 (by omega)
  rw [Nat.add_zero, List.drop_zero] at this
  unfold rdAt
  rw [if_neg (by omega), Int.toNat_natCast, this, rd_form (getD_pt hp h)]
theorem back_mid {l : List Int} (hp : AllPt l) {k : Nat} (h : k < l.length) {i : Nat} (h1 : 1 ≤ i) (h2 : (i : Int) < szP (l.getD k 0)) : rdAt (forms l) (((forms (l.take k)).length : Int) + i) = (0, 0, 11) := by
  have hle := back_le h
  unfold rdAt
  rw [if_neg (by omega), show (((forms (l.take k)).length : Int) + i).toNat = (forms (l.take k)).length + i from by omega, back_drop h i h2, form_mid (getD_pt hp h) i h1 h2]
end Go.Proofs.YtlhekeokognhmaaGreatDoor.Mt
namespace Go.Proofs.YtlhekeokognhmaaGreatDoor.Mt
theorem AllPt.take {l : List Int} (h : AllPt l) (j : Nat) : AllPt (l.take j) := fun x hx => h x (List.mem_of_mem_take hx)
theorem AllPt.drop {l : List Int} (h : AllPt l) (j : Nat) : AllPt (l.drop j) := fun x hx => h x (List.mem_of_mem_drop hx)
theorem forms_take (l : List Int) (j : Nat) : (forms l).take (forms (l.take j)).length = forms (l.take j) := by
  conv => lhs; rw [← List.take_append_drop j l, forms_append]
  rw [List.take_append_drop, List.take_left]
theorem forms_drop (l : List Int) (j : Nat) : (forms l).drop (forms (l.take j)).length = forms (l.drop j) := by
  conv => lhs; rw [← List.take_append_drop j l, forms_append]
  rw [List.take_append_drop, List.drop_left]
theorem cut_offs (ps : List Int) (a k : Int) (ha : a ≤ k) : ∃ j, j ≤ ps.length ∧ lastOf a ((offs a ps).takeWhile fun p => decide (p.1 ≤ k)) = a + (forms (ps.take j)).length ∧ a + (forms (ps.take j)).length ≤ k ∧ (j < ps.length → k < a + (forms (ps.take j)).length + szP (ps.getD j 0)) := by
  induction ps generalizing a with
  | nil => exact ⟨0, Nat.le_refl _, by simp [offs, lastOf, forms], by simp [forms]; exact ha, fun h => by cases h⟩
  | cons x t ih =>
    have hf := form_length x
    by_cases h : a + szP x ≤ k
    · obtain ⟨j, h1, h2, h3, h4⟩ := ih (a + szP x) h
      have e : (forms ((x :: t).take (j + 1))).length = (form x).length + (forms (t.take j)).length := by rw [List.take_succ_cons, forms_cons, List.length_append]
      refine ⟨j + 1, by simp; exact h1, ?_, by rw [e]; omega, fun hj => ?_⟩
      · rw [e, show offs a (x :: t) = (a + szP x, x) :: offs (a + szP x) t from rfl, List.takeWhile_cons, if_pos (by simpa using h)]
        show lastOf (a + szP x) _ = _
        rw [h2]; omega
      · have := h4 (by simp at hj; exact hj)
        rw [e]
        show k < _ + szP (t.getD j 0)
        omega
    · refine ⟨0, Nat.zero_le _, ?_, by simp [forms]; exact ha, fun _ => ?_⟩
      · rw [show offs a (x :: t) = (a + szP x, x) :: offs (a + szP x) t from rfl, List.takeWhile_cons, if_neg (by simpa using h)]
        simp [lastOf, forms]
      · simp [forms]; omega
/-- Where a string of code points is cut. -/
theorem cut_forms {ps : List Int} (hp : AllPt ps) (k : Int) (hk : 0 ≤ k) : ∃ j, j ≤ ps.length ∧ cutEnd (forms ps) k = (forms (ps.take j)).length ∧ ((forms (ps.take j)).length : Int) ≤ k ∧ (j < ps.length → k < (forms (ps.take j)).length + szP (ps.getD j 0)) := by
  obtain ⟨j, h1, h2, h3, h4⟩ := cut_offs ps 0 k hk
  refine ⟨j, h1, ?_, by omega, fun h => by have := h4 h; omega⟩
  unfold cutEnd
  rw [allSteps_forms hp, h2]; omega
theorem stop_at (pre l q : List Int) (hl : AllPt l) (hq : (rd q).2.2 ≠ 0) (f : Nat) (hf : l.length < f) : finF (pre ++ (forms l ++ q)) f pre.length = (pre ++ forms l).length := by
  induction l generalizing pre f with
  | nil =>
    obtain ⟨f, rfl⟩ : ∃ g, f = g + 1 := ⟨f - 1, by simp at hf; omega⟩
    show (if _ then _ else _) = _
    rw [List.drop_left, if_neg (by simpa [forms] using hq)]
    simp [forms]
  | cons x t ih =>
    obtain ⟨f, rfl⟩ : ∃ g, f = g + 1 := ⟨f - 1, by simp at hf; omega⟩
    have hr := rd_form hl.head (forms t ++ q)
    have hb := szP_bd x
    have hlen : pre.length + (szP x).toNat = (pre ++ form x).length := by rw [List.length_append, form_length']
    have := ih (pre ++ form x) hl.tail f (by simp at hf; omega)
    show (if _ then _ else _) = _
    rw [List.drop_left, forms_cons, List.append_assoc, hr, if_pos rfl]
    dsimp only
    rw [hlen, ← List.append_assoc pre, this, List.append_assoc]
/-- A string is good up to where something that is not good begins. -/
theorem fin_stop {l q : List Int} (hl : AllPt l) (hq : (rd q).2.2 ≠ 0) : fin (forms l ++ q) = (forms l).length := by
  have := stop_at [] l q hl hq ((forms l ++ q).length + 1) (by have := forms_len l; rw [List.length_append]; omega)
  simpa [fin] using this
theorem chkE_stop {l q : List Int} (hl : AllPt l) (hq : (rd q).2.2 ≠ 0) (hq0 : q ≠ []) : chkE (forms l ++ q) = (rd q).2.2 := by
  unfold chkE
  have : 0 < q.length := List.length_pos_iff.2 hq0
  rw [fin_stop hl hq, if_neg (by rw [List.length_append]; omega), List.drop_left]
/-- A form that is cut. -/
theorem rd_cut {x : Int} (h : isPt x = true) (i : Nat) (h1 : 1 ≤ i) (h2 : (i : Int) < szP x) : rd ((form x).take i) = (0, 0, 10) ∧ ∀ b : Int, b < 128 ∨ 191 < b → rd ((form x).take i ++ [b]) = (0, 0, 11) := by
  obtain ⟨h0, h1', h2'⟩ := isPt_bds h
  by_cases c1 : x < 128
  · rw [szP_1 c1] at h2; omega
  · by_cases c2 : x < 2048
    · rw [szP_2 c1 c2] at h2
      rw [form_2 c1 c2]
      obtain rfl : i = 1 := by omega
      have hl := lead_2 (c := 192 + x / 64) (by omega) (by omega)
      exact ⟨rd_short hl rfl (by simp), fun b hb => rd_bad hl (cont_out (by omega))⟩
    · by_cases c3 : x < 65536
      · rw [szP_3 c2 c3] at h2
        rw [form_3 c2 c3]
        have hl := lead_3 (c := 224 + x / 4096) (by omega) (by omega)
        have k1 : lo3 (224 + x / 4096) ≤ 128 + x / 64 % 64 := by unfold lo3; split <;> omega
        have k2 : 128 + x / 64 % 64 ≤ hi3 (224 + x / 4096) := by unfold hi3; split <;> omega
        have k3 : 128 ≤ lo3 (224 + x / 4096) ∧ hi3 (224 + x / 4096) ≤ 191 := by unfold lo3 hi3; split <;> split <;> omega
        rcases (by omega : i = 1 ∨ i = 2) with rfl | rfl
        · exact ⟨rd_short hl rfl (by simp), fun b hb => rd_bad hl (cont_out (by omega))⟩
        · refine ⟨rd_short hl (cont_in k1 k2) (by simp), fun b hb => rd_bad hl ?_⟩
          show cont _ _ _ [_, b] = none
          rw [cont_in k1 k2, cont_out (by omega)]
      · rw [szP_4 c3] at h2
        rw [form_4 c3]
        have hl := lead_4 (c := 240 + x / 262144) (by omega) (by omega)
        have k1 : lo4 (240 + x / 262144) ≤ 128 + x / 4096 % 64 := by unfold lo4; split <;> omega
        have k2 : 128 + x / 4096 % 64 ≤ hi4 (240 + x / 262144) := by unfold hi4; split <;> omega
        have k3 : 128 ≤ lo4 (240 + x / 262144) ∧ hi4 (240 + x / 262144) ≤ 191 := by unfold lo4 hi4; split <;> split <;> omega
        rcases (by omega : i = 1 ∨ i = 2 ∨ i = 3) with rfl | rfl | rfl
        · exact ⟨rd_short hl rfl (by simp), fun b hb => rd_bad hl (cont_out (by omega))⟩
        · refine ⟨rd_short hl (cont_in k1 k2) (by simp), fun b hb => rd_bad hl ?_⟩
          show cont _ _ _ [_, b] = none
          rw [cont_in k1 k2, cont_out (by omega)]
        · refine ⟨rd_short hl (x := ((240 + x / 262144 - 240) * 64 + (128 + x / 4096 % 64 - 128)) * 64 + (128 + x / 64 % 64 - 128)) ?_ (by simp), fun b hb => rd_bad hl ?_⟩
          · show cont _ _ _ [_, _] = some _
            rw [cont_in k1 k2, cont_in (by omega) (by omega)]; rfl
          · show cont _ _ _ [_, _, b] = none
            rw [cont_in k1 k2, cont_in (by omega) (by omega), cont_out (by omega)]
end Go.Proofs.YtlhekeokognhmaaGreatDoor.Mt
namespace Go.Proofs.YtlhekeokognhmaaGreatDoor.Mt
/-- The order of lists of numbers, from the first difference on. -/
def ltL : List Int → List Int → Bool
  | _, [] => false
  | [], _ :: _ => true
  | x :: a, y :: b => if x < y then true else if y < x then false else ltL a b
theorem ltL_lt {x y : Int} {a b : List Int} (h : x < y) : ltL (x :: a) (y :: b) = true := by simp only [ltL, if_pos h]
theorem ltL_gt {x y : Int} {a b : List Int} (h : y < x) : ltL (x :: a) (y :: b) = false := by simp only [ltL]; rw [if_neg (by omega), if_pos h]
theorem ltL_eq (x : Int) (a b : List Int) : ltL (x :: a) (x :: b) = ltL a b := by simp only [ltL]; rw [if_neg (by omega), if_neg (by omega)]
theorem ltL_nil (a : List Int) : ltL a [] = false := by cases a <;> rfl
theorem ltL_pre (p a b : List Int) : ltL (p ++ a) (p ++ b) = ltL a b := by
  induction p with
  | nil => rfl
  | cons x p ih => rw [List.cons_append, List.cons_append, ltL_eq, ih]
theorem ltL_self (a : List Int) : ltL a a = false := by have := ltL_pre a [] []; simpa [ltL] using this
theorem form_ne_nil (x : Int) : form x ≠ [] := by have := form_pos x; intro h; rw [h] at this; simp at this
/-- Of two forms the lesser code point's is less, whatever follows. -/
theorem form_lt {x y : Int} (hx : isPt x = true) (hy : isPt y = true) (h : x < y) (a b : List Int) : ltL (form x ++ a) (form y ++ b) = true ∧ ltL (form y ++ b) (form x ++ a) = false := by
  obtain ⟨x0, x1, _⟩ := isPt_bds hx
  obtain ⟨y0, y1, _⟩ := isPt_bds hy
  have step : ∀ {p q : Int} {a b : List Int}, p < q ∨ p = q ∧ (ltL a b = true ∧ ltL b a = false) → ltL (p :: a) (q :: b) = true ∧ ltL (q :: b) (p :: a) = false := by
    intro p q a b h
    rcases h with h | ⟨rfl, h⟩
    · exact ⟨ltL_lt h, ltL_gt h⟩
    · rw [ltL_eq, ltL_eq]; exact h
  by_cases c1 : y < 128
  · rw [form_1 (show x < 128 by omega), form_1 c1]
    exact step (.inl h)
  · by_cases c2 : y < 2048
    · rw [form_2 c1 c2]
      by_cases d1 : x < 128
      · rw [form_1 d1]; exact step (.inl (by omega))
      · rw [form_2 d1 (by omega)]
        by_cases e1 : x / 64 = y / 64
        · exact step (.inr ⟨by omega, step (.inl (by omega))⟩)
        · exact step (.inl (by omega))
    · by_cases c3 : y < 65536
      · rw [form_3 c2 c3]
        by_cases d1 : x < 128
        · rw [form_1 d1]; exact step (.inl (by omega))
        · by_cases d2 : x < 2048
          · rw [form_2 d1 d2]; exact step (.inl (by omega))
          · rw [form_3 d2 (by omega)]
            by_cases e1 : x / 4096 = y / 4096
            · by_cases e2 : x / 64 % 64 = y / 64 % 64
              · exact step (.inr ⟨by omega, step (.inr ⟨by omega, step (.inl (by omega))⟩)⟩)
              · exact step (.inr ⟨by omega, step (.inl (by omega))⟩)
            · exact step (.inl (by omega))
      · rw [form_4 c3]
        by_cases d1 : x < 128
        · rw [form_1 d1]; exact step (.inl (by omega))
        · by_cases d2 : x < 2048
          · rw [form_2 d1 d2]; exact step (.inl (by omega))
          · by_cases d3 : x < 65536
            · rw [form_3 d2 d3]; exact step (.inl (by omega))
            · rw [form_4 d3]
              by_cases e1 : x / 262144 = y / 262144
              · by_cases e2 : x / 4096 % 64 = y / 4096 % 64
                · by_cases e3 : x / 64 % 64 = y / 64 % 64
                  · exact step (.inr ⟨by omega, step (.inr ⟨by omega, step (.inr ⟨by omega, step (.inl (by omega))⟩)⟩)⟩)
                  · exact step (.inr ⟨by omega, step (.inr ⟨by omega, step (.inl (by omega))⟩)⟩)
                · exact step (.inr ⟨by omega, step (.inl (by omega))⟩)
              · exact step (.inl (by omega))
theorem ltL_forms {ps qs : List Int} (hp : AllPt ps) (hq : AllPt qs) : ltL (forms ps) (forms qs) = ltL ps qs := by
  induction ps generalizing qs with
  | nil =>
    cases qs with
    | nil => rfl
    | cons y b =>
      rw [forms_cons]
      have := form_ne_nil y
      cases h : form y with
      | nil => exact absurd h this
      | cons c t => rfl
  | cons x a ih =>
    cases qs with
    | nil => rw [ltL_nil]; exact ltL_nil _
    | cons y b =>
      rw [forms_cons, forms_cons]
      rcases Int.lt_trichotomy x y with h | rfl | h
      · rw [(form_lt hp.head hq.head h _ _).1, ltL_lt h]
      · rw [ltL_pre, ltL_eq, ih hp.tail hq.tail]
      · rw [(form_lt hq.head hp.head h _ _).2, ltL_gt h]
theorem forms_inj {ps qs : List Int} (hp : AllPt ps) (hq : AllPt qs) (h : forms ps = forms qs) : ps = qs := by rw [← pts_forms hp, h, pts_forms hq]
theorem ltL_drop {ps qs : List Int} {k : Nat} (h : ps.take k = qs.take k) : ltL ps qs = ltL (ps.drop k) (qs.drop k) := by
  conv => lhs; rw [← List.take_append_drop k ps, ← List.take_append_drop k qs, h]
  exact ltL_pre _ _ _
theorem drop_cons {l : List Int} {k : Nat} (h : k < l.length) : l.drop k = l.getD k 0 :: l.drop (k + 1) := by rw [List.drop_eq_getElem_cons h]; simp [List.getD, h]
end Go.Proofs.YtlhekeokognhmaaGreatDoor.Mt
