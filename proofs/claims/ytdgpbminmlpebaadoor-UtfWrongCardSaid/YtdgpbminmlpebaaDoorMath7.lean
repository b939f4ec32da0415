/-
  Plain mathematics: the order of strings of code points.
-/
import Derived.Test.YtdgpbminmlpebaaDoorMath6
namespace Go.Proofs.YtdgpbminmlpebaaDoor.Mt
/-- The order of lists of numbers, from the first difference on. -/
def ltL : List Int → List Int → Bool
  | _, [] => false
  | [], _ :: _ => true
  | x :: a, y :: b => if x < y then true else if y < x then false else ltL a b
theorem ltL_lt {x y : Int} {a b : List Int} (h : x < y) : ltL (x :: a) (y :: b) = true := by simp only [ltL, if_pos h]
theorem ltL_gt {x y : Int} {a b : List Int} (h : y < x) : ltL (x :: a) (y :: b) = false := by simp only [ltL]; rw [if_neg (by omega), if_pos h]
theorem ltL_eq (x : Int) (a b : List Int) : ltL (x :: a) (x :: b) = ltL a b := by simp only [ltL]; rw [if_neg (by omega), if_neg (by omega)]
theorem ltL_nil (a : List Int) : ltL a [] = false := by cases a <;> rfl
theorem ltL_pre (p a b : List Int) : ltL (p ++ a) (p ++ b) = ltL a b := by
  induction p with
  | nil => rfl
  | cons x p ih => rw [List.cons_append, List.cons_append, ltL_eq, ih]
theorem ltL_self (a : List Int) : ltL a a = false := by have := ltL_pre a [] []; simpa [ltL] using this
theorem form_ne_nil (x : Int) : form x ≠ [] := by have := form_pos x; intro h; rw [h] at this; simp at this
/-- Of two forms the lesser code point's is less, whatever follows. -/
theorem form_lt {x y : Int} (hx : isPt x = true) (hy : isPt y = true) (h : x < y) (a b : List Int) : ltL (form x ++ a) (form y ++ b) = true ∧ ltL (form y ++ b) (form x ++ a) = false := by
  obtain ⟨x0, x1, _⟩ := isPt_bds hx
  obtain ⟨y0, y1, _⟩ := isPt_bds hy
  have step : ∀ {p q : Int} {a b : List Int}, p < q ∨ p = q ∧ (ltL a b = true ∧ ltL b a = false) → ltL (p :: a) (q :: b) = true ∧ ltL (q :: b) (p :: a) = false := by
    intro p q a b h
    rcases h with h | ⟨rfl, h⟩
    · exact ⟨ltL_lt h, ltL_gt h⟩
    · rw [ltL_eq, ltL_eq]; exact h
  by_cases c1 : y < 128
  · rw [form_1 (show x < 128 by omega), form_1 c1]
    exact step (.inl h)
  · by_cases c2 : y < 2048
    · rw [form_2 c1 c2]
      by_cases d1 : x < 128
      · rw [form_1 d1]; exact step (.inl (by omega))
      · rw [form_2 d1 (by omega)]
        by_cases e1 : x / 64 = y / 64
        · exact step (.inr ⟨by omega, step (.inl (by omega))⟩)
        · exact step (.inl (by omega))
    · by_cases c3 : y < 65536
      · rw [form_3 c2 c3]
        by_cases d1 : x < 128
        · rw [form_1 d1]; exact step (.inl (by omega))
        · by_cases d2 : x < 2048
          · rw [form_2 d1 d2]; exact step (.inl (by omega))
          · rw [form_3 d2 (by omega)]
            by_cases e1 : x / 4096 = y / 4096
            · by_cases e2 : x / 64 % 64 = y / 64 % 64
              · exact step (.inr ⟨by omega, step (.inr ⟨by omega, step (.inl (by omega))⟩)⟩)
              · exact step (.inr ⟨by omega, step (.inl (by omega))⟩)
            · exact step (.inl (by omega))
      · rw [form_4 c3]
        by_cases d1 : x < 128
        · rw [form_1 d1]; exact step (.inl (by omega))
        · by_cases d2 : x < 2048
          · rw [form_2 d1 d2]; exact step (.inl (by omega))
          · by_cases d3 : x < 65536
            · rw [form_3 d2 d3]; exact step (.inl (by omega))
            · rw [form_4 d3]
              by_cases e1 : x / 262144 = y / 262144
              · by_cases e2 : x / 4096 % 64 = y / 4096 % 64
                · by_cases e3 : x / 64 % 64 = y / 64 % 64
                  · exact step (.inr ⟨by omega, step (.inr ⟨by omega, step (.inr ⟨by omega, step (.inl (by omega))⟩)⟩)⟩)
                  · exact step (.inr ⟨by omega, step (.inr ⟨by omega, step (.inl (by omega))⟩)⟩)
                · exact step (.inr ⟨by omega, step (.inl (by omega))⟩)
              · exact step (.inl (by omega))
theorem ltL_forms {ps qs : List Int} (hp : AllPt ps) (hq : AllPt qs) : ltL (forms ps) (forms qs) = ltL ps qs := by
  induction ps generalizing qs with
  | nil =>
    cases qs with
    | nil => rfl
    | cons y b =>
      rw [forms_cons]
      have := form_ne_nil y
      cases h : form y with
      | nil => exact absurd h this
      | cons c t => rfl
  | cons x a ih =>
    cases qs with
    | nil => rw [ltL_nil]; exact ltL_nil _
    | cons y b =>
      rw [forms_cons, forms_cons]
      rcases Int.lt_trichotomy x y with h | rfl | h
      · rw [(form_lt hp.head hq.head h _ _).1, ltL_lt h]
      · rw [ltL_pre, ltL_eq, ih hp.tail hq.tail]
      · rw [(form_lt hq.head hp.head h _ _).2, ltL_gt h]
theorem forms_inj {ps qs : List Int} (hp : AllPt ps) (hq : AllPt qs) (h : forms ps = forms qs) : ps = qs := by rw [← pts_forms hp, h, pts_forms hq]
theorem ltL_drop {ps qs : List Int} {k : Nat} (h : ps.take k = qs.take k) : ltL ps qs = ltL (ps.drop k) (qs.drop k) := by
  conv => lhs; rw [← List.take_append_drop k ps, ← List.take_append_drop k qs, h]
  exact ltL_pre _ _ _
theorem drop_cons {l : List Int} {k : Nat} (h : k < l.length) : l.drop k = l.getD k 0 :: l.drop (k + 1) := by rw [List.drop_eq_getElem_cons h]; simp [List.getD, h]
end Go.Proofs.YtdgpbminmlpebaaDoor.Mt
