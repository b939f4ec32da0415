/-
  Plain mathematics: a good string in which one byte is made one that no form has.
-/
import Derived.Test.YtdgpbminmlpebaaDoorMath7
namespace Go.Proofs.YtdgpbminmlpebaaDoor.Mt
theorem cont_none_app {x lo hi : Int} {t : List Int} (h : cont x lo hi t = none) (r : List Int) : cont x lo hi (t ++ r) = none := by
  induction t generalizing x lo hi with
  | nil => cases h
  | cons c t ih =>
    by_cases hc : lo ≤ c ∧ c ≤ hi
    · rw [cont_in hc.1 hc.2] at h
      rw [List.cons_append, cont_in hc.1 hc.2]
      exact ih h
    · rw [List.cons_append, cont_out hc]
/-- What is bad stays bad, whatever follows. -/
theorem rd_bad_app {l : List Int} (h : rd l = (0, 0, 11)) (r : List Int) : rd (l ++ r) = (0, 0, 11) := by
  cases l with
  | nil => cases h
  | cons c t =>
    rw [List.cons_append]
    cases hl : lead c with
    | none => exact rd_none hl
    | some q =>
      obtain ⟨m, lo, hi, n⟩ := q
      cases hc : cont (c - m) lo hi (t.take (n - 1).toNat) with
      | none =>
        refine rd_bad hl ?_
        rw [List.take_append]
        exact cont_none_app hc _
      | some x =>
        by_cases hn : (t.length : Int) + 1 < n
        · rw [rd_short hl hc hn] at h; cases h
        · rw [rd_ok hl hc hn] at h; cases h
/-- The string, the byte at i made b. -/
def bent (l : List Int) (i : Nat) (b : Int) : List Int := l.take i ++ [b] ++ l.drop (i + 1)
theorem bent_bad {ps : List Int} (hp : AllPt ps) {i : Nat} (hi : i < (forms ps).length) {b : Int} (hb : 248 ≤ b) : fin (bent (forms ps) i b) ≤ i ∧ chkE (bent (forms ps) i b) = 11 := by
  obtain ⟨j, hj, _, h1, h2⟩ := cut_forms hp (i : Int) (by omega)
  have hjl : j < ps.length := by
    rcases Nat.lt_or_ge j ps.length with h | h
    · exact h
    · rw [List.take_of_length_le h] at h1; omega
  have h3 := h2 hjl
  have hx := getD_pt hp hjl
  obtain ⟨d, hd⟩ : ∃ d, i = (forms (ps.take j)).length + d := ⟨i - (forms (ps.take j)).length, by omega⟩
  have hd2 : (d : Int) < szP (ps.getD j 0) := by omega
  have hfl := form_length' (ps.getD j 0)
  have ht : (forms ps).take i = forms (ps.take j) ++ (form (ps.getD j 0)).take d := by
    conv => lhs; rw [split_at hjl]
    rw [forms_append, forms_cons, hd, List.take_length_add_append, List.take_append_of_le_length (by omega)]
  have hbt : bent (forms ps) i b = forms (ps.take j) ++ (((form (ps.getD j 0)).take d ++ [b]) ++ (forms ps).drop (i + 1)) := by
    unfold bent
    rw [ht]
    simp only [List.append_assoc]
  have hq : rd (((form (ps.getD j 0)).take d ++ [b]) ++ (forms ps).drop (i + 1)) = (0, 0, 11) := by
    refine rd_bad_app ?_ _
    rcases Nat.eq_zero_or_pos d with rfl | h0
    · exact rd_none (lead_h (by omega))
    · exact (rd_cut hx d h0 hd2).2 b (.inr (by omega))
  have hq2 : (rd (((form (ps.getD j 0)).take d ++ [b]) ++ (forms ps).drop (i + 1))).2.2 ≠ 0 := by rw [hq]; decide
  rw [hbt]
  refine ⟨?_, ?_⟩
  · rw [fin_stop (hp.take j) hq2]; omega
  · rw [chkE_stop (hp.take j) hq2 (by simp), hq]
/-- The three numbers that are no code points. -/
def badL (n p : Int) : List Int := [min n (-1), max n 1114112, 55296 + p]
theorem badL_no (n p : Int) (h0 : 0 ≤ p) (h1 : p < 2048) (k : Nat) (hk : k < 3) : isPt ((badL n p).getD k 0) = false ∧ ((badL n p).getD k 0 < 65536 ∨ 1114111 < (badL n p).getD k 0) := by
  rcases (by omega : k = 0 ∨ k = 1 ∨ k = 2) with rfl | rfl | rfl
  · have : ((badL n p).getD 0 0) = min n (-1) := rfl
    rw [this]
    exact ⟨isPt_not (by omega), by omega⟩
  · have : ((badL n p).getD 1 0) = max n 1114112 := rfl
    rw [this]
    exact ⟨isPt_not (by omega), by omega⟩
  · have : ((badL n p).getD 2 0) = 55296 + p := rfl
    rw [this]
    exact ⟨isPt_not (by omega), by omega⟩
end Go.Proofs.YtdgpbminmlpebaaDoor.Mt
