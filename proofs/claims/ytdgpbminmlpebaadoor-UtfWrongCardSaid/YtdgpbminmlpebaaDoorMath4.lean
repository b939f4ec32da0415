/-
  Plain mathematics on strings of code points: written, read back, cut.
-/
import Derived.Test.YtdgpbminmlpebaaDoorMath3
namespace Go.Proofs.YtdgpbminmlpebaaDoor.Mt
/-- All are code points. -/
def AllPt (l : List Int) : Prop := ∀ x ∈ l, isPt x = true
theorem AllPt.tail {x : Int} {l : List Int} (h : AllPt (x :: l)) : AllPt l := fun y hy => h y (by simp [hy])
theorem AllPt.head {x : Int} {l : List Int} (h : AllPt (x :: l)) : isPt x = true := h x (by simp)
/-- The forms of code points, one after the other. -/
def forms (l : List Int) : List Int := l.flatMap form
theorem forms_cons (x : Int) (l : List Int) : forms (x :: l) = form x ++ forms l := by simp [forms]
theorem forms_append (a b : List Int) : forms (a ++ b) = forms a ++ forms b := by simp [forms]
theorem forms_bd {l : List Int} (h : AllPt l) : ∀ c ∈ forms l, 0 ≤ c ∧ c ≤ 255 := by
  intro c hc
  obtain ⟨x, hx, hc⟩ := List.mem_flatMap.1 hc
  exact form_bd (h x hx) c hc
/-- Each code point with the offset behind it. -/
def offs (a : Int) : List Int → List (Int × Int)
  | [] => []
  | x :: t => (a + szP x, x) :: offs (a + szP x) t
theorem offs_snd (a : Int) (l : List Int) : (offs a l).map (·.2) = l := by
  induction l generalizing a with
  | nil => rfl
  | cons x t ih => simp only [offs, List.map_cons, ih]
theorem offs_length (a : Int) (l : List Int) : (offs a l).length = l.length := by
  have := congrArg List.length (offs_snd a l)
  simpa using this
theorem form_pos (x : Int) : 1 ≤ (form x).length ∧ (form x).length ≤ 4 := by have := form_length x; have := szP_bd x; omega
theorem forms_len (l : List Int) : l.length ≤ (forms l).length ∧ (forms l).length ≤ 4 * l.length := by
  induction l with
  | nil => simp [forms]
  | cons x t ih =>
    have := form_pos x
    rw [forms_cons, List.length_append, List.length_cons]
    omega
theorem steps_forms (pre l : List Int) (hl : AllPt l) (f : Nat) (hf : l.length < f) : steps (pre ++ forms l) f pre.length = offs pre.length l ∧ finF (pre ++ forms l) f pre.length = (pre ++ forms l).length := by
  induction l generalizing pre f with
  | nil =>
    obtain ⟨f, rfl⟩ : ∃ g, f = g + 1 := ⟨f - 1, by simp at hf; omega⟩
    have e : (pre ++ forms []).drop pre.length = [] := by simp [forms]
    have h : ¬ (rd ((pre ++ forms []).drop pre.length)).2.2 = 0 := by rw [e]; decide
    exact ⟨steps_stop h, by show (if _ then _ else _) = _; rw [if_neg h]; simp [forms]⟩
  | cons x t ih =>
    obtain ⟨f, rfl⟩ : ∃ g, f = g + 1 := ⟨f - 1, by simp at hf; omega⟩
    have e : (pre ++ forms (x :: t)).drop pre.length = form x ++ forms t := by rw [List.drop_left, forms_cons]
    have hr := rd_form hl.head (forms t)
    rw [← e] at hr
    have h : (rd ((pre ++ forms (x :: t)).drop pre.length)).2.2 = 0 := by rw [hr]
    have hb := szP_bd x
    have hlen : pre.length + (szP x).toNat = (pre ++ form x).length := by rw [List.length_append, form_length']
    have := ih (pre ++ form x) hl.tail f (by simp at hf; omega)
    rw [List.append_assoc, ← forms_cons] at this
    refine ⟨?_, ?_⟩
    · rw [steps_go h, hr]
      dsimp only
      rw [hlen, this.1]
      show _ = (_, x) :: offs ((pre.length : Int) + szP x) t
      rw [show ((pre ++ form x).length : Int) = (pre.length : Int) + szP x from by rw [← hlen]; omega]
    · show (if _ then _ else _) = _
      rw [if_pos h, hr]
      dsimp only
      rw [hlen, this.2]
theorem allSteps_forms {l : List Int} (hl : AllPt l) : allSteps (forms l) = offs 0 l := by
  have := (steps_forms [] l hl ((forms l).length + 1) (by have := forms_len l; omega)).1
  simpa [allSteps] using this
theorem fin_forms {l : List Int} (hl : AllPt l) : fin (forms l) = (forms l).length := by
  have := (steps_forms [] l hl ((forms l).length + 1) (by have := forms_len l; omega)).2
  simpa [fin] using this
theorem chkE_forms {l : List Int} (hl : AllPt l) : chkE (forms l) = 0 := if_pos (fin_forms hl)
theorem finF_stop (l : List Int) (h0 : ∀ c ∈ l, 0 ≤ c ∧ c ≤ 255) (f a : Nat) (ha : a ≤ l.length) (hf : l.length < f + a) : ¬ (rd (l.drop (finF l f a))).2.2 = 0 := by
  induction f generalizing a with
  | zero => omega
  | succ f ih =>
    show ¬ (rd (l.drop (if _ then _ else _))).2.2 = 0
    split
    · next h =>
      have hb := rd_ok_bd (fun c hc => h0 c (List.mem_of_mem_drop hc)) h
      rw [List.length_drop] at hb
      exact ih _ (by omega) (by omega)
    · next h => exact h
theorem chkE_zero {l : List Int} (h0 : ∀ c ∈ l, 0 ≤ c ∧ c ≤ 255) : chkE l = 0 ↔ fin l = l.length := by
  constructor
  · intro h
    unfold chkE at h
    split at h
    · assumption
    · exact absurd h (finF_stop l h0 _ 0 (Nat.zero_le _) (by omega))
  · intro h; exact if_pos h
theorem steps_inv (l : List Int) (h0 : ∀ c ∈ l, 0 ≤ c ∧ c ≤ 255) (f a : Nat) : l.drop a = forms ((steps l f a).map (·.2)) ++ l.drop (finF l f a) ∧ AllPt ((steps l f a).map (·.2)) ∧ steps l f a = offs a ((steps l f a).map (·.2)) := by
  induction f generalizing a with
  | zero => exact ⟨rfl, (fun _ h => by cases h), rfl⟩
  | succ f ih =>
    by_cases h : (rd (l.drop a)).2.2 = 0
    · obtain ⟨h1, h2, h3⟩ := rd_inv (fun c hc => h0 c (List.mem_of_mem_drop hc)) h
      obtain ⟨i1, i2, i3⟩ := ih (a + (rd (l.drop a)).2.1.toNat)
      have hb := szP_bd (rd (l.drop a)).1
      rw [steps_go h]
      refine ⟨?_, ?_, ?_⟩
      · rw [List.map_cons, forms_cons, List.append_assoc]
        show _ = _ ++ (_ ++ l.drop (if _ then _ else _))
        rw [if_pos h, ← i1, ← List.drop_drop]
        exact h2
      · intro y hy
        rcases List.mem_cons.1 hy with rfl | hy
        · exact h1
        · exact i2 y hy
      · rw [List.map_cons]
        show _ = ((a : Int) + szP (rd (l.drop a)).1, _) :: offs ((a : Int) + szP (rd (l.drop a)).1) _
        rw [← h3, show (a : Int) + (rd (l.drop a)).2.1 = ((a + (rd (l.drop a)).2.1.toNat : Nat) : Int) from by omega, ← i3]
    · rw [steps_stop h]
      refine ⟨?_, (fun _ h => by cases h), rfl⟩
      show _ = [] ++ l.drop (if _ then _ else _)
      rw [if_neg h]; rfl
/-- The code points of a string. -/
def pts (l : List Int) : List Int := (allSteps l).map (·.2)
theorem pts_forms {l : List Int} (hl : AllPt l) : pts (forms l) = l := by unfold pts; rw [allSteps_forms hl, offs_snd]
theorem pts_pt {l : List Int} (h0 : ∀ c ∈ l, 0 ≤ c ∧ c ≤ 255) : AllPt (pts l) := (steps_inv l h0 _ 0).2.1
theorem forms_pts {l : List Int} (h0 : ∀ c ∈ l, 0 ≤ c ∧ c ≤ 255) (h : chkE l = 0) : forms (pts l) = l := by
  have h1 := (steps_inv l h0 (l.length + 1) 0).1
  have h2 := (chkE_zero h0).1 h
  unfold fin at h2
  rw [h2, List.drop_length, List.append_nil, List.drop_zero] at h1
  exact h1.symm
theorem allSteps_len (l : List Int) (h0 : ∀ c ∈ l, 0 ≤ c ∧ c ≤ 255) : (allSteps l).length ≤ l.length := by
  have h1 := (steps_inv l h0 (l.length + 1) 0).1
  have := congrArg List.length h1
  rw [List.length_append, List.drop_zero] at this
  have h2 := forms_len ((steps l (l.length + 1) 0).map (·.2))
  rw [List.length_map] at h2
  unfold allSteps
  omega
end Go.Proofs.YtdgpbminmlpebaaDoor.Mt
