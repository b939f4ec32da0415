/-
  Plain mathematics on the code points of a string, one after the other.
-/
import Derived.Test.YtlhekeokognhmaaGreatDoorMath
namespace Go.Proofs.YtlhekeokognhmaaGreatDoor.Mt
theorem cont_bd {x lo hi y : Int} {t : List Int} (h : cont x lo hi t = some y) (hx : 0 ≤ x) (hlo : 128 ≤ lo ∨ t = []) : 0 ≤ y := by
  induction t generalizing x lo hi with
  | nil => simp only [cont, Option.some.injEq] at h; omega
  | cons c t ih =>
    by_cases hc : lo ≤ c ∧ c ≤ hi
    · rw [cont_in hc.1 hc.2] at h
      have : 128 ≤ lo := by rcases hlo with h | h; exact h; cases h
      exact ih h (by omega) (.inl (by omega))
    · rw [cont_out hc] at h; cases h
/-- A code point that was read has some bytes, and they are there. -/
theorem rd_ok_bd {l : List Int} (h0 : ∀ c ∈ l, 0 ≤ c ∧ c ≤ 255) (h : (rd l).2.2 = 0) : 1 ≤ (rd l).2.1 ∧ (rd l).2.1 ≤ 4 ∧ (rd l).2.1 ≤ l.length := by
  cases l with
  | nil => simp [rd] at h
  | cons c t =>
    have hc := h0 c (by simp)
    cases hl : lead c with
    | none => rw [rd_none hl] at h; cases h
    | some r =>
      obtain ⟨m, lo, hi, n⟩ := r
      obtain ⟨_, _, _, _, h5, h6, _⟩ := lead_bd hc.1 hl
      cases hk : cont (c - m) lo hi (t.take (n - 1).toNat) with
      | none => rw [rd_bad hl hk] at h; cases h
      | some x =>
        by_cases hn : (t.length : Int) + 1 < n
        · rw [rd_short hl hk hn] at h; cases h
        · rw [rd_ok hl hk hn]
          simp only [List.length_cons]
          omega
/-- The code points from an offset on, each with the offset behind it. -/
def steps (l : List Int) : Nat → Nat → List (Int × Int)
  | 0, _ => []
  | f + 1, a => if (rd (l.drop a)).2.2 = 0 then ((a : Int) + (rd (l.drop a)).2.1, (rd (l.drop a)).1) :: steps l f (a + (rd (l.drop a)).2.1.toNat) else []
def allSteps (l : List Int) : List (Int × Int) := steps l (l.length + 1) 0
theorem steps_go {l : List Int} {f a : Nat} (h : (rd (l.drop a)).2.2 = 0) : steps l (f + 1) a = ((a : Int) + (rd (l.drop a)).2.1, (rd (l.drop a)).1) :: steps l f (a + (rd (l.drop a)).2.1.toNat) := if_pos h
theorem steps_stop {l : List Int} {f a : Nat} (h : ¬ (rd (l.drop a)).2.2 = 0) : steps l (f + 1) a = [] := if_neg h
/-- The first offset at which bytes are not good. -/
def finF (l : List Int) : Nat → Nat → Nat
  | 0, a => a
  | f + 1, a => if (rd (l.drop a)).2.2 = 0 then finF l f (a + (rd (l.drop a)).2.1.toNat) else a
def fin (l : List Int) : Nat := finF l (l.length + 1) 0
/-- The last of some offsets; the first one if there are none. -/
def lastOf (a : Int) : List (Int × Int) → Int
  | [] => a
  | p :: t => lastOf p.1 t
theorem lastOf_snoc (a : Int) (l : List (Int × Int)) (p : Int × Int) : lastOf a (l ++ [p]) = p.1 := by
  induction l generalizing a with
  | nil => rfl
  | cons q t ih => exact ih q.1
theorem lastOf_steps (l : List Int) (h0 : ∀ c ∈ l, 0 ≤ c ∧ c ≤ 255) (f a : Nat) : lastOf (a : Int) (steps l f a) = (finF l f a : Int) := by
  induction f generalizing a with
  | zero => rfl
  | succ f ih =>
    by_cases h : (rd (l.drop a)).2.2 = 0
    · have := rd_ok_bd (fun c hc => h0 c (List.mem_of_mem_drop hc)) h
      rw [steps_go h]
      show lastOf ((a : Int) + (rd (l.drop a)).2.1) _ = _
      rw [show (a : Int) + (rd (l.drop a)).2.1 = ((a + (rd (l.drop a)).2.1.toNat : Nat) : Int) from by omega, ih]
      show _ = ((if (rd (l.drop a)).2.2 = 0 then finF l f (a + (rd (l.drop a)).2.1.toNat) else a : Nat) : Int)
      rw [if_pos h]
    · rw [steps_stop h]
      show (a : Int) = ((if (rd (l.drop a)).2.2 = 0 then finF l f (a + (rd (l.drop a)).2.1.toNat) else a : Nat) : Int)
      rw [if_neg h]
theorem lastOf_all (l : List Int) (h0 : ∀ c ∈ l, 0 ≤ c ∧ c ≤ 255) : lastOf 0 (allSteps l) = (fin l : Int) := lastOf_steps l h0 _ 0
theorem finF_le (l : List Int) (h0 : ∀ c ∈ l, 0 ≤ c ∧ c ≤ 255) (f a : Nat) (ha : a ≤ l.length) : finF l f a ≤ l.length := by
  induction f generalizing a with
  | zero => exact ha
  | succ f ih =>
    show (if (rd (l.drop a)).2.2 = 0 then finF l f (a + (rd (l.drop a)).2.1.toNat) else a) ≤ l.length
    split
    · next h =>
      have := rd_ok_bd (fun c hc => h0 c (List.mem_of_mem_drop hc)) h
      rw [List.length_drop] at this
      exact ih _ (by omega)
    · exact ha
theorem fin_le (l : List Int) (h0 : ∀ c ∈ l, 0 ≤ c ∧ c ≤ 255) : fin l ≤ l.length := finF_le l h0 _ 0 (Nat.zero_le _)
/-- What Check answers. -/
def chkE (l : List Int) : Int := if fin l = l.length then 0 else (rd (l.drop (fin l))).2.2
/-- The end of the longest beginning of at most n bytes. -/
def cutEnd (l : List Int) (n : Int) : Int := lastOf 0 ((allSteps l).takeWhile fun p => decide (p.1 ≤ n))
theorem takeWhile_of_prefix {α : Type} {q : α → Bool} {xs pre : List α} {x : α} (h : (pre ++ [x]) <+: xs) (h1 : ∀ y ∈ pre, q y = true) (h2 : q x = false) : xs.takeWhile q = pre := by
  obtain ⟨r, rfl⟩ := h
  rw [List.append_assoc, List.takeWhile_append_of_pos h1]
  simp [h2]
theorem takeWhile_of_all {α : Type} {q : α → Bool} {xs : List α} (h : ∀ y ∈ xs, q y = true) : xs.takeWhile q = xs := by
  have := List.takeWhile_append_of_pos (l₂ := []) h
  simpa using this
theorem steps_le (l : List Int) (h0 : ∀ c ∈ l, 0 ≤ c ∧ c ≤ 255) (f a : Nat) (ha : a ≤ l.length) : ∀ p ∈ steps l f a, (a : Int) < p.1 ∧ p.1 ≤ l.length := by
  induction f generalizing a with
  | zero => intro p hp; cases hp
  | succ f ih =>
    intro p hp
    by_cases h : (rd (l.drop a)).2.2 = 0
    · have hb := rd_ok_bd (fun c hc => h0 c (List.mem_of_mem_drop hc)) h
      rw [List.length_drop] at hb
      rw [steps_go h] at hp
      rcases List.mem_cons.1 hp with rfl | hp
      · dsimp only; omega
      · have := ih (a + (rd (l.drop a)).2.1.toNat) (by omega) p hp
        omega
    · rw [steps_stop h] at hp; cases hp
theorem lastOf_mem (a : Int) (xs : List (Int × Int)) : lastOf a xs = a ∨ ∃ p ∈ xs, lastOf a xs = p.1 := by
  induction xs generalizing a with
  | nil => exact .inl rfl
  | cons p t ih =>
    right
    rcases ih p.1 with h | ⟨q, hq, h⟩
    · exact ⟨p, by simp, h⟩
    · exact ⟨q, by simp [hq], h⟩
theorem cutEnd_bd (l : List Int) (h0 : ∀ c ∈ l, 0 ≤ c ∧ c ≤ 255) (n : Int) : 0 ≤ cutEnd l n ∧ cutEnd l n ≤ l.length := by
  unfold cutEnd
  rcases lastOf_mem 0 ((allSteps l).takeWhile fun p => decide (p.1 ≤ n)) with h | ⟨p, hp, h⟩
  · rw [h]; omega
  · rw [h]
    have := steps_le l h0 (l.length + 1) 0 (Nat.zero_le _) p ((List.takeWhile_sublist _).subset hp)
    omega
end Go.Proofs.YtlhekeokognhmaaGreatDoor.Mt
