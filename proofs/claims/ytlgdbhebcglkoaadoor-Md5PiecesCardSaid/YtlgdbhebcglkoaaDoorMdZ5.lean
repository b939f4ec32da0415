/-
  What the blocks of more bytes make of a digest.
-/
import Derived.Test.YtlgdbhebcglkoaaDoorMdZ2
namespace Go.Proofs.YtlgdbhebcglkoaaDoor
open Go.RowKit Go.Shelf
/-- A full block goes into the state; what is left is the rest. -/
def updD (c : St × List Int) (x : List Int × Nat) : St × List Int := if x.2 = 64 then (stp c.1 x.1, c.2) else (c.1, x.1)
def foldD (c : St × List Int) (l : List (List Int × Nat)) : St × List Int := l.foldl updD c
theorem foldD_snoc (c : St × List Int) (l : List (List Int × Nat)) (x : List Int × Nat) : foldD c (l ++ [x]) = updD (foldD c l) x := by simp [foldD]
theorem foldD_fulls (s : St) (R D : List Int) : ∀ k, foldD (s, R) (fulls D k) = (runB s (fulls D k), R)
  | 0 => rfl
  | k + 1 => by rw [fulls_succ, foldD_snoc, foldD_fulls s R D k, runB_snoc]; rfl
theorem foldD_all (s : St) (R D : List Int) : foldD (s, R) (allY D) = (runB s (fulls D (D.length / 64)), if 0 < D.length % 64 then blk D D.length else R) := by
  unfold allY
  by_cases h : 0 < D.length % 64
  · rw [if_pos h, if_pos h, foldD_snoc, foldD_fulls]
    unfold updD
    rw [if_neg (by show ¬ D.length % 64 = 64; omega)]
  · rw [if_neg h, if_neg h, List.append_nil, foldD_fulls]
theorem foldD_len (s : St) (R D : List Int) (hR : R.length = 64) : ∀ pre, pre <+: allY D → (foldD (s, R) pre).2.length = 64 := by
  intro pre hp
  have key : ∀ (l : List (List Int × Nat)) (c : St × List Int), c.2.length = 64 → (∀ x ∈ l, x.1.length = 64) → (foldD c l).2.length = 64 := by
    intro l
    induction l with
    | nil => exact fun c hc _ => hc
    | cons x l ih =>
      intro c hc hx
      show (foldD (updD c x) l).2.length = 64
      refine ih _ ?_ (fun y hy => hx y (List.mem_cons_of_mem _ hy))
      unfold updD
      split
      · exact hc
      · exact hx x (List.mem_cons_self ..)
  refine key pre (s, R) hR fun x hx => ?_
  have hx' := hp.subset hx
  unfold allY at hx'
  rcases List.mem_append.1 hx' with h | h
  · obtain ⟨i, _, rfl⟩ := List.mem_map.1 h
    exact blk_length _ _
  · split at h
    · obtain rfl := List.mem_singleton.1 h
      exact blk_length _ _
    · cases h
theorem blk_rest (D : List Int) (h : 0 < D.length % 64) : (blk D D.length).take (D.length % 64) = D.drop (64 * (D.length / 64)) := by
  apply List.ext_getElem?
  intro j
  rw [List.getElem?_take, List.getElem?_drop]
  by_cases hj : j < D.length % 64
  · rw [if_pos hj, blk_get _ _ _ (by omega), if_pos hj, List.getElem?_eq_getElem (by omega), List.getD_eq_getElem?_getD, List.getElem?_eq_getElem (by omega)]
    simp only [Option.getD_some]
    congr 1
    congr 1
    omega
  · rw [if_neg hj, List.getElem?_eq_none (by omega)]
theorem foldD_rest (s : St) (R D : List Int) : (foldD (s, R) (allY D)).2.take (D.length % 64) = D.drop (64 * (D.length / 64)) := by
  rw [foldD_all]
  by_cases h : 0 < D.length % 64
  · rw [if_pos h]
    exact blk_rest D h
  · rw [if_neg h, show D.length % 64 = 0 from by omega, List.take_zero, List.drop_of_length_le (by omega)]
theorem foldD_bts (s : St) (R D : List Int) (hR : Bts R) (hD : Bts D) : Bts (foldD (s, R) (allY D)).2 := by
  rw [foldD_all]
  show Bts (if 0 < D.length % 64 then blk D D.length else R)
  split
  · exact blk_bts D hD _
  · exact hR
end Go.Proofs.YtlgdbhebcglkoaaDoor
