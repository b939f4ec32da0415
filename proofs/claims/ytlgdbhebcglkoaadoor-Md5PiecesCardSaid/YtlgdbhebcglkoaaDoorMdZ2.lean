/-
  Blocks of bytes that are put one behind the other.
-/
import Derived.Test.YtlgdbhebcglkoaaDoorMdZ
namespace Go.Proofs.YtlgdbhebcglkoaaDoor
open Go.RowKit Go.Shelf
theorem fulls_app (X D : List Int) (f k : Nat) (hX : X.length = 64 * f) (hk : 64 * k ≤ D.length) : fulls (X ++ D) (f + k) = fulls X f ++ fulls D k := by
  unfold fulls
  rw [List.range_add, List.map_append, List.map_map]
  congr 1
  · apply List.map_congr_left
    intro i hi
    have hi := List.mem_range.1 hi
    rw [blk_full (X ++ D) i (by rw [List.length_append]; omega), blk_full X i (by omega), List.drop_append_of_le_length (by omega), List.take_append_of_le_length (by rw [List.length_drop]; omega)]
  · apply List.map_congr_left
    intro i hi
    have hi := List.mem_range.1 hi
    show (blk (X ++ D) (64 * (f + i + 1)), 64) = _
    rw [blk_full (X ++ D) (f + i) (by rw [List.length_append]; omega), blk_full D i (by omega), show 64 * (f + i) = X.length + 64 * i from by omega, ← List.drop_drop, List.drop_left]
theorem runB_app (s : St) (a b : List (List Int × Nat)) : runB s (a ++ b) = runB (runB s a) b := by simp [runB]
theorem allY_whole (D : List Int) (k : Nat) (h : D.length = 64 * k) : allY D = fulls D k := by
  unfold allY
  rw [h, Nat.mul_div_cancel_left _ (by omega), Nat.mul_mod_right, if_neg (by omega), List.append_nil]
/-- The digest of bytes, from what the full blocks of them led to. -/
theorem sum_from (P : List Int) (f : Nat) (hf : P.length / 64 = f) : dig (runB (runB st0 (fulls P f)) (allY (P.drop (64 * f) ++ padL P.length))) = sumL P := by
  have hpl := padL_length P.length
  obtain ⟨k, hk⟩ : ∃ k, (P.drop (64 * f) ++ padL P.length).length = 64 * k := ⟨(P.drop (64 * f) ++ padL P.length).length / 64, by rw [List.length_append, List.length_drop, hpl]; omega⟩
  have hX : (P.take (64 * f)).length = 64 * f := by rw [List.length_take]; omega
  have e : P.take (64 * f) ++ (P.drop (64 * f) ++ padL P.length) = P ++ padL P.length := by rw [← List.append_assoc, List.take_append_drop]
  have h1 : fulls P f = fulls (P.take (64 * f)) f := by
    have := fulls_app (P.take (64 * f)) (P.drop (64 * f)) f 0 hX (by omega)
    rw [List.take_append_drop, Nat.add_zero, fulls_zero, List.append_nil] at this
    exact this
  rw [h1, allY_whole _ k hk, ← runB_app, ← fulls_app _ _ f k hX (by omega), e, sumL]
  congr 2
  rw [allY_whole _ (f + k)]
  have := congrArg List.length e
  rw [List.length_append, hX, hk] at this
  omega
/-- What more bytes make of the state. -/
theorem state_more (P Q : List Int) (f k : Nat) (hf : P.length / 64 = f) (hk : (P.drop (64 * f) ++ Q).length / 64 = k) : runB (runB st0 (fulls P f)) (fulls (P.drop (64 * f) ++ Q) k) = runB st0 (fulls (P ++ Q) (f + k)) ∧ (P ++ Q).length / 64 = f + k ∧ (P ++ Q).drop (64 * (f + k)) = (P.drop (64 * f) ++ Q).drop (64 * k) := by
  have hX : (P.take (64 * f)).length = 64 * f := by rw [List.length_take]; omega
  have e : P.take (64 * f) ++ (P.drop (64 * f) ++ Q) = P ++ Q := by rw [← List.append_assoc, List.take_append_drop]
  have h1 : fulls P f = fulls (P.take (64 * f)) f := by
    have := fulls_app (P.take (64 * f)) (P.drop (64 * f)) f 0 hX (by omega)
    rw [List.take_append_drop, Nat.add_zero, fulls_zero, List.append_nil] at this
    exact this
  refine ⟨?_, ?_, ?_⟩
  · rw [h1, ← runB_app, ← fulls_app _ _ f k hX (by omega), e]
  · rw [List.length_append, List.length_drop] at hk
    rw [List.length_append]
    omega
  · rw [← e, show 64 * (f + k) = (P.take (64 * f)).length + 64 * k from by omega, ← List.drop_drop, List.drop_left]
end Go.Proofs.YtlgdbhebcglkoaaDoor
