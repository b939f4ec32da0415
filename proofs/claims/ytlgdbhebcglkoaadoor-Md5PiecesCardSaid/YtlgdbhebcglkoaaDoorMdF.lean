/-
  The blocks of bytes, as the iterator blocks of package md5 yields them.
-/
import Derived.Test.YtlgdbhebcglkoaaDoorMdM
import Derived.Test.YtlgdbhebcglkoaaDoorWords
namespace Go.Proofs.YtlgdbhebcglkoaaDoor
open Go.RowKit
/-- What lies in the block after k bytes. -/
def blk (D : List Int) (k : Nat) : List Int := (List.range 64).map fun j => if j < k % 64 then D.getD (k - k % 64 + j) 0 else if 64 ≤ k then D.getD (k - k % 64 - 64 + j) 0 else 0
theorem blk_length (D : List Int) (k : Nat) : (blk D k).length = 64 := by simp [blk]
theorem blk_zero (D : List Int) : blk D 0 = List.replicate 64 0 := by
  unfold blk
  simp
  rfl
theorem blk_get (D : List Int) (k j : Nat) (hj : j < 64) : (blk D k)[j]? = some (if j < k % 64 then D.getD (k - k % 64 + j) 0 else if 64 ≤ k then D.getD (k - k % 64 - 64 + j) 0 else 0) := by
  unfold blk
  rw [List.getElem?_map, List.getElem?_range hj]
  rfl
theorem blk_none (D : List Int) (k j : Nat) (hj : ¬ j < 64) : (blk D k)[j]? = none := by
  rw [List.getElem?_eq_none]
  rw [blk_length]; omega
theorem blk_bts (D : List Int) (h : Bts D) (k : Nat) : Bts (blk D k) := by
  intro c hc
  obtain ⟨j, _, rfl⟩ := List.mem_map.1 hc
  split
  · exact h.getD _
  · split
    · exact h.getD _
    · omega
/-- More bytes. -/
theorem blk_add (D : List Int) (k m : Nat) (h : k % 64 + m ≤ 64) (hm : 0 < m) (hl : k + m ≤ D.length) : splice (blk D k) (k % 64) ((D.drop k).take m) = blk D (k + m) := by
  have hc : ((D.drop k).take m).length = m := by simp; omega
  have hk6 : ((blk D k).take (k % 64)).length = k % 64 := by rw [List.length_take, blk_length]; omega
  apply List.ext_getElem?
  intro j
  unfold splice
  by_cases hj : j < 64
  · rw [blk_get _ _ _ hj]
    by_cases h1 : j < k % 64
    · rw [List.getElem?_append_left (by rw [hk6]; omega), List.getElem?_take, if_pos h1, blk_get _ _ _ hj, if_pos h1]
      by_cases h2 : j < (k + m) % 64
      · rw [if_pos h2]
        congr 2; omega
      · rw [if_neg h2, if_pos (by omega)]
        congr 2; omega
    · rw [List.getElem?_append_right (by rw [hk6]; omega), hk6]
      by_cases h2 : j - k % 64 < m
      · rw [List.getElem?_append_left (by omega), List.getElem?_take, if_pos h2, List.getElem?_drop]
        have hd : ∀ i, i < D.length → D[i]? = some (D.getD i 0) := fun i hi => by simp [hi]
        rw [hd _ (by omega)]
        by_cases h3 : j < (k + m) % 64
        · rw [if_pos h3]
          congr 2; omega
        · rw [if_neg h3, if_pos (by omega)]
          congr 2; omega
      · rw [List.getElem?_append_right (by omega), List.getElem?_drop, hc, show k % 64 + m + (j - k % 64 - m) = j from by omega, blk_get _ _ _ hj, if_neg h1, if_neg (show ¬ j < (k + m) % 64 from by omega)]
        by_cases h4 : 64 ≤ k
        · rw [if_pos h4, if_pos (by omega)]
          congr 2; omega
        · rw [if_neg h4, if_neg (by omega)]
  · rw [blk_none _ _ _ hj]
    rw [List.getElem?_eq_none]
    simp only [List.length_append, List.length_take, List.length_drop, blk_length]
    omega
theorem blk_full (D : List Int) (i : Nat) (h : 64 * (i + 1) ≤ D.length) : blk D (64 * (i + 1)) = (D.drop (64 * i)).take 64 := by
  apply List.ext_getElem?
  intro j
  by_cases hj : j < 64
  · rw [blk_get _ _ _ hj, if_neg (by omega), if_pos (by omega), List.getElem?_take, if_pos hj, List.getElem?_drop]
    have hd : ∀ i, i < D.length → D[i]? = some (D.getD i 0) := fun i hi => by simp [hi]
    rw [hd _ (by omega)]
    congr 2; omega
  · rw [blk_none _ _ _ hj, List.getElem?_eq_none]
    simp
    omega
/-- What is yielded for the first m blocks, and for all bytes. -/
def fulls (D : List Int) (m : Nat) : List (List Int × Nat) := (List.range m).map fun i => (blk D (64 * (i + 1)), 64)
theorem fulls_succ (D : List Int) (m : Nat) : fulls D (m + 1) = fulls D m ++ [(blk D (64 * (m + 1)), 64)] := by
  unfold fulls
  rw [List.range_succ, List.map_append]
  rfl
theorem fulls_zero (D : List Int) : fulls D 0 = [] := rfl
def allY (D : List Int) : List (List Int × Nat) := fulls D (D.length / 64) ++ (if 0 < D.length % 64 then [(blk D D.length, D.length % 64)] else [])
theorem fulls_pre (D : List Int) (m : Nat) (h : m ≤ D.length / 64) : fulls D m <+: allY D := by
  have h1 : fulls D m <+: fulls D (D.length / 64) := by
    obtain ⟨d, hd⟩ : ∃ d, D.length / 64 = m + d := ⟨D.length / 64 - m, by omega⟩
    rw [hd]
    unfold fulls
    rw [List.range_add, List.map_append]
    exact List.prefix_append _ _
  exact h1.trans (List.prefix_append _ _)
theorem splice_u8s (L cs : List Int) (off : Nat) : splice (u8s L) off (u8s cs) = u8s (splice L off cs) := by
  unfold splice u8s
  simp
theorem made64 : #[Value.int .u8 0] = #[Value.int .u8 0] := rfl
end Go.Proofs.YtlgdbhebcglkoaaDoor
