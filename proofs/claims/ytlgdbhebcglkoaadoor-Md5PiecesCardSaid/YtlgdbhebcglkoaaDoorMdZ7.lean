/-
  A digest that has taken bytes: New, Write, Sum, Len, Reset.
-/
import Derived.Test.YtlgdbhebcglkoaaDoorMdZ4
namespace Go.Proofs.YtlgdbhebcglkoaaDoor
open Go.RowKit Go.Shelf
/-- Block g is a digest that has taken these bytes. -/
def DInv (g : Nat) (P : List Int) (w : World) : Prop := ∃ s R, DAt g s R P.length w ∧ s = runB st0 (fulls P (P.length / 64)) ∧ R.take (P.length % 64) = P.drop (64 * (P.length / 64)) ∧ Bts R
section
variable {g : Nat} {P : List Int} {w w' : World}
theorem st0_ne : st0 ≠ stZ := by decide
theorem DInv.kept (h : DInv g P w) (k : Kept w w') : DInv g P w' := by
  obtain ⟨s, R, hD, h1, h2, h3⟩ := h
  exact ⟨s, R, hD.kept k, h1, h2, h3⟩
theorem DInv.lt (h : DInv g P w) : g < w.heap.size := by
  obtain ⟨s, R, hD, _⟩ := h
  exact heap_lt hD.1
theorem inv_ne {s : St} (hs : s = runB st0 (fulls P (P.length / 64))) : P.length = 0 → s ≠ stZ := by
  intro h
  rw [hs, h, Nat.zero_div, fulls_zero]
  exact st0_ne
theorem new_inv (w : World) : Calls Tryd.prog 17 #[] w fun e w' => ∃ g, e = .returned (.pointer (some ⟨g, 0, none⟩)) ∧ w.heap.size ≤ g ∧ DInv g [] w' ∧ Kept w w' :=
  (new_any w).mono fun _ _ ⟨g, he, hg, hD, hk⟩ => ⟨g, he, hg, ⟨_, _, hD, rfl, rfl, fun x hx => by obtain rfl := (List.mem_replicate.1 hx).2; omega⟩, hk⟩
theorem len_inv (h : DInv g P w) : Calls Tryd.prog 22 #[.pointer (some ⟨g, 0, none⟩)] w fun e w' => e = .returned (.int .i64 (P.length : Int)) ∧ w = w' := by
  obtain ⟨s, R, hD, h1, h2, h3⟩ := h
  exact len_any hD (inv_ne h1)
theorem reset_inv (h : DInv g P w) : Calls Tryd.prog 18 #[.pointer (some ⟨g, 0, none⟩)] w fun e w' => e = .returned (.int .i64 0) ∧ DInv g [] w' ∧ Below g w w' ∧ (∀ k, k ≠ g → k < w.heap.size → w'.heap[k]? = w.heap[k]?) := by
  obtain ⟨s, R, hD, h1, h2, h3⟩ := h
  exact (reset_any hD (inv_ne h1)).mono fun _ _ ⟨he, hD', hb, hk⟩ => ⟨he, ⟨_, _, hD', rfl, rfl, fun x hx => by obtain rfl := (List.mem_replicate.1 hx).2; omega⟩, hb, hk⟩
theorem sum_inv (h : DInv g P w) (hP : P.length ≤ 1099511627776) (hT : Tab w) : Calls Tryd.prog 20 #[.pointer (some ⟨g, 0, none⟩)] w fun e w' => e = .returned (.tuple #[.agg (u8s (sumL P)).toArray, .int .i64 0]) ∧ Kept w w' := by
  obtain ⟨s, R, hD, h1, h2, h3⟩ := h
  refine (dsum_any hD (inv_ne h1) h3 hP hT).mono fun _ _ ⟨he, hk⟩ => ⟨?_, hk⟩
  rw [he, h2, h1, sum_from P _ rfl]
theorem write_inv (h : DInv g P w) (A : Option Addr) (m cc : Nat) (Q : List Int) (hQ : Bts Q) (hm : P.length + m ≤ 1099511627776) (hcc : m ≤ cc) (hr : Rd w w.heap.size A m (u8s Q)) (hA : ∀ ad, A = some ad → 0 < m → ad.block ≠ g) (hT : Tab w) :
    Calls Tryd.prog 19 #[.pointer (some ⟨g, 0, none⟩), .slice A m cc] w fun e w' => e = .returned (.int .i64 0) ∧ DInv g (P ++ Q) w' ∧ Below g w w' ∧ (∀ k, k ≠ g → k < w.heap.size → w'.heap[k]? = w.heap[k]?) ∧ Tab w' := by
  obtain ⟨s, R, hD, h1, h2, h3⟩ := h
  have hQl : Q.length = m := by have := hr.1; rw [u8s_length] at this; exact this
  refine (write_any hD (inv_ne h1) h3 A m cc Q hQ hm hcc hr hA hT).mono fun _ w' ⟨he, hD', hb, hk⟩ => ⟨he, ?_, hb, hk, tab_but hT hD hk⟩
  rw [h2] at hD'
  obtain ⟨f, hf⟩ : ∃ f, P.length / 64 = f := ⟨_, rfl⟩
  obtain ⟨k, hk⟩ : ∃ k, (P.drop (64 * f) ++ Q).length / 64 = k := ⟨_, rfl⟩
  obtain ⟨e1, e2, e3⟩ := state_more P Q f k hf hk
  rw [hf] at hD' h1
  have hlen : (P ++ Q).length = P.length + m := by rw [List.length_append, hQl]
  have hDl : (P.drop (64 * f) ++ Q).length % 64 = (P ++ Q).length % 64 := by
    rw [List.length_append, List.length_append, List.length_drop]
    omega
  refine ⟨_, _, by rw [hlen]; exact hD', ?_, ?_, foldD_bts _ _ _ h3 ?_⟩
  · rw [foldD_all, hk, h1, e2]
    exact e1
  · rw [← hDl, foldD_rest, hk, e2, e3]
  · intro x hx
    rcases List.mem_append.1 hx with h | h
    · refine h3 x (List.mem_of_mem_take (i := P.length % 64) ?_)
      rw [h2, hf]
      exact h
    · exact hQ x h
end
end Go.Proofs.YtlgdbhebcglkoaaDoor
