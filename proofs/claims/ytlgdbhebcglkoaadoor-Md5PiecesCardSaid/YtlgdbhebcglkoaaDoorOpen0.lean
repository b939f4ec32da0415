/-
  How an argument that is a slice of integers is opened: nil, empty or not.
-/
import Derived.Test.YtlgdbhebcglkoaaDoorLaw0
import Derived.Test.YtlgdbhebcglkoaaDoorWords
import Derived.Deep.Strs
namespace Go.Proofs.YtlgdbhebcglkoaaDoor
open Go.ChangeShapes Go.WideShapes Go.ChangeAt Go.RowKit Go.WideMaps Go.WideElems
section
variable {H : Type} {enc : TypeId × Value → H} {W : World} {base : Nat}
theorem open_rd {k : IntKind} {t e : TypeId} {v : Value} {d : DataW H} {p : List MemPlace} (ht : Tryd.prog.underlying t = some (.slice e)) (he : Tryd.prog.underlying e = some (.int k)) (hc : Tryd.prog.cellsOf e = 1)
    (hval : Value.okWide Tryd.prog W .any base t v) (hd : DataW.Trod enc Tryd.prog W 0 (fun _ => true) true t v d p) :
    ∃ (A : Option Addr) (n c : Nat) (zs : List Int), v = .slice A n c ∧ n ≤ c ∧ c ≤ maxLen ∧ Rd W W.heap.size A n (zs.map (Value.int k)) ∧ (∀ z ∈ zs, (Lit.int k z).wf = true) := by
  obtain ⟨a0, len, cap, rfl⟩ := okWide_slice ht hval
  obtain ⟨fuel, hf⟩ := hd
  rcases open_ints ht he hc hf with ⟨hcs, hx⟩ | ⟨a, len', cap', zs, hcs, _, hl, hm, hz, hx, hcell, hwz⟩
  · have e : Value.slice a0 len cap = .slice none 0 0 := List.head_eq_of_cons_eq (show [Value.slice a0 len cap] = [Value.slice none 0 0] from hcs)
    injection e with e1 e2 e3
    subst e1 e2 e3
    exact ⟨none, 0, 0, [], rfl, Nat.le_refl _, by simp [maxLen], Rd.nil, (fun _ h => by cases h)⟩
  · have e : Value.slice a0 len cap = .slice (some a) len' cap' := List.head_eq_of_cons_eq (show [Value.slice a0 len cap] = [Value.slice (some a) len' cap'] from hcs)
    injection e with e1 e2 e3
    subst e1 e2 e3
    simp only [if_true] at hz
    refine ⟨some a, len, cap, zs.take len, rfl, hl, hm, ⟨by simp [hz]; omega, fun hn => ⟨a, rfl, ?_, ?_⟩⟩, fun z hz => hwz z (List.mem_of_mem_take hz)⟩
    · have h0 := hcell 0 (by omega)
      have ha : a.add 0 = a := by unfold Addr.add; simp
      rw [ha] at h0
      unfold World.cell? at h0
      rcases Nat.lt_or_ge a.block W.heap.size with h1 | h1
      · exact h1
      · rw [Array.getElem?_eq_none h1] at h0; cases h0
    · intro j u hu
      have hj : j < len ∧ j < zs.length := by
        have := (List.getElem?_eq_some_iff.1 hu).1
        simp at this
        omega
      rw [hcell j hj.2]
      simp [hj.1, hj.2] at hu
      simp [List.getD, hj.2, hu]
theorem open_strs {t e : TypeId} {v : Value} {d : DataW H} {p : List MemPlace} (ht : Tryd.prog.underlying t = some (.slice e)) (he : Tryd.prog.underlying e = some .string) (hc : Tryd.prog.cellsOf e = 1)
    (hval : Value.okWide Tryd.prog W .any base t v) (hd : DataW.Trod enc Tryd.prog W 0 (fun _ => true) true t v d p) :
    ∃ (A : Option Addr) (n c : Nat) (ls : List ByteArray), v = .slice A n c ∧ n ≤ c ∧ c ≤ maxLen ∧ Rd W W.heap.size A n (strs ls) ∧ (∀ s ∈ ls, s.size ≤ 9223372036854775807) := by
  obtain ⟨a0, len, cap, rfl⟩ := okWide_slice ht hval
  obtain ⟨fuel, hf⟩ := hd
  rcases Go.Deep.open_strs ht he hc hf with ⟨hcs, hx⟩ | ⟨a, len', cap', m, Sx, hcs, _, hl, hm, hmm, hx, hcell⟩
  · have e : Value.slice a0 len cap = .slice none 0 0 := List.head_eq_of_cons_eq (show [Value.slice a0 len cap] = [Value.slice none 0 0] from hcs)
    injection e with e1 e2 e3
    subst e1 e2 e3
    exact ⟨none, 0, 0, [], rfl, Nat.le_refl _, by simp [maxLen], Rd.nil, (fun _ h => by cases h)⟩
  · have e : Value.slice a0 len cap = .slice (some a) len' cap' := List.head_eq_of_cons_eq (show [Value.slice a0 len cap] = [Value.slice (some a) len' cap'] from hcs)
    injection e with e1 e2 e3
    subst e1 e2 e3
    simp only [if_true] at hmm
    subst hmm
    refine ⟨some a, len, m, (List.range len).map Sx, rfl, hl, hm, ⟨by simp [strs], fun hn => ⟨a, rfl, ?_, ?_⟩⟩, ?_⟩
    · have h0 := (hcell 0 (by omega)).1
      have ha : a.add 0 = a := by unfold Addr.add; simp
      rw [ha] at h0
      unfold World.cell? at h0
      rcases Nat.lt_or_ge a.block W.heap.size with h1 | h1
      · exact h1
      · rw [Array.getElem?_eq_none h1] at h0; cases h0
    · intro j u hu
      have hj : j < len := by
        have := (List.getElem?_eq_some_iff.1 hu).1
        simpa [strs] using this
      rw [(hcell j (by omega)).1, ← hu]
      simp [strs, hj]
    · intro s hs
      obtain ⟨j, hj, rfl⟩ := List.mem_map.1 hs
      have := (hcell j (by have := List.mem_range.1 hj; omega)).2
      unfold maxLen at this
      omega
end
end Go.Proofs.YtlgdbhebcglkoaaDoor
