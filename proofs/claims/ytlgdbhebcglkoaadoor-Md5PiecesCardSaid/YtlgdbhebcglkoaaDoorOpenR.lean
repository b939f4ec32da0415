/-
  How an argument that is a slice of slices of integers is opened.
-/
import Derived.Test.YtlgdbhebcglkoaaDoorOpen0
import Derived.Deep.Matrix
namespace Go.Proofs.YtlgdbhebcglkoaaDoor
open Go.ChangeShapes Go.WideShapes Go.ChangeAt Go.RowKit
/-- A slice in a cell: its address, its length, its capacity; and its numbers. -/
abbrev RowV := Option Addr × Nat × Nat × List Int
def rowv (r : RowV) : Value := .slice r.1 r.2.1 r.2.2.1
section
variable {H : Type} {enc : TypeId × Value → H} {W : World} {base : Nat}
theorem open_rows {k : IntKind} {t e q : TypeId} {v : Value} {d : DataW H} {p : List MemPlace} (ht : Tryd.prog.underlying t = some (.slice e)) (he : Tryd.prog.underlying e = some (.slice q)) (hq : Tryd.prog.underlying q = some (.int k)) (ce : Tryd.prog.cellsOf e = 1) (cq : Tryd.prog.cellsOf q = 1)
    (hval : Value.okWide Tryd.prog W .any base t v) (hd : DataW.Trod enc Tryd.prog W 0 (fun _ => true) true t v d p) :
    ∃ (A : Option Addr) (n c : Nat) (rs : List RowV), v = .slice A n c ∧ n ≤ c ∧ c ≤ maxLen ∧ Rd W W.heap.size A n (rs.map rowv) ∧
      (∀ r ∈ rs, r.2.1 ≤ r.2.2.1 ∧ r.2.2.1 ≤ maxLen ∧ Rd W W.heap.size r.1 r.2.1 (r.2.2.2.map (Value.int k)) ∧ ∀ z ∈ r.2.2.2, (Lit.int k z).wf = true) := by
  have lies : ∀ {a : Addr} {u : Value}, W.cell? (a.add 0) = some u → a.block < W.heap.size := by
    intro a u h0
    have ha : a.add 0 = a := by unfold Addr.add; simp
    rw [ha] at h0
    unfold World.cell? at h0
    rcases Nat.lt_or_ge a.block W.heap.size with h1 | h1
    · exact h1
    · rw [Array.getElem?_eq_none h1] at h0; cases h0
  obtain ⟨a0, len, cap, rfl⟩ := okWide_slice ht hval
  obtain ⟨fuel, hf⟩ := hd
  rcases Go.Deep.open_int_rows ht he hq ce cq hf with ⟨hcs, hx⟩ | ⟨a, len', cap', A, L, C, Z, hcs, _, hl, hm, hx, hcell⟩
  · have e : Value.slice a0 len cap = .slice none 0 0 := List.head_eq_of_cons_eq (show [Value.slice a0 len cap] = [Value.slice none 0 0] from hcs)
    injection e with e1 e2 e3
    subst e1 e2 e3
    exact ⟨none, 0, 0, [], rfl, Nat.le_refl _, by simp [maxLen], Rd.nil, (fun _ h => by cases h)⟩
  · have e : Value.slice a0 len cap = .slice (some a) len' cap' := List.head_eq_of_cons_eq (show [Value.slice a0 len cap] = [Value.slice (some a) len' cap'] from hcs)
    injection e with e1 e2 e3
    subst e1 e2 e3
    refine ⟨some a, len, cap, (List.range len).map fun i => (A i, L i, C i, (Z i).take (L i)), rfl, hl, hm, ⟨by simp, fun hn => ⟨a, rfl, lies (hcell 0 (by omega)).1, ?_⟩⟩, ?_⟩
    · intro j u hu
      have hj : j < len := by
        have := (List.getElem?_eq_some_iff.1 hu).1
        simpa using this
      rw [(hcell j (by omega)).1, ← hu]
      simp [rowv, hj]
    · intro r hr
      obtain ⟨j, hj, rfl⟩ := List.mem_map.1 hr
      obtain ⟨_, h1, h2, h3, h4, h5, h6⟩ := hcell j (by have := List.mem_range.1 hj; omega)
      refine ⟨h1, h2, ⟨by simp [h3]; omega, fun hn => ?_⟩, fun z hz => h4 z (List.mem_of_mem_take hz)⟩
      have hn : 0 < L j := hn
      rcases hA : A j with _ | a'
      · have := h5 hA
        omega
      · obtain ⟨_, hc⟩ := h6 a' hA
        refine ⟨a', rfl, lies (hc 0 (by omega)), fun i u hu => ?_⟩
        have hi := (List.getElem?_eq_some_iff.1 hu).1
        simp only [List.length_map, List.length_take, h3] at hi
        rw [hc i (by omega)]
        have hiz : i < (Z j).length := by omega
        rw [List.getElem?_map, List.getElem?_take, if_pos (by omega), List.getElem?_eq_getElem hiz, Option.map_some] at hu
        rw [← hu, List.getD_eq_getElem?_getD, List.getElem?_eq_getElem hiz, Option.getD_some]
end
end Go.Proofs.YtlgdbhebcglkoaaDoor
