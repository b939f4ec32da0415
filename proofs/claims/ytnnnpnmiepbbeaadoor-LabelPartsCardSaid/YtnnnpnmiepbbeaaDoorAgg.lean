/-
  How an argument that is an array of integers is opened.
-/
import Derived.Test.YtnnnpnmiepbbeaaDoorLaw
import Derived.Lib.LaidTab
namespace Go.Proofs.YtnnnpnmiepbbeaaDoor
open Go.ChangeShapes Go.WideShapes Go.ChangeAt Go.RowKit Go.WideMaps Go.WideElems
section
variable {H : Type} {enc : TypeId × Value → H} {W : World} {base : Nat}
set_option maxRecDepth 100000 in
theorem open_agg {k : IntKind} {t e : TypeId} {n : Nat} {v : Value} {d : DataW H} {p : List MemPlace} (ht : Tryd.prog.underlying t = some (.array n e)) (he : Tryd.prog.underlying e = some (.int k)) (hc : Tryd.prog.cellsOf t = n) (hc1 : Tryd.prog.cellsOf e = 1)
    (hval : Value.okWide Tryd.prog W .any base t v) (hd : DataW.Trod enc Tryd.prog W 0 (fun _ => true) true t v d p) :
    ∃ zs : List Int, v = .agg (zs.map (Value.int k)).toArray ∧ zs.length = n ∧ (∀ z ∈ zs, (Lit.int k z).wf = true) := by
  simp only [Value.okWide, ht] at hval
  obtain ⟨cs, rfl, hsz, _⟩ := hval
  rw [hc] at hsz
  obtain ⟨fuel, hf⟩ := hd
  cases fuel with
  | zero => simp [DataW.trod] at hf
  | succ fuel =>
    simp only [DataW.trod, ht, hc, hc1, Value.cells] at hf
    split at hf
    · obtain ⟨xs, hm, _⟩ := Option.map_eq_some_iff.1 hf
      have hall : ∀ i (hi : i < cs.size), ∃ m, cs[i] = .int k m ∧ (Lit.int k m).wf = true := by
        intro i hi
        obtain ⟨b, _, kk⟩ := Lib.mapM_at hm i i (by rw [List.getElem?_range (by omega)])
        have hdt : (cs.toList.drop (i * 1)).take 1 = [cs[i]] := by
          rw [Nat.mul_one, List.drop_eq_getElem_cons (by simpa using hi)]
          simp
        rw [hdt] at kk
        obtain ⟨m, h1, _, h2⟩ := DataW.trod_int he kk
        exact ⟨m, List.head_eq_of_cons_eq h1, h2⟩
      refine ⟨cs.toList.map fun v => match v with | .int _ m => m | _ => 0, ?_, by simpa using hsz, ?_⟩
      · congr 1
        apply Array.ext_getElem?
        intro i
        by_cases hi : i < cs.size
        · obtain ⟨m, h1, _⟩ := hall i hi
          simp [hi, h1]
        · simp [Array.getElem?_eq_none (by omega : cs.size ≤ i)]
      · intro z hz
        obtain ⟨v, hv, rfl⟩ := List.mem_map.1 hz
        obtain ⟨i, hi, rfl⟩ := List.mem_iff_getElem.1 hv
        obtain ⟨m, h1, h2⟩ := hall i (by simpa using hi)
        have : cs.toList[i] = .int k m := by simpa using h1
        rw [this]
        exact h2
    · cases hf
end
end Go.Proofs.YtnnnpnmiepbbeaaDoor
