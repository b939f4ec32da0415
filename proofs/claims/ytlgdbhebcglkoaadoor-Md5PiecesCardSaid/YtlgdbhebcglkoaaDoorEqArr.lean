/-
  Two arrays of integers are compared.
-/
import Derived.ChangeKeysEq
import Derived.Laws.StructEq
import Derived.Test.YtlgdbhebcglkoaaDoorWords
import Derived.Test.YtlgdbhebcglkoaaDoorProg
namespace Go.Proofs.YtlgdbhebcglkoaaDoor
open Go.RowKit
section
variable {P : Program}
theorem run_part_int (w : World) {e : TypeId} {k k' : IntKind} (he : P.underlying e = some (.int k')) {i0 : TypeInfo} (hi0 : P.info? e = some i0) (hs : i0.size = 1) (zs : List Int) (i : Nat) (hi : i < zs.length) :
    (part e (zs.map (Value.int k)).toArray (i * 1)).run P w = .ok (.int k (zs.getD i 0)) w := by
  have hagg : (isAgg e).run P w = .ok false w := by
    unfold isAgg
    rw [Sem.run_bind, run_underlying he w]
    simp
  simp [part, Sem.run_bind, hagg, sizeOf, typeInfo, hi0, hs, hi]
theorem run_items_ints (w : World) (d : Nat) {e : TypeId} {k k' : IntKind} (he : P.underlying e = some (.int k')) {i0 : TypeInfo} (hi0 : P.info? e = some i0) (hs : i0.size = 1) (xs ys : List Int) (n : Nat) (hx : xs.length = n) (hy : ys.length = n) :
    ∀ is : List Nat, (∀ i ∈ is, i < n) → (Op.eqItems (d + 1) e 1 (xs.map (Value.int k)).toArray (ys.map (Value.int k)).toArray is).run P w = .ok (is.all fun i => xs.getD i 0 == ys.getD i 0) w
  | [], _ => by simp [Op.eqItems]
  | i :: is, h => by
    have h1 := h i (by simp)
    have ih := run_items_ints (k := k) w d he hi0 hs xs ys n hx hy is (fun j hj => h j (by simp [hj]))
    simp only [Op.eqItems, Sem.run_bind, run_part_int w he hi0 hs xs i (by omega), run_part_int w he hi0 hs ys i (by omega), Result.andThen_ok, run_equalIn_int w d e k k' _ _ he, List.all_cons]
    cases hb : (xs.getD i 0 == ys.getD i 0)
    · simp
    · simpa using ih
theorem run_eq_ints (w : World) (d : Nat) {t e : TypeId} {k k' : IntKind} {n : Nat} (ht : P.underlying t = some (.array n e)) (he : P.underlying e = some (.int k')) {i0 : TypeInfo} (hi0 : P.info? e = some i0) (hs : i0.size = 1) (hc : P.cellsOf e = 1)
    (xs ys : List Int) (hx : xs.length = n) (hy : ys.length = n) :
    (Op.equalIn (d + 1 + 1) t (.agg (xs.map (Value.int k)).toArray) (.agg (ys.map (Value.int k)).toArray)).run P w = .ok (decide (xs = ys)) w := by
  rw [run_equalIn_array w (d + 1) _ _ ht hi0, hc, run_items_ints w d he hi0 hs xs ys n hx hy _ (fun i hi => List.mem_range.1 hi)]
  congr 1
  rw [Bool.eq_iff_iff, decide_eq_true_iff, List.all_eq_true]
  constructor
  · intro h
    apply List.ext_getElem (by omega)
    intro i h1 h2
    have := h i (List.mem_range.2 (by omega))
    simpa [h1, h2] using this
  · rintro rfl
    simp
end
end Go.Proofs.YtlgdbhebcglkoaaDoor
