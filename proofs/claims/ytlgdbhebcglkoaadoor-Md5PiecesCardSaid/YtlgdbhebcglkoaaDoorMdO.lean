/-
  Loads of whole rows under a guard; what Start, Modulo and comparisons give, for the laws.
-/
import Derived.Test.YtlgdbhebcglkoaaDoorMdN
namespace Go.Proofs.YtlgdbhebcglkoaaDoor
open Go.RowKit
section
variable {P : Program} {ops : Array Oper} {rest : List Oper} {o : Oper} {a : Act} {w : World} {K : Act → World → Prop} {Q : Exit → Act → World → Prop} {E : Prop}
theorem wpList_load_if (hw : Region.wanted o (yielded ops a.tmps) = true) (ty : TypeId) (x : Operand) (ho : o.op = .load ty x) (g : Nat) (hx : a.eval x = .pointer (some ⟨g, 0, none⟩)) (t : TypeId) (cs : Array Value) (d : TypeDesc)
    (hg : w.heap[g]? = some (.cells cs t (0, 0)))
    (hu : P.underlying ty = some d) (hd : (match d with | .struct _ | .array _ _ => true | _ => false) = true) (hi : (P.info? ty).map (·.size) = some cs.size)
    (h : wpList P ops Q rest (a.put o.dst (.agg cs)) w) : wpList P ops Q (o :: rest) a w :=
  wpList_if w hw fun _ hK => wp_load_at ty x ho ⟨g, 0, none⟩ hx cs d (cell_at w g 0 cs.toList t (0, 0) (by simpa using hg) cs (fun j v h => by rw [Nat.zero_add]; simpa using h)) hu hd hi (hK _ _ h)
theorem step_load_row (hgd : o.guard = none) (ty : TypeId) (x : Operand) (ho : o.op = .load ty x) (g : Nat) (hx : a.eval x = .pointer (some ⟨g, 0, none⟩)) (t : TypeId) (cs : Array Value) (d : TypeDesc)
    (hg : w.heap[g]? = some (.cells cs t (0, 0)))
    (hu : P.underlying ty = some d) (hd : (match d with | .struct _ | .array _ _ => true | _ => false) = true) (hi : (P.info? ty).map (·.size) = some cs.size)
    (h : K (a.put o.dst (.agg cs)) w) : if Region.wanted o (yielded ops a.tmps) = true then Oper.wp P o a w K Q else E :=
  step_load_at hgd ty x ho ⟨g, 0, none⟩ hx cs d (cell_at w g 0 cs.toList t (0, 0) (by simpa using hg) cs (fun j v h => by rw [Nat.zero_add]; simpa using h)) hu hd hi h
end
/-- States of four words are compared. -/
theorem eq_four (a b c d a' b' c' d' : BitVec 32) (W : World) : (Op.equalIn 10000 24 (.agg #[V a, V b, V c, V d]) (.agg #[V a', V b', V c', V d'])).run Tryd.prog W = .ok (decide ((a, b, c, d) = (a', b', c', d'))) W :=
  eq_state (a, b, c, d) (a', b', c', d') W
end Go.Proofs.YtlgdbhebcglkoaaDoor
