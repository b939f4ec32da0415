/-
  A region that draws its order, walked by the kit's laws by hand: the condition on the world may be made stronger on the way.
-/
import Derived.Test.YtlhekeokognhmaaGreatDoorLbO
import Derived.Deep.RegionHeld3
namespace Go.Proofs.YtlhekeokognhmaaGreatDoor
open Go.RowKit Go.Shelf
theorem wpAnyH_turn {P : Program} {md : Region.Mode} {ops : Array Oper} {Q : Exit → Act → World → Prop} {S S' : World → Prop} (hS : ∀ w, S' w → S w) :
    ∀ (fuel : Nat) (listed : Array Bool) (a : Act) (w : World), wpAnyH P md ops Q S' fuel listed a w → wpAnyH P md ops Q S fuel listed a w
  | 0, _, _, _, h => h
  | fuel + 1, _, _, _, h => ⟨h.1, fun i hi => wpOp_mono (fun a' w' h' => ⟨hS _ h'.1, wpAnyH_turn hS fuel _ a' w' h'.2⟩) (h.2 i hi)⟩
theorem turnG {P : Program} {md : Region.Mode} {ops : Array Oper} {Q : Exit → Act → World → Prop} {w0 w1 : World} {r0 r : Option Nat} (h : w0.grownBy w1 r0) (hr : ∀ k, k < w0.heap.size → some k ≠ r0 → some k ≠ r) {fuel : Nat} {listed : Array Bool} {a : Act} {w : World}
    (hn : wpAnyH P md ops Q (fun W => w1.grownBy W r) fuel listed a w) : wpAnyH P md ops Q (fun W => w0.grownBy W r0) fuel listed a w :=
  wpAnyH_turn (fun _ k => ⟨k.os.trans h.os, k.tape.trans h.tape, k.output.trans h.output, Nat.le_trans h.size k.size, fun i hi hne => (k.block i (Nat.lt_of_lt_of_le hi h.size) (hr i hi hne)).trans (h.block i hi hne)⟩) fuel listed a w hn
theorem grown_kept {w W : World} (h : Kept w W) (r : Option Nat) : w.grownBy W r := ⟨h.os, h.tape, h.output, h.size, fun k hk _ => h.block k hk⟩
theorem grown_set (w : World) (g j : Nat) (v : Value) : w.grownBy (w.setCell ⟨g, j, none⟩ v) (some g) :=
  ⟨rfl, rfl, rfl, by simp, fun k _ hne => heap_setCell_other _ _ _ _ (fun e => hne (by rw [e]))⟩
theorem load_u8 (w : World) (ad : Addr) (v : Value) (hc : w.cell? ad = some v) : (loadVar 5 ad).run Tryz.prog w = .ok v w := by go_simp
theorem load_str (w : World) (ad : Addr) (v : Value) (hc : w.cell? ad = some v) : (loadVar 9 ad).run Tryz.prog w = .ok v w := by go_simp
theorem yields_cell {ops : Array Oper} {w0 : World} {op : Oper} {a : Act} (hw : Region.wanted op (yielded ops a.tmps) = true) (ty : TypeId) (x : Operand) (ho : op.op = .load ty x) (ad : Addr) (hx : a.eval x = .pointer (some ad))
    (v : Value) (hl : ∀ w v, w.cell? ad = some v → (loadVar ty ad).run Tryz.prog w = .ok v w) {r : Option Nat} (hlt : ad.block < w0.heap.size) (hne : some ad.block ≠ r) (hc : w0.cell? ad = some v) : YieldsIf Tryz.prog ops (fun W => w0.grownBy W r) op v a :=
  .inl ⟨hw, fun w hw' => by
    unfold execOp
    simp only [ho, hx, Instr.loadAt, Instr.sureAddr, Sem.run_bind, Sem.run_pure, Result.andThen_ok, hl w v ((hw'.cell_far ad hlt hne).trans hc)]⟩
/-- A row that is made. -/
theorem new_row (w : World) (cs : Array Value) (t : TypeId) : ∃ W, W = w.alloc (.cells cs t) ∧ W.heap[w.heap.size]? = some (.cells cs t) ∧ Kept w W ∧ w.heap.size < W.heap.size :=
  ⟨_, rfl, heap_alloc_new _ _, (Below.refl w.heap.size w).alloc (Nat.le_refl _) _, by simp⟩
end Go.Proofs.YtlhekeokognhmaaGreatDoor
