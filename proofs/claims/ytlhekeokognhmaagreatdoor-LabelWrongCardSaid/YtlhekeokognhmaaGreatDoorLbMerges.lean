/-
  LabelMerges, of what right gives.
-/
import Derived.Test.YtlhekeokognhmaaGreatDoorLbFn
import Derived.Test.YtlhekeokognhmaaGreatDoorLbR
import Derived.Deep.DeepCutAuto
namespace Go.Proofs.YtlhekeokognhmaaGreatDoor
open Go.RowKit Go.Shelf Go.Maps Go.Sort
/-- What right answers. -/
def RightIs (p : List (Nat × Nat)) (a : Value) (w : World) : Prop := ∀ W, Kept w W → Calls Tryz.prog 11 #[a] W fun e w' => ∃ A c, e = .returned (.tuple #[.slice A (rightL p).length c, .bool true]) ∧ RdL w' w'.heap.size A (rightL p) ∧ Kept W w' ∧ (rightL p).length ≤ c
theorem merge_none {L E : List Lab} (hL : RN L) (hE : RN E) : mergeBad L E = none := by unfold mergeBad; rw [if_pos ⟨hL.1, hE.1⟩]
theorem set_none {L E : List Lab} (hL : RN L) (hE : ∀ x ∈ E, wrE x = 0) : setBad L E = none := by unfold setBad; rw [if_pos hL.1, if_pos (fwE_ok hE)]
theorem RN.ok {L : List Lab} (h : RN L) : ∀ x ∈ L, wrE x = 0 := fun x hx => (right_all h.1 x hx).1
section
variable {L : List Lab} (hL : RN L) {A : Option Addr} {c n : Nat} (hn : n = L.length) {w : World} (hr : RdL w w.heap.size A L)
include hL hn hr
theorem get_rn (s : ByteArray) (W : World) (h : Kept w W) : Calls Tryz.prog 50 #[.slice A n c, .string s] W fun e w' => e = .returned (.string (getL s L)) ∧ Kept W w' := by
  rw [hn]
  have := hL.len
  exact get_any A c L (by omega) (right_vals hL.1) s W ((hr.below h).more (Below.size h))
theorem right_rn (hT : Tab w) (W : World) (h : Kept w W) : Calls Tryz.prog 16 #[.slice A n c] W fun e w' => e = .returned (.bool true) ∧ Kept W w' := by
  rw [hn]
  have := hL.len
  have h2 := right_any A c L (by omega) W ((hr.below h).more (Below.size h)) (hT.below h)
  rw [hL.1] at h2
  exact h2
theorem same_rn {A2 : Option Addr} {c2 : Nat} (hr2 : RdL w w.heap.size A2 L) (W : World) (h : Kept w W) : Calls Tryz.prog 79 #[.slice A n c, .slice A2 n c2] W fun e w' => e = .returned (.bool true) ∧ Kept W w' := by
  rw [hn]
  have := hL.len
  have h2 := same_any A A2 c c2 L L (by omega) (by omega) W ((hr.below h).more (Below.size h)) ((hr2.below h).more (Below.size h))
  rw [show sameB L L = true by unfold sameB; exact decide_eq_true rfl] at h2
  exact h2
end
end Go.Proofs.YtlhekeokognhmaaGreatDoor
