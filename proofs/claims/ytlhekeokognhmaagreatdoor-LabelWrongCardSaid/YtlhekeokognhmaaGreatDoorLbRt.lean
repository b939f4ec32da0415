/-
  right, of numbers in pairs.
-/
import Derived.Test.YtlhekeokognhmaaGreatDoorLbX
import Derived.Test.YtlhekeokognhmaaGreatDoorLbZ
namespace Go.Proofs.YtlhekeokognhmaaGreatDoor
open Go.RowKit Go.Shelf Go.Maps Go.Sort
section
variable (A : Option Addr) (c : Nat) (ps : List (Nat × Nat)) (hp : ∀ p ∈ ps, p.1 ≤ 255 ∧ p.2 ≤ 255) (hc : ps.length ≤ c) (hm : c ≤ maxLen) (w : World) (hr : Rd w w.heap.size A (ps.length * 2) (smalls ps))
include hp hc hm hr
theorem made_small (W : World) (h : Kept w W) : Calls Tryz.prog 59 #[.slice A ps.length c] W fun e w' => ∃ A c, e = .returned (.slice A (mkL (ps.take 40)).length c) ∧ RdL w' w'.heap.size A (mkL (ps.take 40)) ∧ Kept W w' ∧ (mkL (ps.take 40)).length ≤ c :=
  made_any A c ps hp hc hm W ((hr.below h).more (Below.size h))
theorem right_small (hT : Tab w) (W : World) (h : Kept w W) : Calls Tryz.prog 11 #[.slice A ps.length c] W fun e w' => ∃ A c, e = .returned (.tuple #[.slice A (rightL (ps.take 40)).length c, .bool true]) ∧ RdL w' w'.heap.size A (rightL (ps.take 40)) ∧ Kept W w' ∧ (rightL (ps.take 40)).length ≤ c :=
  right_of_made (ps.take 40) _ W (hT.below h) ((made_small A c ps hp hc hm w hr W h).mono fun _ _ ⟨A, c, h1, h2, h3, _⟩ => ⟨A, c, h1, h2, h3⟩)
end
end Go.Proofs.YtlhekeokognhmaaGreatDoor
