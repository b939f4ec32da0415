/-
  Names: the names that labels are made of.
-/
import Derived.Test.YtlhekeokognhmaaGreatDoorLbQ
namespace Go.Proofs.YtlhekeokognhmaaGreatDoor
open Go.RowKit Go.Shelf Go.Maps Go.Sort
def nms : List ByteArray := [⟨#[97]⟩, ⟨#[98]⟩, ⟨#[99]⟩, ⟨#[106, 111, 98]⟩, ⟨#[105, 110, 115, 116, 97, 110, 99, 101]⟩, ⟨#[95, 95, 110, 97, 109, 101, 95, 95]⟩, ⟨#[95, 95, 97, 100, 100, 114, 101, 115, 115, 95, 95]⟩, ⟨#[95, 95, 109, 101, 116, 97, 95, 120]⟩, ⟨#[101, 120, 112, 111, 114, 116, 101, 100, 95, 97]⟩, ⟨#[101, 120, 112, 111, 114, 116, 101, 100, 95, 98]⟩, ⟨#[101, 120, 112, 111, 114, 116, 101, 100, 95, 106, 111, 98]⟩, ⟨#[101, 120, 112, 111, 114, 116, 101, 100, 95, 101, 120, 112, 111, 114, 116, 101, 100, 95, 97]⟩, ⟨#[108, 101]⟩, ⟨#[65]⟩, ⟨#[95]⟩, ⟨#[120, 57]⟩]
def vls : List ByteArray := [⟨#[]⟩, ⟨#[49]⟩, ⟨#[50]⟩, ⟨#[195, 169]⟩, ⟨#[117, 112]⟩, ⟨#[97, 32, 98]⟩, ⟨#[10]⟩, ⟨#[57]⟩]
theorem nms_ok : ∀ s ∈ nms, nmB namB s = true := by
  have h : nms.all (fun s => nmB namB s) = true := by kernel_rfl
  exact fun s hs => List.all_eq_true.1 h s hs
theorem vls_ok : ∀ s ∈ vls, valB s = true := by
  have h : vls.all (fun s => valB s) = true := by kernel_rfl
  exact fun s hs => List.all_eq_true.1 h s hs
theorem names_any (w : World) : Calls Tryz.prog 96 #[] w fun e w' => ∃ g, e = .returned (.slice (some ⟨g, 0, none⟩) 16 16) ∧ w.heap.size ≤ g ∧ Hid (w'.heap[g]? = some (.cells (strs nms).toArray 9)) ∧ Kept w w' := by
  go_enter Tryz.func96, Tryz.ntmps96
  go_wp2_with fail
  go_ret
  exact ⟨_, rfl, Nat.le_refl _, heap_alloc_new _ _, (Below.refl w.heap.size w).alloc (Nat.le_refl _) _⟩
/-- What Made makes of bytes: a label of each, the newest last, its name once. -/
def madeL (p : Nat × Nat) : Lab := (nms.getD (p.1 % 16) ⟨#[]⟩, vls.getD (p.2 % 8) ⟨#[]⟩)
def made1 (out : List Lab) (x : Lab) : List Lab := (out.filter fun y => decide (y.1 ≠ x.1)) ++ [x]
end Go.Proofs.YtlhekeokognhmaaGreatDoor
