/-
  LabelChanges answers true.
-/
import Derived.Test.YtlhekeokognhmaaGreatDoorLcY
namespace Go.Proofs.YtlhekeokognhmaaGreatDoor
open Go.RowKit Go.Shelf Go.Maps Go.Sort
theorem labelChanges_of (A1 A2 A3 A4 : Option Addr) (c1 c2 c3 c4 : Nat) (L1 L2 L3 : List Lab) (ns : List ByteArray) (w : World) (hr1 : RdL w w.heap.size A1 L1) (hr2 : RdL w w.heap.size A2 L2) (hr3 : RdL w w.heap.size A3 L3) (hr4 : Rd w w.heap.size A4 ns.length (strs ns)) (hT : Tab w) :
    Calls Tryz.prog 3 #[.slice A1 L1.length c1, .slice A2 L2.length c2, .slice A3 L3.length c3, .slice A4 ns.length c4] w fun e w' => e = .returned (.bool true) ∧ Kept w w' := by
  have C := Lib.hid (changes_any A1 A2 A3 A4 c1 c2 c3 c4 L1 L2 L3 ns w hr1 hr2 hr3 hr4 hT)
  have CA : Hid (∀ W, Kept w W → Calls Tryz.prog 7 #[] W fun e w' => e = .returned (.bool true) ∧ Kept W w') := fun W h => awake_any W (hT.below h)
  clear hr1 hr2 hr3 hr4 hT
  go_enter Tryz.func3, Tryz.ntmps3
  go_wp2_with (first
    | (go_at_call 6; (with_reducible refine C.out.mono ?_); rintro e w1 ⟨rfl, hk⟩; have K : Hid (Kept w w1) := hk; clear hk)
    | (go_at_call 7; (with_reducible refine (CA.out _ K.out).mono ?_); rintro e w2 ⟨rfl, hk⟩; have K2 := kk K hk; clear hk))
  go_ret
  exact ⟨rfl, K2.out⟩
end Go.Proofs.YtlhekeokognhmaaGreatDoor
