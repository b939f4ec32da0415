/-
  LabelSmall.
-/
import Derived.Test.YtlhekeokognhmaaGreatDoorLs1
import Derived.Test.YtlhekeokognhmaaGreatDoorLs2
import Derived.Test.YtlhekeokognhmaaGreatDoorLs3
import Derived.Test.YtlhekeokognhmaaGreatDoorLs4
import Derived.Test.YtlhekeokognhmaaGreatDoorLs5
import Derived.Deep.CutBlock
namespace Go.Proofs.YtlhekeokognhmaaGreatDoor
open Go.RowKit Go.Shelf Go.Maps Go.Sort
theorem labelSmall_of (w : World) (hT : Tab w) : Calls Tryz.prog 4 #[] w fun e w' => e = .returned (.bool true) ∧ Kept w w' := (sp0 w hT).2 (sp_1 w hT) (sp_2 w hT) (sp_3 w hT) (sp_4 w hT) (sp_5 w hT)
end Go.Proofs.YtlhekeokognhmaaGreatDoor
