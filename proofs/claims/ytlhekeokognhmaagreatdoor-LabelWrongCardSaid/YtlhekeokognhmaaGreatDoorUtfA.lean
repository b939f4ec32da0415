/-
  What the small functions of package utf compute: Point, Size, tail, Pair, Split.
-/
import Derived.Test.YtlhekeokognhmaaGreatDoorProg
import Derived.Test.YtlhekeokognhmaaGreatDoorMath
import Derived.WalkKit
import Derived.ProofKit
namespace Go.Proofs.YtlhekeokognhmaaGreatDoor
open Go.RowKit Mt

end Go.Proofs.YtlhekeokognhmaaGreatDoor
