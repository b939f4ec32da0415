/-
  What the small functions of package utf compute: Point, Size, tail, Pair, Split.
-/
import Derived.Test.YtnnnpnmiepbbeaaGreatDoorProg
import Derived.Test.YtnnnpnmiepbbeaaGreatDoorMath
import Derived.WalkKit
import Derived.ProofKit
namespace Go.Proofs.YtnnnpnmiepbbeaaGreatDoor
open Go.RowKit Mt

end Go.Proofs.YtnnnpnmiepbbeaaGreatDoor
