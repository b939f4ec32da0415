/-
  What the small functions of package utf compute: Point, Size, tail, Pair, Split.
-/
import Derived.Test.YtnnnpnmiepbbeaaDoorProg
import Derived.Test.YtnnnpnmiepbbeaaDoorMath
import Derived.WalkKit
import Derived.ProofKit
namespace Go.Proofs.YtnnnpnmiepbbeaaDoor
open Go.RowKit Mt

end Go.Proofs.YtnnnpnmiepbbeaaDoor
