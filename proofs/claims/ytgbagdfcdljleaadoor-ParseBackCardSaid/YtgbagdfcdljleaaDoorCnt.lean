/-
  Contracts of runes.Valid and runes.Count.
-/
import Derived.RangeFuncNested
import Derived.RangeFuncBound
import Derived.RangeFuncCalls
import Derived.RangeFuncLeaves
import Derived.Shelf.Abstract
import Derived.Shelf.RegionOpen
import Derived.WalkKit
import Derived.OwnWalkIn
import Derived.TacticsInMore
import Derived.LoopNIn
import Derived.LoopIn
import Derived.Lib.Hide
import Derived.Test.YtgbagdfcdljleaaDoorAll
set_option linter.unusedVariables false
namespace Go.Proofs.YtgbagdfcdljleaaDoor.Ru
open Go.RowKit Go.Shelf
attribute [local go_sem] Oper.semAt_some

def countN (l : List UInt8) : Nat := if Lib.validD l then (steps l).length else 0

end Go.Proofs.YtgbagdfcdljleaaDoor.Ru
