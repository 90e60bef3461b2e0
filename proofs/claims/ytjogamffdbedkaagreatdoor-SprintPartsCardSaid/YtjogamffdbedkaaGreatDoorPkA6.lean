/- Several texts in one: AppSteps. What each proves, and its conditions, stands at its own head. -/
import Derived.Test.YtjogamffdbedkaaGreatDoorChecked
import Derived.Test.YtjogamffdbedkaaGreatDoorPkA0
import Derived.WalkKit
import Derived.RowKitTokens
import Derived.OwnWalk
import Derived.Deep.AppendLies
import Derived.Lib.AppendStr
/- append onto an own row of bytes, as a step of a region that draws its order: bytes, a text. Conditions: those that each theorem names. -/
namespace Go.Proofs.YtjogamffdbedkaaGreatDoor
open Go.RowKit
set_option linter.unusedVariables false
set_option maxRecDepth 100000

theorem strCells_strOf (t : List UInt8) : Lib.strCells (strOf t) = cellsOf t := by
  simp [Lib.strCells, strOf, cellsOf]
end Go.Proofs.YtjogamffdbedkaaGreatDoor
