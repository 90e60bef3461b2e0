/- Several texts in one: RfA. What each proves, and its conditions, stands at its own head. -/
import Derived.Test.YtpbhokmpbcmdcaaGreatDoorPkp16
import Derived.Test.YtpbhokmpbcmdcaaGreatDoorPkp15
import Derived.Test.YtpbhokmpbcmdcaaGreatDoorChecked
import Derived.Test.YtpbhokmpbcmdcaaGreatDoorPkp9
import Derived.Test.YtpbhokmpbcmdcaaGreatDoorPkp0
import Derived.WalkKit
import Derived.OwnWalk
import Derived.RowKitTokens
import Derived.Lib.Hide
import Derived.Test.YtpbhokmpbcmdcaaGreatDoorPkp2
import Derived.Lib.Strings
/- The document's layer 14: which fields may be. Conditions: those that each theorem names. -/
namespace Go.Proofs.YtpbhokmpbcmdcaaGreatDoor
open Go.RowKit
set_option linter.unusedVariables false
set_option maxRecDepth 100000

/-- An empty text or not, as the walk asks for it. -/
theorem empty_facts (t : List UInt8) : ((strOf t).toList == []) = decide (t = []) := by
  have h := strOf_beq t []
  rw [show (strOf []).toList = [] by rw [Lib.toList_data]; rfl] at h
  exact h
end Go.Proofs.YtpbhokmpbcmdcaaGreatDoor
