/- Several texts in one: RfA. What each proves, and its conditions, stands at its own head. -/
import Derived.Test.YtpfdnggacpehdaaGreatDoorPkDU15
import Derived.Test.YtpfdnggacpehdaaGreatDoorPkDU5
import Derived.Test.YtpfdnggacpehdaaGreatDoorChecked
import Derived.Test.YtpfdnggacpehdaaGreatDoorPkDU0
import Derived.WalkKit
import Derived.OwnWalk
import Derived.RowKitTokens
import Derived.Lib.Hide
import Derived.Test.YtpfdnggacpehdaaGreatDoorPkDU2
import Derived.Lib.Strings
/- The document's layer 14: which fields may be. Conditions: those that each theorem names. -/
namespace Go.Proofs.YtpfdnggacpehdaaGreatDoor
open Go.RowKit
set_option linter.unusedVariables false
set_option maxRecDepth 100000

/-- An empty text or not, as the walk asks for it. -/
theorem empty_facts (t : List UInt8) : ((strOf t).toList == []) = decide (t = []) := by
  have h := strOf_beq t []
  rw [show (strOf []).toList = [] by rw [Lib.toList_data]; rfl] at h
  exact h
end Go.Proofs.YtpfdnggacpehdaaGreatDoor
