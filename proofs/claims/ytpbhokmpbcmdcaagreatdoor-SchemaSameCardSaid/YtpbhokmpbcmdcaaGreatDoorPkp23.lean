/- Several texts in one: RfB. What each proves, and its conditions, stands at its own head. -/
import Derived.Test.YtpbhokmpbcmdcaaGreatDoorPkp22
import Derived.Test.YtpbhokmpbcmdcaaGreatDoorChecked
import Derived.Test.YtpbhokmpbcmdcaaGreatDoorPkp9
import Derived.Test.YtpbhokmpbcmdcaaGreatDoorPkp0
import Derived.WalkKit
import Derived.OwnWalk
import Derived.RowKitTokens
import Derived.Lib.Hide
import Derived.Lib.BitFns
import Derived.Laws.BitsLemmas
import Derived.Lib.EndianBits
import Derived.RowKit
import Derived.Test.YtpbhokmpbcmdcaaGreatDoorPkp2
import Derived.Test.YtpbhokmpbcmdcaaGreatDoorPkp3
import Derived.Test.YtpbhokmpbcmdcaaGreatDoorPkp15
import Derived.IntWalk
import Derived.Deep.RegionHeld3
/- The document's layer 14: Check, Packed, Hidden, Text of a field. Conditions: those that each theorem names. -/
namespace Go.Proofs.YtpbhokmpbcmdcaaGreatDoor
open Go.RowKit
set_option linter.unusedVariables false
set_option maxRecDepth 100000

theorem ne_not (t : List UInt8) : decide (t ≠ []) = !decide (t = []) := by by_cases h : t = [] <;> simp [h]
end Go.Proofs.YtpbhokmpbcmdcaaGreatDoor
