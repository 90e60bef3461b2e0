/- Several texts in one: FlLaw. What each proves, and its conditions, stands at its own head. -/
import Derived.Test.YtpfdnggacpehdaaGreatDoorPkDU18
import Derived.Test.YtpfdnggacpehdaaGreatDoorPkDU5
import Derived.Test.YtpfdnggacpehdaaGreatDoorPkDU0
import Derived.Test.YtpfdnggacpehdaaGreatDoorPkDU2
import Derived.Test.YtpfdnggacpehdaaGreatDoorPkDU3
import Derived.Test.YtpfdnggacpehdaaGreatDoorPkDU15
import Derived.IntWalk
import Derived.Deep.RegionHeld3
/- What is asked of the program's layer 14, and its laws. Conditions: those that each theorem names. -/
namespace Go.Proofs.YtpfdnggacpehdaaGreatDoor
open Go.RowKit
set_option linter.unusedVariables false
set_option maxRecDepth 100000

/-- A field as it may come in. -/
structure Came (f : Fd) : Prop where
  num : Int64 f.num
  ty : Int64 f.ty
  name : f.name.length ≤ 140737488351232
  ref : f.ref.length ≤ 140737488351232
  one : f.one.length ≤ 140737488351232
end Go.Proofs.YtpfdnggacpehdaaGreatDoor
