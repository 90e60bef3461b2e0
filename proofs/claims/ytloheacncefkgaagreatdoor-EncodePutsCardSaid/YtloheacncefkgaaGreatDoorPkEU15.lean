/- Several texts in one: RemA. What each proves, and its conditions, stands at its own head. -/
import Derived.Test.YtloheacncefkgaaGreatDoorPkEU2
import Derived.Test.YtloheacncefkgaaGreatDoorPkEU5
import Derived.Test.YtloheacncefkgaaGreatDoorPkEU0
import Derived.Test.YtloheacncefkgaaGreatDoorPkEU8
import Derived.WalkKit
import Derived.OwnWalk
import Derived.RowKitTokens
import Derived.Lib.Hide
import Derived.BigQuiet
import Derived.Deep.QuietTactic
import Derived.IntWalk
/- The document's writer in memory: its parts and their numbers, each in a row of the call's own. Conditions: those that each theorem names. -/
namespace Go.Proofs.YtloheacncefkgaaGreatDoor
open Go.RowKit
set_option linter.unusedVariables false
set_option maxRecDepth 100000

/-- What the document's writer holds. -/
structure Rs where
 parts : List (List UInt8)
 nums : List Int
section
variable {B p : Nat} {S : Nat → Prop} {s : Rs} {vp vn : Value} {vs : List Value} {w w' : World}
end
end Go.Proofs.YtloheacncefkgaaGreatDoor
