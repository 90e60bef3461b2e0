/- Several texts in one: VdD. What each proves, and its conditions, stands at its own head. -/
import Derived.Test.YtpfdnggacpehdaaGreatDoorPkDU44
import Derived.Test.YtpfdnggacpehdaaGreatDoorPkDU24
import Derived.Test.YtpfdnggacpehdaaGreatDoorPkDU35
import Derived.Test.YtpfdnggacpehdaaGreatDoorPkDU19
import Derived.Deep.RegionHeld3
import Derived.Test.YtpfdnggacpehdaaGreatDoorPkDU13
import Derived.Test.YtpfdnggacpehdaaGreatDoorPkDU21
import Derived.Test.YtpfdnggacpehdaaGreatDoorPkDU16
/- The program's layer 20: which values are a field's, the trees within being asked. Conditions: those that each theorem names. -/
namespace Go.Proofs.YtpfdnggacpehdaaGreatDoor
open Go.RowKit
set_option linter.unusedVariables false
set_option maxRecDepth 100000

/-- What the program's layer 20 reads of the variables: scalar's table, unicode/utf8's two tables. -/
def VdEnv (w : World) : Prop := ScEnv w ∧ U8Env w
theorem VdEnv.rolls {w w' : World} (h : VdEnv w) (hb : Below w.heap.size w w') : VdEnv w' := ⟨h.1.rides hb, h.2.goesOn hb⟩
end Go.Proofs.YtpfdnggacpehdaaGreatDoor
