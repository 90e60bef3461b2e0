/- Several texts in one: StrBs. What each proves, and its conditions, stands at its own head. -/
import Derived.Test.YtmdekdmcnnbofaaDoorChecked
import Derived.Test.YtmdekdmcnnbofaaDoorPkVD0
import Derived.WalkKit
import Derived.RowKitTokens
import Derived.OwnWalk
import Derived.Lib.ConvBytes
/- '[]byte(s)': what it answers, in memory of its own. Conditions: those that each theorem names. -/
namespace Go.Proofs.YtmdekdmcnnbofaaDoor
open Go.RowKit
set_option linter.unusedVariables false

theorem str_size (t : List UInt8) : (strOf t).size = t.length := by simp [strOf, ByteArray.size]
end Go.Proofs.YtmdekdmcnnbofaaDoor
