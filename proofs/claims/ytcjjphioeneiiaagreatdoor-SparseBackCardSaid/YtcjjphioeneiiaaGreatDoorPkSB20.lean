/- Several texts in one: CardDec. What each proves, and its conditions, stands at its own head. -/
import Derived.Test.YtcjjphioeneiiaaGreatDoorPkSB5
import Derived.Test.YtcjjphioeneiiaaGreatDoorPkSB19
/- `DecEnv` out of what a row lists. Conditions: those that each theorem names. -/
namespace Go.Proofs.YtcjjphioeneiiaaGreatDoor
open Go.RowKit
set_option linter.unusedVariables false
set_option maxRecDepth 100000

theorem ge_tab : (Tryz.prog.globals[4]?).map (·.type) = some 262 := by kernel_rfl
theorem ce_u64 : Tryz.prog.cellsOf 60 = 1 := by kernel_rfl
theorem ce_tab : Tryz.prog.cellsOf 262 = 20 := by kernel_rfl
theorem dec_made {W : World} {r1 : List (String × DataW Unit)} (h1 : laidMet Tryz.prog (("internal/strconv.uint64pow10", Lib.tabData .u64 Lib.pow10Tab) :: r1) W) : DecEnv W :=
 ⟨Lib.tabIs_of_head gv_tab ge_tab Tryz.underlying262 Tryz.underlying60 ce_u64 ce_tab h1⟩
end Go.Proofs.YtcjjphioeneiiaaGreatDoor
