/- `DecEnv` out of what a row lists. Conditions: those that each theorem names. -/
import Derived.Test.YtnbjpeefndcheaaDoorCardGen
import Derived.Test.YtnbjpeefndcheaaDoorLwD
namespace Go.Proofs.YtnbjpeefndcheaaDoor
open Go.RowKit
set_option linter.unusedVariables false
set_option maxRecDepth 100000

theorem ge_tab : (Tryd.prog.globals[1]?).map (·.type) = some 53 := by kernel_rfl
theorem ce_u64 : Tryd.prog.cellsOf 34 = 1 := by kernel_rfl
theorem ce_tab : Tryd.prog.cellsOf 53 = 20 := by kernel_rfl
theorem dec_made {W : World} {r1 : List (String × DataW Unit)} (h1 : laidMet Tryd.prog (("internal/strconv.uint64pow10", Lib.tabData .u64 Lib.pow10Tab) :: r1) W) : DecEnv W :=
  ⟨Lib.tabIs_of_head gv_tab ge_tab Tryd.underlying53 Tryd.underlying34 ce_u64 ce_tab h1⟩
end Go.Proofs.YtnbjpeefndcheaaDoor
