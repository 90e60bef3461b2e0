/- What is asked of the program's layer 12 holds of its code. Conditions: none. -/
import Derived.Test.YtifbkaknfcghiaaDoorNmP
import Derived.Test.YtifbkaknfcghiaaDoorNumLaw
import Derived.Test.YtifbkaknfcghiaaDoorScQ
namespace Go.Proofs.YtifbkaknfcghiaaDoor
open Go.RowKit
set_option linter.unusedVariables false

theorem num_ok : NumOk where
  nfrom := fun ty n w env ht hn => pnfrom_any ty n w env ht hn
  nto := fun ty n w env ht hn => pnto_any ty n w env ht hn
end Go.Proofs.YtifbkaknfcghiaaDoor
