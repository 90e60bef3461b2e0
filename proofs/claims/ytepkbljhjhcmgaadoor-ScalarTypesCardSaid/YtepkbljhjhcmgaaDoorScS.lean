/- What is asked of the program's layer 11 holds of its code. Conditions: none. -/
import Derived.Test.YtepkbljhjhcmgaaDoorScR
import Derived.Test.YtepkbljhjhcmgaaDoorScLaw
namespace Go.Proofs.YtepkbljhjhcmgaaDoor
open Go.RowKit
set_option linter.unusedVariables false

theorem scalar_ok : ScalarOk where
  word := fun ty w env _ => pword_any2 ty w env
  of := fun s w env _ => pof_word s w env
  wire := fun ty w env _ => pwire_any ty w env
  whole := fun ty w env _ => pwhole_any ty w env
  number := fun ty w env _ => pnumber_any ty w env
  signed := fun ty w env _ => psigned_any ty w env
  wide := fun ty w env _ => pwide_any ty w env
  may := fun ty n w env _ hn => pmay_any ty n w env hn
end Go.Proofs.YtepkbljhjhcmgaaDoor
