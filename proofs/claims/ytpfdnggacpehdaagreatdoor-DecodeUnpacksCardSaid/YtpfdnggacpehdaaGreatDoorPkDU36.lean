/- Several texts in one: TrLaw. What each proves, and its conditions, stands at its own head. -/
import Derived.Test.YtpfdnggacpehdaaGreatDoorPkDU35
import Derived.Test.YtpfdnggacpehdaaGreatDoorPkDU31
import Derived.Test.YtpfdnggacpehdaaGreatDoorPkDU33
import Derived.Test.YtpfdnggacpehdaaGreatDoorPkDU0
import Derived.BigQuiet
import Derived.Deep.QuietTactic
import Derived.Test.YtpfdnggacpehdaaGreatDoorPkDU22
import Derived.Laws.EntriesVeiled
import Derived.Shelf.Abstract
import Derived.Test.YtpfdnggacpehdaaGreatDoorPkDU6
/- The page's example of layer 19; which trees are the same, how deep they are, and how much they have. Conditions: those that each theorem names. -/
namespace Go.Proofs.YtpfdnggacpehdaaGreatDoor
open Go.RowKit
set_option linter.unusedVariables false
set_option maxRecDepth 100000

theorem same_yes {f : FuncId} {args : Array Value} {w : World} {p : Prop} (h : Calls Tryz.prog f args w (SmTo w p)) (hp : p) : Calls Tryz.prog f args w fun e w' => e = .returned (.bool true) ∧ Below w.heap.size w w' :=
  h.mono fun e w' ⟨r, he, hr, hb⟩ => ⟨by rw [he, hr.2 hp], hb⟩
end Go.Proofs.YtpfdnggacpehdaaGreatDoor
