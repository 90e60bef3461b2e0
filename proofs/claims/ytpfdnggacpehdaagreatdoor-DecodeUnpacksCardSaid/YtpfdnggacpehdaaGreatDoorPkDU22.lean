/- Several texts in one: SxU. What each proves, and its conditions, stands at its own head. -/
import Derived.Test.YtpfdnggacpehdaaGreatDoorPkDU16
import Derived.Shelf.Abstract
import Derived.Deep.RegionHeld3
import Derived.Test.YtpfdnggacpehdaaGreatDoorPkDU3
import Derived.Test.YtpfdnggacpehdaaGreatDoorPkDU0
import Derived.Test.YtpfdnggacpehdaaGreatDoorPkDU2
import Derived.Shelf.Strconv.Clone
import Derived.Test.YtpfdnggacpehdaaGreatDoorChecked
import Derived.Lib.AppendZerosOnto
import Derived.Test.YtpfdnggacpehdaaGreatDoorPkDU7
import Derived.Deep.RegionWith
import Derived.WalkKit
import Derived.RowKitTokens
import Derived.Deep.AppendLies
/- The program's copies of a value and of a field, and of lists of them. Conditions: those that each theorem names. -/
namespace Go.Proofs.YtpfdnggacpehdaaGreatDoor
open Go.RowKit
set_option linter.unusedVariables false
set_option maxRecDepth 100000

/-- 'append' off what it answers. -/
theorem wpList_append_x {P : Program} {w : World} {ops : Array Oper} {rest : List Oper} {o : Oper} {a : Act} {Q : Exit → Act → World → Prop} {t : TypeId} {v y : Value} (hgd : o.guard = none) (s x : Operand)
    (ho : o.op = .call { callee := .builtin .append, args := #[s, x], argTypes := #[t, t] }) (hs : a.eval s = v) (hx : a.eval x = y) {X : Value → World → Prop}
    (hr : ∃ v' w', (Builtin.append_ #[t, t] o.type #[v, y]).run P w = .ok v' w' ∧ X v' w') (h : ∀ v' w', X v' w' → wpList P ops Q rest (a.put o.dst v') w') : wpList P ops Q (o :: rest) a w := by
  obtain ⟨v', w', hr, hX⟩ := hr
  exact Lib.wpList_append_run w hgd s x t t ho v y hs hx v' w' hr (h v' w' hX)

end Go.Proofs.YtpfdnggacpehdaaGreatDoor
