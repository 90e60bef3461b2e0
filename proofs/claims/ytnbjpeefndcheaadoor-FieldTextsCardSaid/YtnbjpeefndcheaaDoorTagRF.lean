/- The document's Field: what it returns, for every input; the world is as it was. -/
import Derived.Test.YtnbjpeefndcheaaDoorTagRR
import Derived.WalkKit
import Derived.OwnWalk
import Derived.RowKitTokens
import Derived.Lib.Hide
namespace Go.Proofs.YtnbjpeefndcheaaDoor
open Go.RowKit
set_option linter.unusedVariables false
set_option maxRecDepth 100000

theorem rtagfield_any (n : Int) (w : World) :
    Calls Tryd.prog 23 #[.int .i64 n] w fun e w' => e = .returned (.bool (fieldB n)) ∧ w = w' := by
  have HF : Hid (fieldB n = ((decide (1 ≤ n) && decide (n ≤ 536870911)) && (decide (n < 19000) || decide (19999 < n)))) := by show _ = _; simp [fieldB, numOk]
  generalize fieldB n = r at *
  cases e0 : decide (1 ≤ n) <;> cases e2 : decide (n ≤ 536870911) <;> cases e1 : decide (n < 19000)
  all_goals
    rw [e0, e1, e2] at HF
    go_enter Tryd.func23, Tryd.ntmps23
    go_wp2
    go_ret
    exact ⟨ret_bool' (by rw [HF.out]; rfl), rfl⟩

end Go.Proofs.YtnbjpeefndcheaaDoor
