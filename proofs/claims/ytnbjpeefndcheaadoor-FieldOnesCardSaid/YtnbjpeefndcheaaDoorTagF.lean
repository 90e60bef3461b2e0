/- tag.Field: what it returns, for every input; the world is as it was. -/
import Derived.Test.YtnbjpeefndcheaaDoorTagR
import Derived.WalkKit
import Derived.OwnWalk
import Derived.RowKitTokens
import Derived.Lib.Hide
namespace Go.Proofs.YtnbjpeefndcheaaDoor
open Go.RowKit
set_option linter.unusedVariables false
set_option maxRecDepth 100000

theorem field_any (n : Int) (w : World) :
    Calls Tryd.prog 19 #[.int .i64 n] w fun e w' => e = .returned (.bool (fieldB n)) ∧ w = w' := by
  have H1 := Lib.hid (fun w => numbered_any n w)
  have HF : Hid (fieldB n = (numOk n && (decide (n < 19000) || decide (19999 < n)))) := by show _ = _; simp [fieldB]
  generalize fieldB n = r at *
  generalize numOk n = p at *
  cases p <;> cases e1 : decide (n < 19000)
  all_goals
    rw [e1] at HF
    go_enter Tryd.func19, Tryd.ntmps19
    go_wp2_with (refine (H1.out _).mono ?_; rintro e w' ⟨rfl, rfl⟩)
    go_ret
    exact ⟨ret_bool' (by rw [HF.out]; rfl), rfl⟩

end Go.Proofs.YtnbjpeefndcheaaDoor
