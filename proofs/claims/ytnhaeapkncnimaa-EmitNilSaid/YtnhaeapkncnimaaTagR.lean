/- tag.Right: what it returns, for every input; the world is as it was. -/
import Derived.Test.YtnhaeapkncnimaaChecked
import Derived.Test.YtnhaeapkncnimaaTagMath
import Derived.WalkKit
import Derived.OwnWalk
import Derived.RowKitTokens
import Derived.Lib.Hide
namespace Go.Proofs.Ytnhaeapkncnimaa
open Go.RowKit
set_option linter.unusedVariables false
set_option maxRecDepth 100000

theorem numbered_any (n : Int) (w : World) :
    Calls Try.prog 58 #[.int .i64 n] w fun e w' => e = .returned (.bool (numOk n)) ∧ w = w' := by
  by_cases h1 : 1 ≤ n
  · have HF : Hid (decide (n ≤ 536870911) = numOk n) := by show _ = _; simp [numOk, h1]
    have g1 : decide (1 ≤ n) = true := decide_eq_true h1
    go_enter Try.func58, Try.ntmps58
    go_wp2
    go_ret
    exact ⟨ret_bool' HF.out, rfl⟩
  · have HF : Hid (false = numOk n) := by show _ = _; simp [numOk, h1]
    have g1 : decide (1 ≤ n) = false := decide_eq_false h1
    go_enter Try.func58, Try.ntmps58
    go_wp2
    go_ret
    exact ⟨ret_bool' HF.out, rfl⟩
theorem known_any (t : Int) (w : World) :
    Calls Try.prog 59 #[.int .i64 t] w fun e w' => e = .returned (.bool (isWire t)) ∧ w = w' := by
  go_enter Try.func59, Try.ntmps59
  go_wp2
  all_goals go_ret
  all_goals exact ⟨ret_bool' (by simp only [isWire, *, Bool.true_or, Bool.or_true, Bool.or_false]), rfl⟩
theorem right_any (n t : Int) (w : World) :
    Calls Try.prog 48 #[.int .i64 n, .int .i64 t] w fun e w' => e = .returned (.bool (rightB n t)) ∧ w = w' := by
  have H1 := Lib.hid (fun w => numbered_any n w)
  have H2 := Lib.hid (fun w => known_any t w)
  have HF : Hid (rightB n t = (numOk n && isWire t)) := rfl
  generalize rightB n t = r at *
  generalize numOk n = p at *
  generalize isWire t = q at *
  cases p
  all_goals
    go_enter Try.func48, Try.ntmps48
    go_wp2_with (first
      | (go_at_call 58; refine (H1.out _).mono ?_; rintro e w' ⟨rfl, rfl⟩)
      | (go_at_call 59; refine (H2.out _).mono ?_; rintro e w' ⟨rfl, rfl⟩))
    go_ret
    exact ⟨ret_bool' (by rw [HF.out]; rfl), rfl⟩
end Go.Proofs.Ytnhaeapkncnimaa
