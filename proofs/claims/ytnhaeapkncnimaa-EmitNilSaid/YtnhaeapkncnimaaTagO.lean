/- tag.Of: what it returns, for every input; the world is as it was. -/
import Derived.Test.YtnhaeapkncnimaaTagR
import Derived.WalkKit
import Derived.OwnWalk
import Derived.RowKitTokens
import Derived.Lib.Hide
namespace Go.Proofs.Ytnhaeapkncnimaa
open Go.RowKit
set_option linter.unusedVariables false
set_option maxRecDepth 100000

theorem of_any (n t : Int) (w : World) :
    Calls Try.prog 33 #[.int .i64 n, .int .i64 t] w fun e w' => e = .returned (.tuple #[.int .u64 (tagN n t : Int), .bool (rightB n t)]) ∧ w = w' := by
  have H1 := Lib.hid (fun w => right_any n t w)
  cases hr : rightB n t with
  | false =>
    have HT : Hid (tagN n t = 0) := by show _ = _; rw [tagN, hr, if_neg (by simp)]
    rw [hr] at H1
    clear hr
    go_enter Try.func33, Try.ntmps33
    go_wp2_with (refine (H1.out _).mono ?_; rintro e w' ⟨rfl, rfl⟩)
    go_ret2
    exact ⟨by rw [HT.out]; rfl, rfl⟩
  | true =>
    have HT : Hid (tagN n t = (8 * n + t).toNat) := by show _ = _; rw [tagN, hr, if_pos rfl]
    rw [hr] at H1
    rw [rightB_iff] at hr
    have hn : 1 ≤ n ∧ n ≤ 536870911 := hr.1
    have ht : 0 ≤ t ∧ t ≤ 5 := by omega
    have e8 : 8 * n + t = ((8 * n + t).toNat : Int) := by omega
    have HE := Lib.hid e8
    clear hr e8
    go_enter Try.func33, Try.ntmps33
    go_wp2_with (refine (H1.out _).mono ?_; rintro e w' ⟨rfl, rfl⟩)
    go_ret2
    exact ⟨by rw [HT.out, ← HE.out]; rfl, rfl⟩

end Go.Proofs.Ytnhaeapkncnimaa
