/- Several texts in one: RsA, ZigA, RnA. What each proves, and its conditions, stands at its own head. -/
import Derived.Test.YtpfdnggacpehdaaGreatDoorChecked
import Derived.Test.YtpfdnggacpehdaaGreatDoorPkDU4
import Derived.Test.YtpfdnggacpehdaaGreatDoorPkDU0
import Derived.WalkKit
import Derived.OwnWalk
import Derived.RowKitTokens
import Derived.Lib.Hide
import Derived.Test.YtpfdnggacpehdaaGreatDoorPkDU1
/- The document's kinds of types. Conditions: those that each theorem names. -/
namespace Go.Proofs.YtpfdnggacpehdaaGreatDoor
open Go.RowKit
set_option linter.unusedVariables false
set_option maxRecDepth 100000

theorem rswire_any (ty : Int) (w : World) : Calls Tryz.prog 44 #[.int .i64 ty] w fun e w' => e = .returned (.int .i64 (wireT ty)) ∧ w = w' := by
  rcases ty_cases ty with rfl | rfl | rfl | rfl | rfl | rfl | rfl | rfl | rfl | rfl | rfl | rfl | rfl | rfl | rfl | h | h
  · go_enter Tryz.func44, Tryz.ntmps44
    go_wp2
    go_ret
    exact ⟨rfl, rfl⟩
  · go_enter Tryz.func44, Tryz.ntmps44
    go_wp2
    go_ret
    exact ⟨rfl, rfl⟩
  · go_enter Tryz.func44, Tryz.ntmps44
    go_wp2
    go_ret
    exact ⟨rfl, rfl⟩
  · go_enter Tryz.func44, Tryz.ntmps44
    go_wp2
    go_ret
    exact ⟨rfl, rfl⟩
  · go_enter Tryz.func44, Tryz.ntmps44
    go_wp2
    go_ret
    exact ⟨rfl, rfl⟩
  · go_enter Tryz.func44, Tryz.ntmps44
    go_wp2
    go_ret
    exact ⟨rfl, rfl⟩
  · go_enter Tryz.func44, Tryz.ntmps44
    go_wp2
    go_ret
    exact ⟨rfl, rfl⟩
  · go_enter Tryz.func44, Tryz.ntmps44
    go_wp2
    go_ret
    exact ⟨rfl, rfl⟩
  · go_enter Tryz.func44, Tryz.ntmps44
    go_wp2
    go_ret
    exact ⟨rfl, rfl⟩
  · go_enter Tryz.func44, Tryz.ntmps44
    go_wp2
    go_ret
    exact ⟨rfl, rfl⟩
  · go_enter Tryz.func44, Tryz.ntmps44
    go_wp2
    go_ret
    exact ⟨rfl, rfl⟩
  · go_enter Tryz.func44, Tryz.ntmps44
    go_wp2
    go_ret
    exact ⟨rfl, rfl⟩
  · go_enter Tryz.func44, Tryz.ntmps44
    go_wp2
    go_ret
    exact ⟨rfl, rfl⟩
  · go_enter Tryz.func44, Tryz.ntmps44
    go_wp2
    go_ret
    exact ⟨rfl, rfl⟩
  · go_enter Tryz.func44, Tryz.ntmps44
    go_wp2
    go_ret
    exact ⟨rfl, rfl⟩
  · rw [out_wire (by omega)]
    have n1 : ¬ ty = 1 := by omega
    have e1 : (ty == 1) = false := beq_false_of_ne n1
    have n2 : ¬ ty = 2 := by omega
    have e2 : (ty == 2) = false := beq_false_of_ne n2
    have n3 : ¬ ty = 3 := by omega
    have e3 : (ty == 3) = false := beq_false_of_ne n3
    have n4 : ¬ ty = 4 := by omega
    have e4 : (ty == 4) = false := beq_false_of_ne n4
    have n5 : ¬ ty = 5 := by omega
    have e5 : (ty == 5) = false := beq_false_of_ne n5
    have n6 : ¬ ty = 6 := by omega
    have e6 : (ty == 6) = false := beq_false_of_ne n6
    have n7 : ¬ ty = 7 := by omega
    have e7 : (ty == 7) = false := beq_false_of_ne n7
    have n8 : ¬ ty = 8 := by omega
    have e8 : (ty == 8) = false := beq_false_of_ne n8
    have n9 : ¬ ty = 9 := by omega
    have e9 : (ty == 9) = false := beq_false_of_ne n9
    have n10 : ¬ ty = 10 := by omega
    have e10 : (ty == 10) = false := beq_false_of_ne n10
    have n11 : ¬ ty = 11 := by omega
    have e11 : (ty == 11) = false := beq_false_of_ne n11
    have n12 : ¬ ty = 12 := by omega
    have e12 : (ty == 12) = false := beq_false_of_ne n12
    have n13 : ¬ ty = 13 := by omega
    have e13 : (ty == 13) = false := beq_false_of_ne n13
    have n14 : ¬ ty = 14 := by omega
    have e14 : (ty == 14) = false := beq_false_of_ne n14
    have n15 : ¬ ty = 15 := by omega
    have e15 : (ty == 15) = false := beq_false_of_ne n15
    have a1 : decide (1 ≤ ty) = false := decide_eq_false (by omega)
    have b1 : decide (ty ≤ 1) = true := decide_eq_true (by omega)
    have c1 : decide (ty < 1) = true := decide_eq_true (by omega)
    have d1 : decide (1 < ty) = false := decide_eq_false (by omega)
    have a6 : decide (6 ≤ ty) = false := decide_eq_false (by omega)
    have b6 : decide (ty ≤ 6) = true := decide_eq_true (by omega)
    have c6 : decide (ty < 6) = true := decide_eq_true (by omega)
    have d6 : decide (6 < ty) = false := decide_eq_false (by omega)
    have a7 : decide (7 ≤ ty) = false := decide_eq_false (by omega)
    have b7 : decide (ty ≤ 7) = true := decide_eq_true (by omega)
    have c7 : decide (ty < 7) = true := decide_eq_true (by omega)
    have d7 : decide (7 < ty) = false := decide_eq_false (by omega)
    have a8 : decide (8 ≤ ty) = false := decide_eq_false (by omega)
    have b8 : decide (ty ≤ 8) = true := decide_eq_true (by omega)
    have c8 : decide (ty < 8) = true := decide_eq_true (by omega)
    have d8 : decide (8 < ty) = false := decide_eq_false (by omega)
    have a11 : decide (11 ≤ ty) = false := decide_eq_false (by omega)
    have b11 : decide (ty ≤ 11) = true := decide_eq_true (by omega)
    have c11 : decide (ty < 11) = true := decide_eq_true (by omega)
    have d11 : decide (11 < ty) = false := decide_eq_false (by omega)
    have a13 : decide (13 ≤ ty) = false := decide_eq_false (by omega)
    have b13 : decide (ty ≤ 13) = true := decide_eq_true (by omega)
    have c13 : decide (ty < 13) = true := decide_eq_true (by omega)
    have d13 : decide (13 < ty) = false := decide_eq_false (by omega)
    have a15 : decide (15 ≤ ty) = false := decide_eq_false (by omega)
    have b15 : decide (ty ≤ 15) = true := decide_eq_true (by omega)
    have c15 : decide (ty < 15) = true := decide_eq_true (by omega)
    have d15 : decide (15 < ty) = false := decide_eq_false (by omega)
    go_enter Tryz.func44, Tryz.ntmps44
    go_wp2
    go_ret
    exact ⟨rfl, rfl⟩
  · rw [out_wire (by omega)]
    have n1 : ¬ ty = 1 := by omega
    have e1 : (ty == 1) = false := beq_false_of_ne n1
    have n2 : ¬ ty = 2 := by omega
    have e2 : (ty == 2) = false := beq_false_of_ne n2
    have n3 : ¬ ty = 3 := by omega
    have e3 : (ty == 3) = false := beq_false_of_ne n3
    have n4 : ¬ ty = 4 := by omega
    have e4 : (ty == 4) = false := beq_false_of_ne n4
    have n5 : ¬ ty = 5 := by omega
    have e5 : (ty == 5) = false := beq_false_of_ne n5
    have n6 : ¬ ty = 6 := by omega
    have e6 : (ty == 6) = false := beq_false_of_ne n6
    have n7 : ¬ ty = 7 := by omega
    have e7 : (ty == 7) = false := beq_false_of_ne n7
    have n8 : ¬ ty = 8 := by omega
    have e8 : (ty == 8) = false := beq_false_of_ne n8
    have n9 : ¬ ty = 9 := by omega
    have e9 : (ty == 9) = false := beq_false_of_ne n9
    have n10 : ¬ ty = 10 := by omega
    have e10 : (ty == 10) = false := beq_false_of_ne n10
    have n11 : ¬ ty = 11 := by omega
    have e11 : (ty == 11) = false := beq_false_of_ne n11
    have n12 : ¬ ty = 12 := by omega
    have e12 : (ty == 12) = false := beq_false_of_ne n12
    have n13 : ¬ ty = 13 := by omega
    have e13 : (ty == 13) = false := beq_false_of_ne n13
    have n14 : ¬ ty = 14 := by omega
    have e14 : (ty == 14) = false := beq_false_of_ne n14
    have n15 : ¬ ty = 15 := by omega
    have e15 : (ty == 15) = false := beq_false_of_ne n15
    have a1 : decide (1 ≤ ty) = true := decide_eq_true (by omega)
    have b1 : decide (ty ≤ 1) = false := decide_eq_false (by omega)
    have c1 : decide (ty < 1) = false := decide_eq_false (by omega)
    have d1 : decide (1 < ty) = true := decide_eq_true (by omega)
    have a6 : decide (6 ≤ ty) = true := decide_eq_true (by omega)
    have b6 : decide (ty ≤ 6) = false := decide_eq_false (by omega)
    have c6 : decide (ty < 6) = false := decide_eq_false (by omega)
    have d6 : decide (6 < ty) = true := decide_eq_true (by omega)
    have a7 : decide (7 ≤ ty) = true := decide_eq_true (by omega)
    have b7 : decide (ty ≤ 7) = false := decide_eq_false (by omega)
    have c7 : decide (ty < 7) = false := decide_eq_false (by omega)
    have d7 : decide (7 < ty) = true := decide_eq_true (by omega)
    have a8 : decide (8 ≤ ty) = true := decide_eq_true (by omega)
    have b8 : decide (ty ≤ 8) = false := decide_eq_false (by omega)
    have c8 : decide (ty < 8) = false := decide_eq_false (by omega)
    have d8 : decide (8 < ty) = true := decide_eq_true (by omega)
    have a11 : decide (11 ≤ ty) = true := decide_eq_true (by omega)
    have b11 : decide (ty ≤ 11) = false := decide_eq_false (by omega)
    have c11 : decide (ty < 11) = false := decide_eq_false (by omega)
    have d11 : decide (11 < ty) = true := decide_eq_true (by omega)
    have a13 : decide (13 ≤ ty) = true := decide_eq_true (by omega)
    have b13 : decide (ty ≤ 13) = false := decide_eq_false (by omega)
    have c13 : decide (ty < 13) = false := decide_eq_false (by omega)
    have d13 : decide (13 < ty) = true := decide_eq_true (by omega)
    have a15 : decide (15 ≤ ty) = true := decide_eq_true (by omega)
    have b15 : decide (ty ≤ 15) = false := decide_eq_false (by omega)
    have c15 : decide (ty < 15) = false := decide_eq_false (by omega)
    have d15 : decide (15 < ty) = true := decide_eq_true (by omega)
    go_enter Tryz.func44, Tryz.ntmps44
    go_wp2
    go_ret
    exact ⟨rfl, rfl⟩
theorem rswhole_any (ty : Int) (w : World) : Calls Tryz.prog 87 #[.int .i64 ty] w fun e w' => e = .returned (.bool (wholeT ty)) ∧ w = w' := by
  rcases ty_cases ty with rfl | rfl | rfl | rfl | rfl | rfl | rfl | rfl | rfl | rfl | rfl | rfl | rfl | rfl | rfl | h | h
  · go_enter Tryz.func87, Tryz.ntmps87
    go_wp2
    go_ret
    exact ⟨rfl, rfl⟩
  · go_enter Tryz.func87, Tryz.ntmps87
    go_wp2
    go_ret
    exact ⟨rfl, rfl⟩
  · go_enter Tryz.func87, Tryz.ntmps87
    go_wp2
    go_ret
    exact ⟨rfl, rfl⟩
  · go_enter Tryz.func87, Tryz.ntmps87
    go_wp2
    go_ret
    exact ⟨rfl, rfl⟩
  · go_enter Tryz.func87, Tryz.ntmps87
    go_wp2
    go_ret
    exact ⟨rfl, rfl⟩
  · go_enter Tryz.func87, Tryz.ntmps87
    go_wp2
    go_ret
    exact ⟨rfl, rfl⟩
  · go_enter Tryz.func87, Tryz.ntmps87
    go_wp2
    go_ret
    exact ⟨rfl, rfl⟩
  · go_enter Tryz.func87, Tryz.ntmps87
    go_wp2
    go_ret
    exact ⟨rfl, rfl⟩
  · go_enter Tryz.func87, Tryz.ntmps87
    go_wp2
    go_ret
    exact ⟨rfl, rfl⟩
  · go_enter Tryz.func87, Tryz.ntmps87
    go_wp2
    go_ret
    exact ⟨rfl, rfl⟩
  · go_enter Tryz.func87, Tryz.ntmps87
    go_wp2
    go_ret
    exact ⟨rfl, rfl⟩
  · go_enter Tryz.func87, Tryz.ntmps87
    go_wp2
    go_ret
    exact ⟨rfl, rfl⟩
  · go_enter Tryz.func87, Tryz.ntmps87
    go_wp2
    go_ret
    exact ⟨rfl, rfl⟩
  · go_enter Tryz.func87, Tryz.ntmps87
    go_wp2
    go_ret
    exact ⟨rfl, rfl⟩
  · go_enter Tryz.func87, Tryz.ntmps87
    go_wp2
    go_ret
    exact ⟨rfl, rfl⟩
  · rw [out_whole (by omega)]
    have n1 : ¬ ty = 1 := by omega
    have e1 : (ty == 1) = false := beq_false_of_ne n1
    have n2 : ¬ ty = 2 := by omega
    have e2 : (ty == 2) = false := beq_false_of_ne n2
    have n3 : ¬ ty = 3 := by omega
    have e3 : (ty == 3) = false := beq_false_of_ne n3
    have n4 : ¬ ty = 4 := by omega
    have e4 : (ty == 4) = false := beq_false_of_ne n4
    have n5 : ¬ ty = 5 := by omega
    have e5 : (ty == 5) = false := beq_false_of_ne n5
    have n6 : ¬ ty = 6 := by omega
    have e6 : (ty == 6) = false := beq_false_of_ne n6
    have n7 : ¬ ty = 7 := by omega
    have e7 : (ty == 7) = false := beq_false_of_ne n7
    have n8 : ¬ ty = 8 := by omega
    have e8 : (ty == 8) = false := beq_false_of_ne n8
    have n9 : ¬ ty = 9 := by omega
    have e9 : (ty == 9) = false := beq_false_of_ne n9
    have n10 : ¬ ty = 10 := by omega
    have e10 : (ty == 10) = false := beq_false_of_ne n10
    have n11 : ¬ ty = 11 := by omega
    have e11 : (ty == 11) = false := beq_false_of_ne n11
    have n12 : ¬ ty = 12 := by omega
    have e12 : (ty == 12) = false := beq_false_of_ne n12
    have n13 : ¬ ty = 13 := by omega
    have e13 : (ty == 13) = false := beq_false_of_ne n13
    have n14 : ¬ ty = 14 := by omega
    have e14 : (ty == 14) = false := beq_false_of_ne n14
    have n15 : ¬ ty = 15 := by omega
    have e15 : (ty == 15) = false := beq_false_of_ne n15
    have a1 : decide (1 ≤ ty) = false := decide_eq_false (by omega)
    have b1 : decide (ty ≤ 1) = true := decide_eq_true (by omega)
    have c1 : decide (ty < 1) = true := decide_eq_true (by omega)
    have d1 : decide (1 < ty) = false := decide_eq_false (by omega)
    have a6 : decide (6 ≤ ty) = false := decide_eq_false (by omega)
    have b6 : decide (ty ≤ 6) = true := decide_eq_true (by omega)
    have c6 : decide (ty < 6) = true := decide_eq_true (by omega)
    have d6 : decide (6 < ty) = false := decide_eq_false (by omega)
    have a7 : decide (7 ≤ ty) = false := decide_eq_false (by omega)
    have b7 : decide (ty ≤ 7) = true := decide_eq_true (by omega)
    have c7 : decide (ty < 7) = true := decide_eq_true (by omega)
    have d7 : decide (7 < ty) = false := decide_eq_false (by omega)
    have a8 : decide (8 ≤ ty) = false := decide_eq_false (by omega)
    have b8 : decide (ty ≤ 8) = true := decide_eq_true (by omega)
    have c8 : decide (ty < 8) = true := decide_eq_true (by omega)
    have d8 : decide (8 < ty) = false := decide_eq_false (by omega)
    have a11 : decide (11 ≤ ty) = false := decide_eq_false (by omega)
    have b11 : decide (ty ≤ 11) = true := decide_eq_true (by omega)
    have c11 : decide (ty < 11) = true := decide_eq_true (by omega)
    have d11 : decide (11 < ty) = false := decide_eq_false (by omega)
    have a13 : decide (13 ≤ ty) = false := decide_eq_false (by omega)
    have b13 : decide (ty ≤ 13) = true := decide_eq_true (by omega)
    have c13 : decide (ty < 13) = true := decide_eq_true (by omega)
    have d13 : decide (13 < ty) = false := decide_eq_false (by omega)
    have a15 : decide (15 ≤ ty) = false := decide_eq_false (by omega)
    have b15 : decide (ty ≤ 15) = true := decide_eq_true (by omega)
    have c15 : decide (ty < 15) = true := decide_eq_true (by omega)
    have d15 : decide (15 < ty) = false := decide_eq_false (by omega)
    go_enter Tryz.func87, Tryz.ntmps87
    go_wp2
    go_ret
    exact ⟨rfl, rfl⟩
  · rw [out_whole (by omega)]
    have n1 : ¬ ty = 1 := by omega
    have e1 : (ty == 1) = false := beq_false_of_ne n1
    have n2 : ¬ ty = 2 := by omega
    have e2 : (ty == 2) = false := beq_false_of_ne n2
    have n3 : ¬ ty = 3 := by omega
    have e3 : (ty == 3) = false := beq_false_of_ne n3
    have n4 : ¬ ty = 4 := by omega
    have e4 : (ty == 4) = false := beq_false_of_ne n4
    have n5 : ¬ ty = 5 := by omega
    have e5 : (ty == 5) = false := beq_false_of_ne n5
    have n6 : ¬ ty = 6 := by omega
    have e6 : (ty == 6) = false := beq_false_of_ne n6
    have n7 : ¬ ty = 7 := by omega
    have e7 : (ty == 7) = false := beq_false_of_ne n7
    have n8 : ¬ ty = 8 := by omega
    have e8 : (ty == 8) = false := beq_false_of_ne n8
    have n9 : ¬ ty = 9 := by omega
    have e9 : (ty == 9) = false := beq_false_of_ne n9
    have n10 : ¬ ty = 10 := by omega
    have e10 : (ty == 10) = false := beq_false_of_ne n10
    have n11 : ¬ ty = 11 := by omega
    have e11 : (ty == 11) = false := beq_false_of_ne n11
    have n12 : ¬ ty = 12 := by omega
    have e12 : (ty == 12) = false := beq_false_of_ne n12
    have n13 : ¬ ty = 13 := by omega
    have e13 : (ty == 13) = false := beq_false_of_ne n13
    have n14 : ¬ ty = 14 := by omega
    have e14 : (ty == 14) = false := beq_false_of_ne n14
    have n15 : ¬ ty = 15 := by omega
    have e15 : (ty == 15) = false := beq_false_of_ne n15
    have a1 : decide (1 ≤ ty) = true := decide_eq_true (by omega)
    have b1 : decide (ty ≤ 1) = false := decide_eq_false (by omega)
    have c1 : decide (ty < 1) = false := decide_eq_false (by omega)
    have d1 : decide (1 < ty) = true := decide_eq_true (by omega)
    have a6 : decide (6 ≤ ty) = true := decide_eq_true (by omega)
    have b6 : decide (ty ≤ 6) = false := decide_eq_false (by omega)
    have c6 : decide (ty < 6) = false := decide_eq_false (by omega)
    have d6 : decide (6 < ty) = true := decide_eq_true (by omega)
    have a7 : decide (7 ≤ ty) = true := decide_eq_true (by omega)
    have b7 : decide (ty ≤ 7) = false := decide_eq_false (by omega)
    have c7 : decide (ty < 7) = false := decide_eq_false (by omega)
    have d7 : decide (7 < ty) = true := decide_eq_true (by omega)
    have a8 : decide (8 ≤ ty) = true := decide_eq_true (by omega)
    have b8 : decide (ty ≤ 8) = false := decide_eq_false (by omega)
    have c8 : decide (ty < 8) = false := decide_eq_false (by omega)
    have d8 : decide (8 < ty) = true := decide_eq_true (by omega)
    have a11 : decide (11 ≤ ty) = true := decide_eq_true (by omega)
    have b11 : decide (ty ≤ 11) = false := decide_eq_false (by omega)
    have c11 : decide (ty < 11) = false := decide_eq_false (by omega)
    have d11 : decide (11 < ty) = true := decide_eq_true (by omega)
    have a13 : decide (13 ≤ ty) = true := decide_eq_true (by omega)
    have b13 : decide (ty ≤ 13) = false := decide_eq_false (by omega)
    have c13 : decide (ty < 13) = false := decide_eq_false (by omega)
    have d13 : decide (13 < ty) = true := decide_eq_true (by omega)
    have a15 : decide (15 ≤ ty) = true := decide_eq_true (by omega)
    have b15 : decide (ty ≤ 15) = false := decide_eq_false (by omega)
    have c15 : decide (ty < 15) = false := decide_eq_false (by omega)
    have d15 : decide (15 < ty) = true := decide_eq_true (by omega)
    go_enter Tryz.func87, Tryz.ntmps87
    go_wp2
    go_ret
    exact ⟨rfl, rfl⟩
theorem rsnumber_any (ty : Int) (w : World) : Calls Tryz.prog 41 #[.int .i64 ty] w fun e w' => e = .returned (.bool (numberT ty)) ∧ w = w' := by
  rcases ty_cases ty with rfl | rfl | rfl | rfl | rfl | rfl | rfl | rfl | rfl | rfl | rfl | rfl | rfl | rfl | rfl | h | h
  · go_enter Tryz.func41, Tryz.ntmps41
    go_wp2_with (first | (go_at_call 87; refine (rswhole_any _ _).mono ?_; rintro e w' ⟨rfl, rfl⟩; (try rw [out_whole (by omega)])))
    go_ret
    exact ⟨rfl, rfl⟩
  · go_enter Tryz.func41, Tryz.ntmps41
    go_wp2_with (first | (go_at_call 87; refine (rswhole_any _ _).mono ?_; rintro e w' ⟨rfl, rfl⟩; (try rw [out_whole (by omega)])))
    go_ret
    exact ⟨rfl, rfl⟩
  · go_enter Tryz.func41, Tryz.ntmps41
    go_wp2_with (first | (go_at_call 87; refine (rswhole_any _ _).mono ?_; rintro e w' ⟨rfl, rfl⟩; (try rw [out_whole (by omega)])))
    go_ret
    exact ⟨rfl, rfl⟩
  · go_enter Tryz.func41, Tryz.ntmps41
    go_wp2_with (first | (go_at_call 87; refine (rswhole_any _ _).mono ?_; rintro e w' ⟨rfl, rfl⟩; (try rw [out_whole (by omega)])))
    go_ret
    exact ⟨rfl, rfl⟩
  · go_enter Tryz.func41, Tryz.ntmps41
    go_wp2_with (first | (go_at_call 87; refine (rswhole_any _ _).mono ?_; rintro e w' ⟨rfl, rfl⟩; (try rw [out_whole (by omega)])))
    go_ret
    exact ⟨rfl, rfl⟩
  · go_enter Tryz.func41, Tryz.ntmps41
    go_wp2_with (first | (go_at_call 87; refine (rswhole_any _ _).mono ?_; rintro e w' ⟨rfl, rfl⟩; (try rw [out_whole (by omega)])))
    go_ret
    exact ⟨rfl, rfl⟩
  · go_enter Tryz.func41, Tryz.ntmps41
    go_wp2_with (first | (go_at_call 87; refine (rswhole_any _ _).mono ?_; rintro e w' ⟨rfl, rfl⟩; (try rw [out_whole (by omega)])))
    go_ret
    exact ⟨rfl, rfl⟩
  · go_enter Tryz.func41, Tryz.ntmps41
    go_wp2_with (first | (go_at_call 87; refine (rswhole_any _ _).mono ?_; rintro e w' ⟨rfl, rfl⟩; (try rw [out_whole (by omega)])))
    go_ret
    exact ⟨rfl, rfl⟩
  · go_enter Tryz.func41, Tryz.ntmps41
    go_wp2_with (first | (go_at_call 87; refine (rswhole_any _ _).mono ?_; rintro e w' ⟨rfl, rfl⟩; (try rw [out_whole (by omega)])))
    go_ret
    exact ⟨rfl, rfl⟩
  · go_enter Tryz.func41, Tryz.ntmps41
    go_wp2_with (first | (go_at_call 87; refine (rswhole_any _ _).mono ?_; rintro e w' ⟨rfl, rfl⟩; (try rw [out_whole (by omega)])))
    go_ret
    exact ⟨rfl, rfl⟩
  · go_enter Tryz.func41, Tryz.ntmps41
    go_wp2_with (first | (go_at_call 87; refine (rswhole_any _ _).mono ?_; rintro e w' ⟨rfl, rfl⟩; (try rw [out_whole (by omega)])))
    go_ret
    exact ⟨rfl, rfl⟩
  · go_enter Tryz.func41, Tryz.ntmps41
    go_wp2_with (first | (go_at_call 87; refine (rswhole_any _ _).mono ?_; rintro e w' ⟨rfl, rfl⟩; (try rw [out_whole (by omega)])))
    go_ret
    exact ⟨rfl, rfl⟩
  · go_enter Tryz.func41, Tryz.ntmps41
    go_wp2_with (first | (go_at_call 87; refine (rswhole_any _ _).mono ?_; rintro e w' ⟨rfl, rfl⟩; (try rw [out_whole (by omega)])))
    go_ret
    exact ⟨rfl, rfl⟩
  · go_enter Tryz.func41, Tryz.ntmps41
    go_wp2_with (first | (go_at_call 87; refine (rswhole_any _ _).mono ?_; rintro e w' ⟨rfl, rfl⟩; (try rw [out_whole (by omega)])))
    go_ret
    exact ⟨rfl, rfl⟩
  · go_enter Tryz.func41, Tryz.ntmps41
    go_wp2_with (first | (go_at_call 87; refine (rswhole_any _ _).mono ?_; rintro e w' ⟨rfl, rfl⟩; (try rw [out_whole (by omega)])))
    go_ret
    exact ⟨rfl, rfl⟩
  · rw [out_number (by omega)]
    have n1 : ¬ ty = 1 := by omega
    have e1 : (ty == 1) = false := beq_false_of_ne n1
    have n2 : ¬ ty = 2 := by omega
    have e2 : (ty == 2) = false := beq_false_of_ne n2
    have n3 : ¬ ty = 3 := by omega
    have e3 : (ty == 3) = false := beq_false_of_ne n3
    have n4 : ¬ ty = 4 := by omega
    have e4 : (ty == 4) = false := beq_false_of_ne n4
    have n5 : ¬ ty = 5 := by omega
    have e5 : (ty == 5) = false := beq_false_of_ne n5
    have n6 : ¬ ty = 6 := by omega
    have e6 : (ty == 6) = false := beq_false_of_ne n6
    have n7 : ¬ ty = 7 := by omega
    have e7 : (ty == 7) = false := beq_false_of_ne n7
    have n8 : ¬ ty = 8 := by omega
    have e8 : (ty == 8) = false := beq_false_of_ne n8
    have n9 : ¬ ty = 9 := by omega
    have e9 : (ty == 9) = false := beq_false_of_ne n9
    have n10 : ¬ ty = 10 := by omega
    have e10 : (ty == 10) = false := beq_false_of_ne n10
    have n11 : ¬ ty = 11 := by omega
    have e11 : (ty == 11) = false := beq_false_of_ne n11
    have n12 : ¬ ty = 12 := by omega
    have e12 : (ty == 12) = false := beq_false_of_ne n12
    have n13 : ¬ ty = 13 := by omega
    have e13 : (ty == 13) = false := beq_false_of_ne n13
    have n14 : ¬ ty = 14 := by omega
    have e14 : (ty == 14) = false := beq_false_of_ne n14
    have n15 : ¬ ty = 15 := by omega
    have e15 : (ty == 15) = false := beq_false_of_ne n15
    have a1 : decide (1 ≤ ty) = false := decide_eq_false (by omega)
    have b1 : decide (ty ≤ 1) = true := decide_eq_true (by omega)
    have c1 : decide (ty < 1) = true := decide_eq_true (by omega)
    have d1 : decide (1 < ty) = false := decide_eq_false (by omega)
    have a6 : decide (6 ≤ ty) = false := decide_eq_false (by omega)
    have b6 : decide (ty ≤ 6) = true := decide_eq_true (by omega)
    have c6 : decide (ty < 6) = true := decide_eq_true (by omega)
    have d6 : decide (6 < ty) = false := decide_eq_false (by omega)
    have a7 : decide (7 ≤ ty) = false := decide_eq_false (by omega)
    have b7 : decide (ty ≤ 7) = true := decide_eq_true (by omega)
    have c7 : decide (ty < 7) = true := decide_eq_true (by omega)
    have d7 : decide (7 < ty) = false := decide_eq_false (by omega)
    have a8 : decide (8 ≤ ty) = false := decide_eq_false (by omega)
    have b8 : decide (ty ≤ 8) = true := decide_eq_true (by omega)
    have c8 : decide (ty < 8) = true := decide_eq_true (by omega)
    have d8 : decide (8 < ty) = false := decide_eq_false (by omega)
    have a11 : decide (11 ≤ ty) = false := decide_eq_false (by omega)
    have b11 : decide (ty ≤ 11) = true := decide_eq_true (by omega)
    have c11 : decide (ty < 11) = true := decide_eq_true (by omega)
    have d11 : decide (11 < ty) = false := decide_eq_false (by omega)
    have a13 : decide (13 ≤ ty) = false := decide_eq_false (by omega)
    have b13 : decide (ty ≤ 13) = true := decide_eq_true (by omega)
    have c13 : decide (ty < 13) = true := decide_eq_true (by omega)
    have d13 : decide (13 < ty) = false := decide_eq_false (by omega)
    have a15 : decide (15 ≤ ty) = false := decide_eq_false (by omega)
    have b15 : decide (ty ≤ 15) = true := decide_eq_true (by omega)
    have c15 : decide (ty < 15) = true := decide_eq_true (by omega)
    have d15 : decide (15 < ty) = false := decide_eq_false (by omega)
    go_enter Tryz.func41, Tryz.ntmps41
    go_wp2_with (first | (go_at_call 87; refine (rswhole_any _ _).mono ?_; rintro e w' ⟨rfl, rfl⟩; (try rw [out_whole (by omega)])))
    go_ret
    exact ⟨rfl, rfl⟩
  · rw [out_number (by omega)]
    have n1 : ¬ ty = 1 := by omega
    have e1 : (ty == 1) = false := beq_false_of_ne n1
    have n2 : ¬ ty = 2 := by omega
    have e2 : (ty == 2) = false := beq_false_of_ne n2
    have n3 : ¬ ty = 3 := by omega
    have e3 : (ty == 3) = false := beq_false_of_ne n3
    have n4 : ¬ ty = 4 := by omega
    have e4 : (ty == 4) = false := beq_false_of_ne n4
    have n5 : ¬ ty = 5 := by omega
    have e5 : (ty == 5) = false := beq_false_of_ne n5
    have n6 : ¬ ty = 6 := by omega
    have e6 : (ty == 6) = false := beq_false_of_ne n6
    have n7 : ¬ ty = 7 := by omega
    have e7 : (ty == 7) = false := beq_false_of_ne n7
    have n8 : ¬ ty = 8 := by omega
    have e8 : (ty == 8) = false := beq_false_of_ne n8
    have n9 : ¬ ty = 9 := by omega
    have e9 : (ty == 9) = false := beq_false_of_ne n9
    have n10 : ¬ ty = 10 := by omega
    have e10 : (ty == 10) = false := beq_false_of_ne n10
    have n11 : ¬ ty = 11 := by omega
    have e11 : (ty == 11) = false := beq_false_of_ne n11
    have n12 : ¬ ty = 12 := by omega
    have e12 : (ty == 12) = false := beq_false_of_ne n12
    have n13 : ¬ ty = 13 := by omega
    have e13 : (ty == 13) = false := beq_false_of_ne n13
    have n14 : ¬ ty = 14 := by omega
    have e14 : (ty == 14) = false := beq_false_of_ne n14
    have n15 : ¬ ty = 15 := by omega
    have e15 : (ty == 15) = false := beq_false_of_ne n15
    have a1 : decide (1 ≤ ty) = true := decide_eq_true (by omega)
    have b1 : decide (ty ≤ 1) = false := decide_eq_false (by omega)
    have c1 : decide (ty < 1) = false := decide_eq_false (by omega)
    have d1 : decide (1 < ty) = true := decide_eq_true (by omega)
    have a6 : decide (6 ≤ ty) = true := decide_eq_true (by omega)
    have b6 : decide (ty ≤ 6) = false := decide_eq_false (by omega)
    have c6 : decide (ty < 6) = false := decide_eq_false (by omega)
    have d6 : decide (6 < ty) = true := decide_eq_true (by omega)
    have a7 : decide (7 ≤ ty) = true := decide_eq_true (by omega)
    have b7 : decide (ty ≤ 7) = false := decide_eq_false (by omega)
    have c7 : decide (ty < 7) = false := decide_eq_false (by omega)
    have d7 : decide (7 < ty) = true := decide_eq_true (by omega)
    have a8 : decide (8 ≤ ty) = true := decide_eq_true (by omega)
    have b8 : decide (ty ≤ 8) = false := decide_eq_false (by omega)
    have c8 : decide (ty < 8) = false := decide_eq_false (by omega)
    have d8 : decide (8 < ty) = true := decide_eq_true (by omega)
    have a11 : decide (11 ≤ ty) = true := decide_eq_true (by omega)
    have b11 : decide (ty ≤ 11) = false := decide_eq_false (by omega)
    have c11 : decide (ty < 11) = false := decide_eq_false (by omega)
    have d11 : decide (11 < ty) = true := decide_eq_true (by omega)
    have a13 : decide (13 ≤ ty) = true := decide_eq_true (by omega)
    have b13 : decide (ty ≤ 13) = false := decide_eq_false (by omega)
    have c13 : decide (ty < 13) = false := decide_eq_false (by omega)
    have d13 : decide (13 < ty) = true := decide_eq_true (by omega)
    have a15 : decide (15 ≤ ty) = true := decide_eq_true (by omega)
    have b15 : decide (ty ≤ 15) = false := decide_eq_false (by omega)
    have c15 : decide (ty < 15) = false := decide_eq_false (by omega)
    have d15 : decide (15 < ty) = true := decide_eq_true (by omega)
    go_enter Tryz.func41, Tryz.ntmps41
    go_wp2_with (first | (go_at_call 87; refine (rswhole_any _ _).mono ?_; rintro e w' ⟨rfl, rfl⟩; (try rw [out_whole (by omega)])))
    go_ret
    exact ⟨rfl, rfl⟩
end Go.Proofs.YtpfdnggacpehdaaGreatDoor

/- The calls of package zig, and of the document's answer, each with what it returns, for every input; the world is as it was. -/
namespace Go.Proofs.YtpfdnggacpehdaaGreatDoor
open Go.RowKit
set_option linter.unusedVariables false
set_option maxRecDepth 100000

theorem back_any (n : Nat) (w : World) (h : n < 18446744073709551616) :
    Calls Tryz.prog 129 #[.int .u64 (n : Int)] w fun e w' => e = .returned (.int .u64 (backN n : Int)) ∧ w = w' := by
  go_enter Tryz.func129, Tryz.ntmps129
  go_wp2
  go_ret
  exact ⟨ret_int' (back_bits n h), rfl⟩
theorem moved_back (n : Nat) (w : World) (h : n < 18446744073709551616) :
    Calls Tryz.prog 128 #[.int .u64 (n : Int), .func (.func 129) #[] #[]] w fun e w' => e = .returned (.int .u64 (backN n : Int)) ∧ w = w' := by
  have hb := backN_lt n h
  go_enter Tryz.func128, Tryz.ntmps128
  go_wp2_with (refine (back_any n _ h).mono ?_; rintro e w' ⟨rfl, rfl⟩)
  go_ret
  exact ⟨rfl, rfl⟩
theorem zag_any (n : Nat) (w : World) (h : n < 18446744073709551616) :
    Calls Tryz.prog 85 #[.int .u64 (n : Int)] w fun e w' => e = .returned (.int .i64 (zagI n)) ∧ w = w' := by
  have HZ := Lib.hid (zag_back n h)
  go_enter Tryz.func85, Tryz.ntmps85
  go_wp2_with (refine (moved_back n _ h).mono ?_; rintro e w' ⟨rfl, rfl⟩)
  go_ret
  exact ⟨ret_int' HZ.out, rfl⟩
theorem rzag_any (n : Nat) (w : World) (h : n < 18446744073709551616) :
    Calls Tryz.prog 93 #[.int .u64 (n : Int)] w fun e w' => e = .returned (.int .i64 (zagI n)) ∧ w = w' := by
  go_enter Tryz.func93, Tryz.ntmps93
  go_wp2
  all_goals go_ret
  · rename_i hc; rw [beq_iff_eq] at hc; exact ⟨ret_int' (by unfold zagI; rw [if_pos (by omega)]; omega), rfl⟩
  · rename_i hc; rw [beq_eq_false_iff_ne] at hc; exact ⟨ret_int' (by unfold zagI; rw [if_neg (by omega)]; omega), rfl⟩
theorem wide_any (n : Nat) (w : World) (h : n < 18446744073709551616) :
    Calls Tryz.prog 86 #[.int .u64 (n : Int)] w fun e w' => e = .returned (.int .i64 (wideI n)) ∧ w = w' := by
  go_enter Tryz.func86, Tryz.ntmps86
  go_wp2
  go_ret
  exact ⟨ret_int' (wide_wraps n), rfl⟩
theorem rwide_any (n : Nat) (w : World) (h : n < 18446744073709551616) :
    Calls Tryz.prog 92 #[.int .u64 (n : Int)] w fun e w' => e = .returned (.int .i64 (wideI n)) ∧ w = w' := by
  obtain ⟨m, hm⟩ : ∃ m : Nat, m = n % 4294967296 := ⟨_, rfl⟩
  have HW : Hid (wideI n = if m < 2147483648 then (m : Int) else (m : Int) - 4294967296) := by show _ = _; unfold wideI; rw [← hm]
  have e0 : (n : Int) % 4294967296 = (m : Int) := by omega
  have hm2 : m < 4294967296 := by omega
  clear hm
  by_cases h1 : m < 2147483648
  · have g1 : decide ((2147483648 : Int) ≤ (m : Int)) = false := decide_eq_false (by omega)
    go_enter Tryz.func92, Tryz.ntmps92
    go_wp2
    go_ret
    exact ⟨ret_int' (by rw [HW.out, if_pos h1]), rfl⟩
  · have g1 : decide ((2147483648 : Int) ≤ (m : Int)) = true := decide_eq_true (by omega)
    go_enter Tryz.func92, Tryz.ntmps92
    go_wp2
    go_ret
    exact ⟨ret_int' (by rw [HW.out, if_neg h1]), rfl⟩
theorem low_any (a : Int) (w : World) (h0 : -9223372036854775808 ≤ a) (h : a < 9223372036854775808) :
    Calls Tryz.prog 127 #[.int .i64 a] w fun e w' => e = .returned (.int .u32 ((a % 4294967296).toNat : Int)) ∧ w = w' := by
  go_enter Tryz.func127, Tryz.ntmps127
  go_wp2
  go_ret
  exact ⟨ret_int' (by simp; omega), rfl⟩
end Go.Proofs.YtpfdnggacpehdaaGreatDoor

/- The document's From and To of numbers. Conditions: those that each theorem names. -/
namespace Go.Proofs.YtpfdnggacpehdaaGreatDoor
open Go.RowKit
set_option linter.unusedVariables false
set_option maxRecDepth 100000

theorem wrap64_ge (a : Int) : -9223372036854775808 ≤ wrap64 a := by unfold wrap64; omega
theorem wrap64_lt (a : Int) : wrap64 a < 9223372036854775808 := by unfold wrap64; omega
set_option maxHeartbeats 4000000 in
theorem rnfrom_any (ty : Int) (n : Nat) (w : World) (hn : n < 18446744073709551616) : Calls Tryz.prog 47 #[.int .i64 ty, .int .u64 (n : Int)] w fun e w' => e = .returned (.int .u64 (fromT ty n : Int)) ∧ w = w' := by
  rcases ty_cases ty with rfl | rfl | rfl | rfl | rfl | rfl | rfl | rfl | rfl | rfl | rfl | rfl | rfl | rfl | rfl | h | h
  · have HW := Lib.hid (fun w => rwide_any n w hn)
    have HM : Hid ((fromT 1 n : Int) = IntKind.u64.wrap (wideI n)) := by
      show _ = _
      rw [fromT, if_pos (by omega), u64of_wrap]
    rw [HM.out]
    clear HM
    go_enter Tryz.func47, Tryz.ntmps47
    go_wp2_with (first | (go_at_call 92; refine (HW.out _).mono ?_; rintro e w' ⟨rfl, rfl⟩))
    go_ret
    exact ⟨rfl, rfl⟩
  · have HM : Hid ((fromT 2 n : Int) = (n : Int)) := by
      show _ = _
      rw [fromT, if_neg (by omega), if_neg (by omega), if_neg (by omega), if_neg (by omega), if_neg (by omega), if_pos (by decide)]
    rw [HM.out]
    clear HM
    go_enter Tryz.func47, Tryz.ntmps47
    go_wp2_with (first | (go_at_call 41; refine (rsnumber_any _ _).mono ?_; rintro e w' ⟨rfl, rfl⟩))
    go_ret
    exact ⟨rfl, rfl⟩
  · have HM : Hid ((fromT 3 n : Int) = (n : Int) % 4294967296) := by
      show _ = _
      rw [fromT, if_neg (by omega), if_pos (by omega)]
      omega
    rw [HM.out]
    clear HM
    go_enter Tryz.func47, Tryz.ntmps47
    go_wp2
    go_ret
    exact ⟨rfl, rfl⟩
  · have HM : Hid ((fromT 4 n : Int) = (n : Int)) := by
      show _ = _
      rw [fromT, if_neg (by omega), if_neg (by omega), if_neg (by omega), if_neg (by omega), if_neg (by omega), if_pos (by decide)]
    rw [HM.out]
    clear HM
    go_enter Tryz.func47, Tryz.ntmps47
    go_wp2_with (first | (go_at_call 41; refine (rsnumber_any _ _).mono ?_; rintro e w' ⟨rfl, rfl⟩))
    go_ret
    exact ⟨rfl, rfl⟩
  · obtain ⟨m, hm⟩ : ∃ m, m = n % 4294967296 := ⟨_, rfl⟩
    have hm2 : (n : Int) % 4294967296 = (m : Int) := by omega
    have HW := Lib.hid (fun w => rzag_any m w (by omega))
    have HM : Hid ((fromT 5 n : Int) = IntKind.u64.wrap (zagI m)) := by
      show _ = _
      rw [fromT, if_neg (by omega), if_neg (by omega), if_pos (by omega), u64of_wrap, ← hm]
    rw [HM.out]
    clear HM
    clear hm
    go_enter Tryz.func47, Tryz.ntmps47
    go_wp2_with (first | (go_at_call 93; refine (HW.out _).mono ?_; rintro e w' ⟨rfl, rfl⟩))
    go_ret
    exact ⟨rfl, rfl⟩
  · have HW := Lib.hid (fun w => rzag_any n w hn)
    have HM : Hid ((fromT 6 n : Int) = IntKind.u64.wrap (zagI n)) := by
      show _ = _
      rw [fromT, if_neg (by omega), if_neg (by omega), if_neg (by omega), if_pos (by omega), u64of_wrap]
    rw [HM.out]
    clear HM
    go_enter Tryz.func47, Tryz.ntmps47
    go_wp2_with (first | (go_at_call 93; refine (HW.out _).mono ?_; rintro e w' ⟨rfl, rfl⟩))
    go_ret
    exact ⟨rfl, rfl⟩
  · by_cases h0 : n = 0
    · subst h0
      have HM : Hid ((fromT 7 0 : Int) = 0) := rfl
      rw [HM.out]
      clear HM
      go_enter Tryz.func47, Tryz.ntmps47
      go_wp2
      go_ret
      exact ⟨rfl, rfl⟩
    · have HM : Hid ((fromT 7 n : Int) = 1) := by
        show _ = _
        rw [fromT, if_neg (by omega), if_neg (by omega), if_neg (by omega), if_neg (by omega), if_pos (by omega), if_neg h0]
        rfl
      have h1 : ¬ (n : Int) = 0 := by omega
      have h2 : ((n : Int) == 0) = false := beq_false_of_ne h1
      rw [HM.out]
      clear HM
      go_enter Tryz.func47, Tryz.ntmps47
      go_wp2
      go_ret
      exact ⟨rfl, rfl⟩
  · have HM : Hid ((fromT 8 n : Int) = (n : Int) % 4294967296) := by
      show _ = _
      rw [fromT, if_neg (by omega), if_pos (by omega)]
      omega
    rw [HM.out]
    clear HM
    go_enter Tryz.func47, Tryz.ntmps47
    go_wp2
    go_ret
    exact ⟨rfl, rfl⟩
  · have HM : Hid ((fromT 9 n : Int) = (n : Int)) := by
      show _ = _
      rw [fromT, if_neg (by omega), if_neg (by omega), if_neg (by omega), if_neg (by omega), if_neg (by omega), if_pos (by decide)]
    rw [HM.out]
    clear HM
    go_enter Tryz.func47, Tryz.ntmps47
    go_wp2_with (first | (go_at_call 41; refine (rsnumber_any _ _).mono ?_; rintro e w' ⟨rfl, rfl⟩))
    go_ret
    exact ⟨rfl, rfl⟩
  · have HW := Lib.hid (fun w => rwide_any n w hn)
    have HM : Hid ((fromT 10 n : Int) = IntKind.u64.wrap (wideI n)) := by
      show _ = _
      rw [fromT, if_pos (by omega), u64of_wrap]
    rw [HM.out]
    clear HM
    go_enter Tryz.func47, Tryz.ntmps47
    go_wp2_with (first | (go_at_call 92; refine (HW.out _).mono ?_; rintro e w' ⟨rfl, rfl⟩))
    go_ret
    exact ⟨rfl, rfl⟩
  · have HM : Hid ((fromT 11 n : Int) = (n : Int)) := by
      show _ = _
      rw [fromT, if_neg (by omega), if_neg (by omega), if_neg (by omega), if_neg (by omega), if_neg (by omega), if_pos (by decide)]
    rw [HM.out]
    clear HM
    go_enter Tryz.func47, Tryz.ntmps47
    go_wp2_with (first | (go_at_call 41; refine (rsnumber_any _ _).mono ?_; rintro e w' ⟨rfl, rfl⟩))
    go_ret
    exact ⟨rfl, rfl⟩
  · have HM : Hid ((fromT 12 n : Int) = 0) := by
      show _ = _
      rw [fromT, if_neg (by omega), if_neg (by omega), if_neg (by omega), if_neg (by omega), if_neg (by omega), if_neg (by decide)]
      rfl
    rw [HM.out]
    clear HM
    go_enter Tryz.func47, Tryz.ntmps47
    go_wp2_with (first | (go_at_call 41; refine (rsnumber_any _ _).mono ?_; rintro e w' ⟨rfl, rfl⟩))
    go_ret
    exact ⟨rfl, rfl⟩
  · have HM : Hid ((fromT 13 n : Int) = 0) := by
      show _ = _
      rw [fromT, if_neg (by omega), if_neg (by omega), if_neg (by omega), if_neg (by omega), if_neg (by omega), if_neg (by decide)]
      rfl
    rw [HM.out]
    clear HM
    go_enter Tryz.func47, Tryz.ntmps47
    go_wp2_with (first | (go_at_call 41; refine (rsnumber_any _ _).mono ?_; rintro e w' ⟨rfl, rfl⟩))
    go_ret
    exact ⟨rfl, rfl⟩
  · have HW := Lib.hid (fun w => rwide_any n w hn)
    have HM : Hid ((fromT 14 n : Int) = IntKind.u64.wrap (wideI n)) := by
      show _ = _
      rw [fromT, if_pos (by omega), u64of_wrap]
    rw [HM.out]
    clear HM
    go_enter Tryz.func47, Tryz.ntmps47
    go_wp2_with (first | (go_at_call 92; refine (HW.out _).mono ?_; rintro e w' ⟨rfl, rfl⟩))
    go_ret
    exact ⟨rfl, rfl⟩
  · have HM : Hid ((fromT 15 n : Int) = 0) := by
      show _ = _
      rw [fromT, if_neg (by omega), if_neg (by omega), if_neg (by omega), if_neg (by omega), if_neg (by omega), if_neg (by decide)]
      rfl
    rw [HM.out]
    clear HM
    go_enter Tryz.func47, Tryz.ntmps47
    go_wp2_with (first | (go_at_call 41; refine (rsnumber_any _ _).mono ?_; rintro e w' ⟨rfl, rfl⟩))
    go_ret
    exact ⟨rfl, rfl⟩
  · rw [out_from _ (by omega)]
    have n1 : ¬ ty = 1 := by omega
    have e1 : (ty == 1) = false := beq_false_of_ne n1
    have n2 : ¬ ty = 2 := by omega
    have e2 : (ty == 2) = false := beq_false_of_ne n2
    have n3 : ¬ ty = 3 := by omega
    have e3 : (ty == 3) = false := beq_false_of_ne n3
    have n4 : ¬ ty = 4 := by omega
    have e4 : (ty == 4) = false := beq_false_of_ne n4
    have n5 : ¬ ty = 5 := by omega
    have e5 : (ty == 5) = false := beq_false_of_ne n5
    have n6 : ¬ ty = 6 := by omega
    have e6 : (ty == 6) = false := beq_false_of_ne n6
    have n7 : ¬ ty = 7 := by omega
    have e7 : (ty == 7) = false := beq_false_of_ne n7
    have n8 : ¬ ty = 8 := by omega
    have e8 : (ty == 8) = false := beq_false_of_ne n8
    have n9 : ¬ ty = 9 := by omega
    have e9 : (ty == 9) = false := beq_false_of_ne n9
    have n10 : ¬ ty = 10 := by omega
    have e10 : (ty == 10) = false := beq_false_of_ne n10
    have n11 : ¬ ty = 11 := by omega
    have e11 : (ty == 11) = false := beq_false_of_ne n11
    have n12 : ¬ ty = 12 := by omega
    have e12 : (ty == 12) = false := beq_false_of_ne n12
    have n13 : ¬ ty = 13 := by omega
    have e13 : (ty == 13) = false := beq_false_of_ne n13
    have n14 : ¬ ty = 14 := by omega
    have e14 : (ty == 14) = false := beq_false_of_ne n14
    have n15 : ¬ ty = 15 := by omega
    have e15 : (ty == 15) = false := beq_false_of_ne n15
    have a1 : decide (1 ≤ ty) = false := decide_eq_false (by omega)
    have b1 : decide (ty ≤ 1) = true := decide_eq_true (by omega)
    have c1 : decide (ty < 1) = true := decide_eq_true (by omega)
    have d1 : decide (1 < ty) = false := decide_eq_false (by omega)
    have a6 : decide (6 ≤ ty) = false := decide_eq_false (by omega)
    have b6 : decide (ty ≤ 6) = true := decide_eq_true (by omega)
    have c6 : decide (ty < 6) = true := decide_eq_true (by omega)
    have d6 : decide (6 < ty) = false := decide_eq_false (by omega)
    have a7 : decide (7 ≤ ty) = false := decide_eq_false (by omega)
    have b7 : decide (ty ≤ 7) = true := decide_eq_true (by omega)
    have c7 : decide (ty < 7) = true := decide_eq_true (by omega)
    have d7 : decide (7 < ty) = false := decide_eq_false (by omega)
    have a8 : decide (8 ≤ ty) = false := decide_eq_false (by omega)
    have b8 : decide (ty ≤ 8) = true := decide_eq_true (by omega)
    have c8 : decide (ty < 8) = true := decide_eq_true (by omega)
    have d8 : decide (8 < ty) = false := decide_eq_false (by omega)
    have a11 : decide (11 ≤ ty) = false := decide_eq_false (by omega)
    have b11 : decide (ty ≤ 11) = true := decide_eq_true (by omega)
    have c11 : decide (ty < 11) = true := decide_eq_true (by omega)
    have d11 : decide (11 < ty) = false := decide_eq_false (by omega)
    have a13 : decide (13 ≤ ty) = false := decide_eq_false (by omega)
    have b13 : decide (ty ≤ 13) = true := decide_eq_true (by omega)
    have c13 : decide (ty < 13) = true := decide_eq_true (by omega)
    have d13 : decide (13 < ty) = false := decide_eq_false (by omega)
    have a15 : decide (15 ≤ ty) = false := decide_eq_false (by omega)
    have b15 : decide (ty ≤ 15) = true := decide_eq_true (by omega)
    have c15 : decide (ty < 15) = true := decide_eq_true (by omega)
    have d15 : decide (15 < ty) = false := decide_eq_false (by omega)
    have HNU := Lib.hid (fun w => rsnumber_any ty w)
    rw [out_number (by omega)] at HNU
    go_enter Tryz.func47, Tryz.ntmps47
    go_wp2_with (go_at_call 41; refine (HNU.out _).mono ?_; rintro e w' ⟨rfl, rfl⟩)
    go_ret
    exact ⟨rfl, rfl⟩
  · rw [out_from _ (by omega)]
    have n1 : ¬ ty = 1 := by omega
    have e1 : (ty == 1) = false := beq_false_of_ne n1
    have n2 : ¬ ty = 2 := by omega
    have e2 : (ty == 2) = false := beq_false_of_ne n2
    have n3 : ¬ ty = 3 := by omega
    have e3 : (ty == 3) = false := beq_false_of_ne n3
    have n4 : ¬ ty = 4 := by omega
    have e4 : (ty == 4) = false := beq_false_of_ne n4
    have n5 : ¬ ty = 5 := by omega
    have e5 : (ty == 5) = false := beq_false_of_ne n5
    have n6 : ¬ ty = 6 := by omega
    have e6 : (ty == 6) = false := beq_false_of_ne n6
    have n7 : ¬ ty = 7 := by omega
    have e7 : (ty == 7) = false := beq_false_of_ne n7
    have n8 : ¬ ty = 8 := by omega
    have e8 : (ty == 8) = false := beq_false_of_ne n8
    have n9 : ¬ ty = 9 := by omega
    have e9 : (ty == 9) = false := beq_false_of_ne n9
    have n10 : ¬ ty = 10 := by omega
    have e10 : (ty == 10) = false := beq_false_of_ne n10
    have n11 : ¬ ty = 11 := by omega
    have e11 : (ty == 11) = false := beq_false_of_ne n11
    have n12 : ¬ ty = 12 := by omega
    have e12 : (ty == 12) = false := beq_false_of_ne n12
    have n13 : ¬ ty = 13 := by omega
    have e13 : (ty == 13) = false := beq_false_of_ne n13
    have n14 : ¬ ty = 14 := by omega
    have e14 : (ty == 14) = false := beq_false_of_ne n14
    have n15 : ¬ ty = 15 := by omega
    have e15 : (ty == 15) = false := beq_false_of_ne n15
    have a1 : decide (1 ≤ ty) = true := decide_eq_true (by omega)
    have b1 : decide (ty ≤ 1) = false := decide_eq_false (by omega)
    have c1 : decide (ty < 1) = false := decide_eq_false (by omega)
    have d1 : decide (1 < ty) = true := decide_eq_true (by omega)
    have a6 : decide (6 ≤ ty) = true := decide_eq_true (by omega)
    have b6 : decide (ty ≤ 6) = false := decide_eq_false (by omega)
    have c6 : decide (ty < 6) = false := decide_eq_false (by omega)
    have d6 : decide (6 < ty) = true := decide_eq_true (by omega)
    have a7 : decide (7 ≤ ty) = true := decide_eq_true (by omega)
    have b7 : decide (ty ≤ 7) = false := decide_eq_false (by omega)
    have c7 : decide (ty < 7) = false := decide_eq_false (by omega)
    have d7 : decide (7 < ty) = true := decide_eq_true (by omega)
    have a8 : decide (8 ≤ ty) = true := decide_eq_true (by omega)
    have b8 : decide (ty ≤ 8) = false := decide_eq_false (by omega)
    have c8 : decide (ty < 8) = false := decide_eq_false (by omega)
    have d8 : decide (8 < ty) = true := decide_eq_true (by omega)
    have a11 : decide (11 ≤ ty) = true := decide_eq_true (by omega)
    have b11 : decide (ty ≤ 11) = false := decide_eq_false (by omega)
    have c11 : decide (ty < 11) = false := decide_eq_false (by omega)
    have d11 : decide (11 < ty) = true := decide_eq_true (by omega)
    have a13 : decide (13 ≤ ty) = true := decide_eq_true (by omega)
    have b13 : decide (ty ≤ 13) = false := decide_eq_false (by omega)
    have c13 : decide (ty < 13) = false := decide_eq_false (by omega)
    have d13 : decide (13 < ty) = true := decide_eq_true (by omega)
    have a15 : decide (15 ≤ ty) = true := decide_eq_true (by omega)
    have b15 : decide (ty ≤ 15) = false := decide_eq_false (by omega)
    have c15 : decide (ty < 15) = false := decide_eq_false (by omega)
    have d15 : decide (15 < ty) = true := decide_eq_true (by omega)
    have HNU := Lib.hid (fun w => rsnumber_any ty w)
    rw [out_number (by omega)] at HNU
    go_enter Tryz.func47, Tryz.ntmps47
    go_wp2_with (go_at_call 41; refine (HNU.out _).mono ?_; rintro e w' ⟨rfl, rfl⟩)
    go_ret
    exact ⟨rfl, rfl⟩
end Go.Proofs.YtpfdnggacpehdaaGreatDoor
