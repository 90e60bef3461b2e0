/- Several texts in one: RsA. What each proves, and its conditions, stands at its own head. -/
import Derived.Test.YtjogamffdbedkaaGreatDoorChecked
import Derived.Test.YtjogamffdbedkaaGreatDoorPkA12
import Derived.Test.YtjogamffdbedkaaGreatDoorPkA0
import Derived.WalkKit
import Derived.OwnWalk
import Derived.RowKitTokens
import Derived.Lib.Hide
/- The document's kinds of types. Conditions: those that each theorem names. -/
namespace Go.Proofs.YtjogamffdbedkaaGreatDoor
open Go.RowKit
set_option linter.unusedVariables false
set_option maxRecDepth 100000

theorem rswhole_any (ty : Int) (w : World) : Calls Tryz.prog 103 #[.int .i64 ty] w fun e w' => e = .returned (.bool (wholeT ty)) ∧ w = w' := by
  rcases ty_cases ty with rfl | rfl | rfl | rfl | rfl | rfl | rfl | rfl | rfl | rfl | rfl | rfl | rfl | rfl | rfl | h | h
  · go_enter Tryz.func103, Tryz.ntmps103
    go_wp2
    go_ret
    exact ⟨rfl, rfl⟩
  · go_enter Tryz.func103, Tryz.ntmps103
    go_wp2
    go_ret
    exact ⟨rfl, rfl⟩
  · go_enter Tryz.func103, Tryz.ntmps103
    go_wp2
    go_ret
    exact ⟨rfl, rfl⟩
  · go_enter Tryz.func103, Tryz.ntmps103
    go_wp2
    go_ret
    exact ⟨rfl, rfl⟩
  · go_enter Tryz.func103, Tryz.ntmps103
    go_wp2
    go_ret
    exact ⟨rfl, rfl⟩
  · go_enter Tryz.func103, Tryz.ntmps103
    go_wp2
    go_ret
    exact ⟨rfl, rfl⟩
  · go_enter Tryz.func103, Tryz.ntmps103
    go_wp2
    go_ret
    exact ⟨rfl, rfl⟩
  · go_enter Tryz.func103, Tryz.ntmps103
    go_wp2
    go_ret
    exact ⟨rfl, rfl⟩
  · go_enter Tryz.func103, Tryz.ntmps103
    go_wp2
    go_ret
    exact ⟨rfl, rfl⟩
  · go_enter Tryz.func103, Tryz.ntmps103
    go_wp2
    go_ret
    exact ⟨rfl, rfl⟩
  · go_enter Tryz.func103, Tryz.ntmps103
    go_wp2
    go_ret
    exact ⟨rfl, rfl⟩
  · go_enter Tryz.func103, Tryz.ntmps103
    go_wp2
    go_ret
    exact ⟨rfl, rfl⟩
  · go_enter Tryz.func103, Tryz.ntmps103
    go_wp2
    go_ret
    exact ⟨rfl, rfl⟩
  · go_enter Tryz.func103, Tryz.ntmps103
    go_wp2
    go_ret
    exact ⟨rfl, rfl⟩
  · go_enter Tryz.func103, Tryz.ntmps103
    go_wp2
    go_ret
    exact ⟨rfl, rfl⟩
  · rw [out_whole (by omega)]
    have n1 : ¬ ty = 1 := by omega
    have e1 : (ty == 1) = false := beq_false_of_ne n1
    have n2 : ¬ ty = 2 := by omega
    have e2 : (ty == 2) = false := beq_false_of_ne n2
    have n3 : ¬ ty = 3 := by omega
    have e3 : (ty == 3) = false := beq_false_of_ne n3
    have n4 : ¬ ty = 4 := by omega
    have e4 : (ty == 4) = false := beq_false_of_ne n4
    have n5 : ¬ ty = 5 := by omega
    have e5 : (ty == 5) = false := beq_false_of_ne n5
    have n6 : ¬ ty = 6 := by omega
    have e6 : (ty == 6) = false := beq_false_of_ne n6
    have n7 : ¬ ty = 7 := by omega
    have e7 : (ty == 7) = false := beq_false_of_ne n7
    have n8 : ¬ ty = 8 := by omega
    have e8 : (ty == 8) = false := beq_false_of_ne n8
    have n9 : ¬ ty = 9 := by omega
    have e9 : (ty == 9) = false := beq_false_of_ne n9
    have n10 : ¬ ty = 10 := by omega
    have e10 : (ty == 10) = false := beq_false_of_ne n10
    have n11 : ¬ ty = 11 := by omega
    have e11 : (ty == 11) = false := beq_false_of_ne n11
    have n12 : ¬ ty = 12 := by omega
    have e12 : (ty == 12) = false := beq_false_of_ne n12
    have n13 : ¬ ty = 13 := by omega
    have e13 : (ty == 13) = false := beq_false_of_ne n13
    have n14 : ¬ ty = 14 := by omega
    have e14 : (ty == 14) = false := beq_false_of_ne n14
    have n15 : ¬ ty = 15 := by omega
    have e15 : (ty == 15) = false := beq_false_of_ne n15
    have a1 : decide (1 ≤ ty) = false := decide_eq_false (by omega)
    have b1 : decide (ty ≤ 1) = true := decide_eq_true (by omega)
    have c1 : decide (ty < 1) = true := decide_eq_true (by omega)
    have d1 : decide (1 < ty) = false := decide_eq_false (by omega)
    have a6 : decide (6 ≤ ty) = false := decide_eq_false (by omega)
    have b6 : decide (ty ≤ 6) = true := decide_eq_true (by omega)
    have c6 : decide (ty < 6) = true := decide_eq_true (by omega)
    have d6 : decide (6 < ty) = false := decide_eq_false (by omega)
    have a7 : decide (7 ≤ ty) = false := decide_eq_false (by omega)
    have b7 : decide (ty ≤ 7) = true := decide_eq_true (by omega)
    have c7 : decide (ty < 7) = true := decide_eq_true (by omega)
    have d7 : decide (7 < ty) = false := decide_eq_false (by omega)
    have a8 : decide (8 ≤ ty) = false := decide_eq_false (by omega)
    have b8 : decide (ty ≤ 8) = true := decide_eq_true (by omega)
    have c8 : decide (ty < 8) = true := decide_eq_true (by omega)
    have d8 : decide (8 < ty) = false := decide_eq_false (by omega)
    have a11 : decide (11 ≤ ty) = false := decide_eq_false (by omega)
    have b11 : decide (ty ≤ 11) = true := decide_eq_true (by omega)
    have c11 : decide (ty < 11) = true := decide_eq_true (by omega)
    have d11 : decide (11 < ty) = false := decide_eq_false (by omega)
    have a13 : decide (13 ≤ ty) = false := decide_eq_false (by omega)
    have b13 : decide (ty ≤ 13) = true := decide_eq_true (by omega)
    have c13 : decide (ty < 13) = true := decide_eq_true (by omega)
    have d13 : decide (13 < ty) = false := decide_eq_false (by omega)
    have a15 : decide (15 ≤ ty) = false := decide_eq_false (by omega)
    have b15 : decide (ty ≤ 15) = true := decide_eq_true (by omega)
    have c15 : decide (ty < 15) = true := decide_eq_true (by omega)
    have d15 : decide (15 < ty) = false := decide_eq_false (by omega)
    go_enter Tryz.func103, Tryz.ntmps103
    go_wp2
    go_ret
    exact ⟨rfl, rfl⟩
  · rw [out_whole (by omega)]
    have n1 : ¬ ty = 1 := by omega
    have e1 : (ty == 1) = false := beq_false_of_ne n1
    have n2 : ¬ ty = 2 := by omega
    have e2 : (ty == 2) = false := beq_false_of_ne n2
    have n3 : ¬ ty = 3 := by omega
    have e3 : (ty == 3) = false := beq_false_of_ne n3
    have n4 : ¬ ty = 4 := by omega
    have e4 : (ty == 4) = false := beq_false_of_ne n4
    have n5 : ¬ ty = 5 := by omega
    have e5 : (ty == 5) = false := beq_false_of_ne n5
    have n6 : ¬ ty = 6 := by omega
    have e6 : (ty == 6) = false := beq_false_of_ne n6
    have n7 : ¬ ty = 7 := by omega
    have e7 : (ty == 7) = false := beq_false_of_ne n7
    have n8 : ¬ ty = 8 := by omega
    have e8 : (ty == 8) = false := beq_false_of_ne n8
    have n9 : ¬ ty = 9 := by omega
    have e9 : (ty == 9) = false := beq_false_of_ne n9
    have n10 : ¬ ty = 10 := by omega
    have e10 : (ty == 10) = false := beq_false_of_ne n10
    have n11 : ¬ ty = 11 := by omega
    have e11 : (ty == 11) = false := beq_false_of_ne n11
    have n12 : ¬ ty = 12 := by omega
    have e12 : (ty == 12) = false := beq_false_of_ne n12
    have n13 : ¬ ty = 13 := by omega
    have e13 : (ty == 13) = false := beq_false_of_ne n13
    have n14 : ¬ ty = 14 := by omega
    have e14 : (ty == 14) = false := beq_false_of_ne n14
    have n15 : ¬ ty = 15 := by omega
    have e15 : (ty == 15) = false := beq_false_of_ne n15
    have a1 : decide (1 ≤ ty) = true := decide_eq_true (by omega)
    have b1 : decide (ty ≤ 1) = false := decide_eq_false (by omega)
    have c1 : decide (ty < 1) = false := decide_eq_false (by omega)
    have d1 : decide (1 < ty) = true := decide_eq_true (by omega)
    have a6 : decide (6 ≤ ty) = true := decide_eq_true (by omega)
    have b6 : decide (ty ≤ 6) = false := decide_eq_false (by omega)
    have c6 : decide (ty < 6) = false := decide_eq_false (by omega)
    have d6 : decide (6 < ty) = true := decide_eq_true (by omega)
    have a7 : decide (7 ≤ ty) = true := decide_eq_true (by omega)
    have b7 : decide (ty ≤ 7) = false := decide_eq_false (by omega)
    have c7 : decide (ty < 7) = false := decide_eq_false (by omega)
    have d7 : decide (7 < ty) = true := decide_eq_true (by omega)
    have a8 : decide (8 ≤ ty) = true := decide_eq_true (by omega)
    have b8 : decide (ty ≤ 8) = false := decide_eq_false (by omega)
    have c8 : decide (ty < 8) = false := decide_eq_false (by omega)
    have d8 : decide (8 < ty) = true := decide_eq_true (by omega)
    have a11 : decide (11 ≤ ty) = true := decide_eq_true (by omega)
    have b11 : decide (ty ≤ 11) = false := decide_eq_false (by omega)
    have c11 : decide (ty < 11) = false := decide_eq_false (by omega)
    have d11 : decide (11 < ty) = true := decide_eq_true (by omega)
    have a13 : decide (13 ≤ ty) = true := decide_eq_true (by omega)
    have b13 : decide (ty ≤ 13) = false := decide_eq_false (by omega)
    have c13 : decide (ty < 13) = false := decide_eq_false (by omega)
    have d13 : decide (13 < ty) = true := decide_eq_true (by omega)
    have a15 : decide (15 ≤ ty) = true := decide_eq_true (by omega)
    have b15 : decide (ty ≤ 15) = false := decide_eq_false (by omega)
    have c15 : decide (ty < 15) = false := decide_eq_false (by omega)
    have d15 : decide (15 < ty) = true := decide_eq_true (by omega)
    go_enter Tryz.func103, Tryz.ntmps103
    go_wp2
    go_ret
    exact ⟨rfl, rfl⟩
theorem rsnumber_any (ty : Int) (w : World) : Calls Tryz.prog 64 #[.int .i64 ty] w fun e w' => e = .returned (.bool (numberT ty)) ∧ w = w' := by
  rcases ty_cases ty with rfl | rfl | rfl | rfl | rfl | rfl | rfl | rfl | rfl | rfl | rfl | rfl | rfl | rfl | rfl | h | h
  · go_enter Tryz.func64, Tryz.ntmps64
    go_wp2_with (first | (go_at_call 103; refine (rswhole_any _ _).mono ?_; rintro e w' ⟨rfl, rfl⟩; (try rw [out_whole (by omega)])))
    go_ret
    exact ⟨rfl, rfl⟩
  · go_enter Tryz.func64, Tryz.ntmps64
    go_wp2_with (first | (go_at_call 103; refine (rswhole_any _ _).mono ?_; rintro e w' ⟨rfl, rfl⟩; (try rw [out_whole (by omega)])))
    go_ret
    exact ⟨rfl, rfl⟩
  · go_enter Tryz.func64, Tryz.ntmps64
    go_wp2_with (first | (go_at_call 103; refine (rswhole_any _ _).mono ?_; rintro e w' ⟨rfl, rfl⟩; (try rw [out_whole (by omega)])))
    go_ret
    exact ⟨rfl, rfl⟩
  · go_enter Tryz.func64, Tryz.ntmps64
    go_wp2_with (first | (go_at_call 103; refine (rswhole_any _ _).mono ?_; rintro e w' ⟨rfl, rfl⟩; (try rw [out_whole (by omega)])))
    go_ret
    exact ⟨rfl, rfl⟩
  · go_enter Tryz.func64, Tryz.ntmps64
    go_wp2_with (first | (go_at_call 103; refine (rswhole_any _ _).mono ?_; rintro e w' ⟨rfl, rfl⟩; (try rw [out_whole (by omega)])))
    go_ret
    exact ⟨rfl, rfl⟩
  · go_enter Tryz.func64, Tryz.ntmps64
    go_wp2_with (first | (go_at_call 103; refine (rswhole_any _ _).mono ?_; rintro e w' ⟨rfl, rfl⟩; (try rw [out_whole (by omega)])))
    go_ret
    exact ⟨rfl, rfl⟩
  · go_enter Tryz.func64, Tryz.ntmps64
    go_wp2_with (first | (go_at_call 103; refine (rswhole_any _ _).mono ?_; rintro e w' ⟨rfl, rfl⟩; (try rw [out_whole (by omega)])))
    go_ret
    exact ⟨rfl, rfl⟩
  · go_enter Tryz.func64, Tryz.ntmps64
    go_wp2_with (first | (go_at_call 103; refine (rswhole_any _ _).mono ?_; rintro e w' ⟨rfl, rfl⟩; (try rw [out_whole (by omega)])))
    go_ret
    exact ⟨rfl, rfl⟩
  · go_enter Tryz.func64, Tryz.ntmps64
    go_wp2_with (first | (go_at_call 103; refine (rswhole_any _ _).mono ?_; rintro e w' ⟨rfl, rfl⟩; (try rw [out_whole (by omega)])))
    go_ret
    exact ⟨rfl, rfl⟩
  · go_enter Tryz.func64, Tryz.ntmps64
    go_wp2_with (first | (go_at_call 103; refine (rswhole_any _ _).mono ?_; rintro e w' ⟨rfl, rfl⟩; (try rw [out_whole (by omega)])))
    go_ret
    exact ⟨rfl, rfl⟩
  · go_enter Tryz.func64, Tryz.ntmps64
    go_wp2_with (first | (go_at_call 103; refine (rswhole_any _ _).mono ?_; rintro e w' ⟨rfl, rfl⟩; (try rw [out_whole (by omega)])))
    go_ret
    exact ⟨rfl, rfl⟩
  · go_enter Tryz.func64, Tryz.ntmps64
    go_wp2_with (first | (go_at_call 103; refine (rswhole_any _ _).mono ?_; rintro e w' ⟨rfl, rfl⟩; (try rw [out_whole (by omega)])))
    go_ret
    exact ⟨rfl, rfl⟩
  · go_enter Tryz.func64, Tryz.ntmps64
    go_wp2_with (first | (go_at_call 103; refine (rswhole_any _ _).mono ?_; rintro e w' ⟨rfl, rfl⟩; (try rw [out_whole (by omega)])))
    go_ret
    exact ⟨rfl, rfl⟩
  · go_enter Tryz.func64, Tryz.ntmps64
    go_wp2_with (first | (go_at_call 103; refine (rswhole_any _ _).mono ?_; rintro e w' ⟨rfl, rfl⟩; (try rw [out_whole (by omega)])))
    go_ret
    exact ⟨rfl, rfl⟩
  · go_enter Tryz.func64, Tryz.ntmps64
    go_wp2_with (first | (go_at_call 103; refine (rswhole_any _ _).mono ?_; rintro e w' ⟨rfl, rfl⟩; (try rw [out_whole (by omega)])))
    go_ret
    exact ⟨rfl, rfl⟩
  · rw [out_number (by omega)]
    have n1 : ¬ ty = 1 := by omega
    have e1 : (ty == 1) = false := beq_false_of_ne n1
    have n2 : ¬ ty = 2 := by omega
    have e2 : (ty == 2) = false := beq_false_of_ne n2
    have n3 : ¬ ty = 3 := by omega
    have e3 : (ty == 3) = false := beq_false_of_ne n3
    have n4 : ¬ ty = 4 := by omega
    have e4 : (ty == 4) = false := beq_false_of_ne n4
    have n5 : ¬ ty = 5 := by omega
    have e5 : (ty == 5) = false := beq_false_of_ne n5
    have n6 : ¬ ty = 6 := by omega
    have e6 : (ty == 6) = false := beq_false_of_ne n6
    have n7 : ¬ ty = 7 := by omega
    have e7 : (ty == 7) = false := beq_false_of_ne n7
    have n8 : ¬ ty = 8 := by omega
    have e8 : (ty == 8) = false := beq_false_of_ne n8
    have n9 : ¬ ty = 9 := by omega
    have e9 : (ty == 9) = false := beq_false_of_ne n9
    have n10 : ¬ ty = 10 := by omega
    have e10 : (ty == 10) = false := beq_false_of_ne n10
    have n11 : ¬ ty = 11 := by omega
    have e11 : (ty == 11) = false := beq_false_of_ne n11
    have n12 : ¬ ty = 12 := by omega
    have e12 : (ty == 12) = false := beq_false_of_ne n12
    have n13 : ¬ ty = 13 := by omega
    have e13 : (ty == 13) = false := beq_false_of_ne n13
    have n14 : ¬ ty = 14 := by omega
    have e14 : (ty == 14) = false := beq_false_of_ne n14
    have n15 : ¬ ty = 15 := by omega
    have e15 : (ty == 15) = false := beq_false_of_ne n15
    have a1 : decide (1 ≤ ty) = false := decide_eq_false (by omega)
    have b1 : decide (ty ≤ 1) = true := decide_eq_true (by omega)
    have c1 : decide (ty < 1) = true := decide_eq_true (by omega)
    have d1 : decide (1 < ty) = false := decide_eq_false (by omega)
    have a6 : decide (6 ≤ ty) = false := decide_eq_false (by omega)
    have b6 : decide (ty ≤ 6) = true := decide_eq_true (by omega)
    have c6 : decide (ty < 6) = true := decide_eq_true (by omega)
    have d6 : decide (6 < ty) = false := decide_eq_false (by omega)
    have a7 : decide (7 ≤ ty) = false := decide_eq_false (by omega)
    have b7 : decide (ty ≤ 7) = true := decide_eq_true (by omega)
    have c7 : decide (ty < 7) = true := decide_eq_true (by omega)
    have d7 : decide (7 < ty) = false := decide_eq_false (by omega)
    have a8 : decide (8 ≤ ty) = false := decide_eq_false (by omega)
    have b8 : decide (ty ≤ 8) = true := decide_eq_true (by omega)
    have c8 : decide (ty < 8) = true := decide_eq_true (by omega)
    have d8 : decide (8 < ty) = false := decide_eq_false (by omega)
    have a11 : decide (11 ≤ ty) = false := decide_eq_false (by omega)
    have b11 : decide (ty ≤ 11) = true := decide_eq_true (by omega)
    have c11 : decide (ty < 11) = true := decide_eq_true (by omega)
    have d11 : decide (11 < ty) = false := decide_eq_false (by omega)
    have a13 : decide (13 ≤ ty) = false := decide_eq_false (by omega)
    have b13 : decide (ty ≤ 13) = true := decide_eq_true (by omega)
    have c13 : decide (ty < 13) = true := decide_eq_true (by omega)
    have d13 : decide (13 < ty) = false := decide_eq_false (by omega)
    have a15 : decide (15 ≤ ty) = false := decide_eq_false (by omega)
    have b15 : decide (ty ≤ 15) = true := decide_eq_true (by omega)
    have c15 : decide (ty < 15) = true := decide_eq_true (by omega)
    have d15 : decide (15 < ty) = false := decide_eq_false (by omega)
    go_enter Tryz.func64, Tryz.ntmps64
    go_wp2_with (first | (go_at_call 103; refine (rswhole_any _ _).mono ?_; rintro e w' ⟨rfl, rfl⟩; (try rw [out_whole (by omega)])))
    go_ret
    exact ⟨rfl, rfl⟩
  · rw [out_number (by omega)]
    have n1 : ¬ ty = 1 := by omega
    have e1 : (ty == 1) = false := beq_false_of_ne n1
    have n2 : ¬ ty = 2 := by omega
    have e2 : (ty == 2) = false := beq_false_of_ne n2
    have n3 : ¬ ty = 3 := by omega
    have e3 : (ty == 3) = false := beq_false_of_ne n3
    have n4 : ¬ ty = 4 := by omega
    have e4 : (ty == 4) = false := beq_false_of_ne n4
    have n5 : ¬ ty = 5 := by omega
    have e5 : (ty == 5) = false := beq_false_of_ne n5
    have n6 : ¬ ty = 6 := by omega
    have e6 : (ty == 6) = false := beq_false_of_ne n6
    have n7 : ¬ ty = 7 := by omega
    have e7 : (ty == 7) = false := beq_false_of_ne n7
    have n8 : ¬ ty = 8 := by omega
    have e8 : (ty == 8) = false := beq_false_of_ne n8
    have n9 : ¬ ty = 9 := by omega
    have e9 : (ty == 9) = false := beq_false_of_ne n9
    have n10 : ¬ ty = 10 := by omega
    have e10 : (ty == 10) = false := beq_false_of_ne n10
    have n11 : ¬ ty = 11 := by omega
    have e11 : (ty == 11) = false := beq_false_of_ne n11
    have n12 : ¬ ty = 12 := by omega
    have e12 : (ty == 12) = false := beq_false_of_ne n12
    have n13 : ¬ ty = 13 := by omega
    have e13 : (ty == 13) = false := beq_false_of_ne n13
    have n14 : ¬ ty = 14 := by omega
    have e14 : (ty == 14) = false := beq_false_of_ne n14
    have n15 : ¬ ty = 15 := by omega
    have e15 : (ty == 15) = false := beq_false_of_ne n15
    have a1 : decide (1 ≤ ty) = true := decide_eq_true (by omega)
    have b1 : decide (ty ≤ 1) = false := decide_eq_false (by omega)
    have c1 : decide (ty < 1) = false := decide_eq_false (by omega)
    have d1 : decide (1 < ty) = true := decide_eq_true (by omega)
    have a6 : decide (6 ≤ ty) = true := decide_eq_true (by omega)
    have b6 : decide (ty ≤ 6) = false := decide_eq_false (by omega)
    have c6 : decide (ty < 6) = false := decide_eq_false (by omega)
    have d6 : decide (6 < ty) = true := decide_eq_true (by omega)
    have a7 : decide (7 ≤ ty) = true := decide_eq_true (by omega)
    have b7 : decide (ty ≤ 7) = false := decide_eq_false (by omega)
    have c7 : decide (ty < 7) = false := decide_eq_false (by omega)
    have d7 : decide (7 < ty) = true := decide_eq_true (by omega)
    have a8 : decide (8 ≤ ty) = true := decide_eq_true (by omega)
    have b8 : decide (ty ≤ 8) = false := decide_eq_false (by omega)
    have c8 : decide (ty < 8) = false := decide_eq_false (by omega)
    have d8 : decide (8 < ty) = true := decide_eq_true (by omega)
    have a11 : decide (11 ≤ ty) = true := decide_eq_true (by omega)
    have b11 : decide (ty ≤ 11) = false := decide_eq_false (by omega)
    have c11 : decide (ty < 11) = false := decide_eq_false (by omega)
    have d11 : decide (11 < ty) = true := decide_eq_true (by omega)
    have a13 : decide (13 ≤ ty) = true := decide_eq_true (by omega)
    have b13 : decide (ty ≤ 13) = false := decide_eq_false (by omega)
    have c13 : decide (ty < 13) = false := decide_eq_false (by omega)
    have d13 : decide (13 < ty) = true := decide_eq_true (by omega)
    have a15 : decide (15 ≤ ty) = true := decide_eq_true (by omega)
    have b15 : decide (ty ≤ 15) = false := decide_eq_false (by omega)
    have c15 : decide (ty < 15) = false := decide_eq_false (by omega)
    have d15 : decide (15 < ty) = true := decide_eq_true (by omega)
    go_enter Tryz.func64, Tryz.ntmps64
    go_wp2_with (first | (go_at_call 103; refine (rswhole_any _ _).mono ?_; rintro e w' ⟨rfl, rfl⟩; (try rw [out_whole (by omega)])))
    go_ret
    exact ⟨rfl, rfl⟩
end Go.Proofs.YtjogamffdbedkaaGreatDoor
