/- The document's From and To of numbers. Conditions: those that each theorem names. -/
import Derived.Test.YtifbkaknfcghiaaDoorRsA
import Derived.Test.YtifbkaknfcghiaaDoorZigA
namespace Go.Proofs.YtifbkaknfcghiaaDoor
open Go.RowKit
set_option linter.unusedVariables false
set_option maxRecDepth 100000

theorem wrap64_ge (a : Int) : -9223372036854775808 ≤ wrap64 a := by unfold wrap64; omega
theorem wrap64_lt (a : Int) : wrap64 a < 9223372036854775808 := by unfold wrap64; omega
set_option maxHeartbeats 4000000 in
theorem rnfrom_any (ty : Int) (n : Nat) (w : World) (hn : n < 18446744073709551616) : Calls Tryd.prog 7 #[.int .i64 ty, .int .u64 (n : Int)] w fun e w' => e = .returned (.int .u64 (fromT ty n : Int)) ∧ w = w' := by
  rcases ty_cases ty with rfl | rfl | rfl | rfl | rfl | rfl | rfl | rfl | rfl | rfl | rfl | rfl | rfl | rfl | rfl | h | h
  · have HW := Lib.hid (fun w => rwide_any n w hn)
    have HM : Hid ((fromT 1 n : Int) = IntKind.u64.wrap (wideI n)) := by
      show _ = _
      rw [fromT, if_pos (by omega), u64of_wrap]
    rw [HM.out]
    clear HM
    go_enter Tryd.func7, Tryd.ntmps7
    go_wp2_with (first | (go_at_call 18; refine (HW.out _).mono ?_; rintro e w' ⟨rfl, rfl⟩))
    go_ret
    exact ⟨rfl, rfl⟩
  · have HM : Hid ((fromT 2 n : Int) = (n : Int)) := by
      show _ = _
      rw [fromT, if_neg (by omega), if_neg (by omega), if_neg (by omega), if_neg (by omega), if_neg (by omega), if_pos (by decide)]
    rw [HM.out]
    clear HM
    go_enter Tryd.func7, Tryd.ntmps7
    go_wp2_with (first | (go_at_call 20; refine (rsnumber_any _ _).mono ?_; rintro e w' ⟨rfl, rfl⟩))
    go_ret
    exact ⟨rfl, rfl⟩
  · have HM : Hid ((fromT 3 n : Int) = (n : Int) % 4294967296) := by
      show _ = _
      rw [fromT, if_neg (by omega), if_pos (by omega)]
      omega
    rw [HM.out]
    clear HM
    go_enter Tryd.func7, Tryd.ntmps7
    go_wp2
    go_ret
    exact ⟨rfl, rfl⟩
  · have HM : Hid ((fromT 4 n : Int) = (n : Int)) := by
      show _ = _
      rw [fromT, if_neg (by omega), if_neg (by omega), if_neg (by omega), if_neg (by omega), if_neg (by omega), if_pos (by decide)]
    rw [HM.out]
    clear HM
    go_enter Tryd.func7, Tryd.ntmps7
    go_wp2_with (first | (go_at_call 20; refine (rsnumber_any _ _).mono ?_; rintro e w' ⟨rfl, rfl⟩))
    go_ret
    exact ⟨rfl, rfl⟩
  · obtain ⟨m, hm⟩ : ∃ m, m = n % 4294967296 := ⟨_, rfl⟩
    have hm2 : (n : Int) % 4294967296 = (m : Int) := by omega
    have HW := Lib.hid (fun w => rzag_any m w (by omega))
    have HM : Hid ((fromT 5 n : Int) = IntKind.u64.wrap (zagI m)) := by
      show _ = _
      rw [fromT, if_neg (by omega), if_neg (by omega), if_pos (by omega), u64of_wrap, ← hm]
    rw [HM.out]
    clear HM
    clear hm
    go_enter Tryd.func7, Tryd.ntmps7
    go_wp2_with (first | (go_at_call 19; refine (HW.out _).mono ?_; rintro e w' ⟨rfl, rfl⟩))
    go_ret
    exact ⟨rfl, rfl⟩
  · have HW := Lib.hid (fun w => rzag_any n w hn)
    have HM : Hid ((fromT 6 n : Int) = IntKind.u64.wrap (zagI n)) := by
      show _ = _
      rw [fromT, if_neg (by omega), if_neg (by omega), if_neg (by omega), if_pos (by omega), u64of_wrap]
    rw [HM.out]
    clear HM
    go_enter Tryd.func7, Tryd.ntmps7
    go_wp2_with (first | (go_at_call 19; refine (HW.out _).mono ?_; rintro e w' ⟨rfl, rfl⟩))
    go_ret
    exact ⟨rfl, rfl⟩
  · by_cases h0 : n = 0
    · subst h0
      have HM : Hid ((fromT 7 0 : Int) = 0) := rfl
      rw [HM.out]
      clear HM
      go_enter Tryd.func7, Tryd.ntmps7
      go_wp2
      go_ret
      exact ⟨rfl, rfl⟩
    · have HM : Hid ((fromT 7 n : Int) = 1) := by
        show _ = _
        rw [fromT, if_neg (by omega), if_neg (by omega), if_neg (by omega), if_neg (by omega), if_pos (by omega), if_neg h0]
        rfl
      have h1 : ¬ (n : Int) = 0 := by omega
      have h2 : ((n : Int) == 0) = false := beq_false_of_ne h1
      rw [HM.out]
      clear HM
      go_enter Tryd.func7, Tryd.ntmps7
      go_wp2
      go_ret
      exact ⟨rfl, rfl⟩
  · have HM : Hid ((fromT 8 n : Int) = (n : Int) % 4294967296) := by
      show _ = _
      rw [fromT, if_neg (by omega), if_pos (by omega)]
      omega
    rw [HM.out]
    clear HM
    go_enter Tryd.func7, Tryd.ntmps7
    go_wp2
    go_ret
    exact ⟨rfl, rfl⟩
  · have HM : Hid ((fromT 9 n : Int) = (n : Int)) := by
      show _ = _
      rw [fromT, if_neg (by omega), if_neg (by omega), if_neg (by omega), if_neg (by omega), if_neg (by omega), if_pos (by decide)]
    rw [HM.out]
    clear HM
    go_enter Tryd.func7, Tryd.ntmps7
    go_wp2_with (first | (go_at_call 20; refine (rsnumber_any _ _).mono ?_; rintro e w' ⟨rfl, rfl⟩))
    go_ret
    exact ⟨rfl, rfl⟩
  · have HW := Lib.hid (fun w => rwide_any n w hn)
    have HM : Hid ((fromT 10 n : Int) = IntKind.u64.wrap (wideI n)) := by
      show _ = _
      rw [fromT, if_pos (by omega), u64of_wrap]
    rw [HM.out]
    clear HM
    go_enter Tryd.func7, Tryd.ntmps7
    go_wp2_with (first | (go_at_call 18; refine (HW.out _).mono ?_; rintro e w' ⟨rfl, rfl⟩))
    go_ret
    exact ⟨rfl, rfl⟩
  · have HM : Hid ((fromT 11 n : Int) = (n : Int)) := by
      show _ = _
      rw [fromT, if_neg (by omega), if_neg (by omega), if_neg (by omega), if_neg (by omega), if_neg (by omega), if_pos (by decide)]
    rw [HM.out]
    clear HM
    go_enter Tryd.func7, Tryd.ntmps7
    go_wp2_with (first | (go_at_call 20; refine (rsnumber_any _ _).mono ?_; rintro e w' ⟨rfl, rfl⟩))
    go_ret
    exact ⟨rfl, rfl⟩
  · have HM : Hid ((fromT 12 n : Int) = 0) := by
      show _ = _
      rw [fromT, if_neg (by omega), if_neg (by omega), if_neg (by omega), if_neg (by omega), if_neg (by omega), if_neg (by decide)]
      rfl
    rw [HM.out]
    clear HM
    go_enter Tryd.func7, Tryd.ntmps7
    go_wp2_with (first | (go_at_call 20; refine (rsnumber_any _ _).mono ?_; rintro e w' ⟨rfl, rfl⟩))
    go_ret
    exact ⟨rfl, rfl⟩
  · have HM : Hid ((fromT 13 n : Int) = 0) := by
      show _ = _
      rw [fromT, if_neg (by omega), if_neg (by omega), if_neg (by omega), if_neg (by omega), if_neg (by omega), if_neg (by decide)]
      rfl
    rw [HM.out]
    clear HM
    go_enter Tryd.func7, Tryd.ntmps7
    go_wp2_with (first | (go_at_call 20; refine (rsnumber_any _ _).mono ?_; rintro e w' ⟨rfl, rfl⟩))
    go_ret
    exact ⟨rfl, rfl⟩
  · have HW := Lib.hid (fun w => rwide_any n w hn)
    have HM : Hid ((fromT 14 n : Int) = IntKind.u64.wrap (wideI n)) := by
      show _ = _
      rw [fromT, if_pos (by omega), u64of_wrap]
    rw [HM.out]
    clear HM
    go_enter Tryd.func7, Tryd.ntmps7
    go_wp2_with (first | (go_at_call 18; refine (HW.out _).mono ?_; rintro e w' ⟨rfl, rfl⟩))
    go_ret
    exact ⟨rfl, rfl⟩
  · have HM : Hid ((fromT 15 n : Int) = 0) := by
      show _ = _
      rw [fromT, if_neg (by omega), if_neg (by omega), if_neg (by omega), if_neg (by omega), if_neg (by omega), if_neg (by decide)]
      rfl
    rw [HM.out]
    clear HM
    go_enter Tryd.func7, Tryd.ntmps7
    go_wp2_with (first | (go_at_call 20; refine (rsnumber_any _ _).mono ?_; rintro e w' ⟨rfl, rfl⟩))
    go_ret
    exact ⟨rfl, rfl⟩
  · rw [out_from _ (by omega)]
    have n1 : ¬ ty = 1 := by omega
    have e1 : (ty == 1) = false := beq_false_of_ne n1
    have n2 : ¬ ty = 2 := by omega
    have e2 : (ty == 2) = false := beq_false_of_ne n2
    have n3 : ¬ ty = 3 := by omega
    have e3 : (ty == 3) = false := beq_false_of_ne n3
    have n4 : ¬ ty = 4 := by omega
    have e4 : (ty == 4) = false := beq_false_of_ne n4
    have n5 : ¬ ty = 5 := by omega
    have e5 : (ty == 5) = false := beq_false_of_ne n5
    have n6 : ¬ ty = 6 := by omega
    have e6 : (ty == 6) = false := beq_false_of_ne n6
    have n7 : ¬ ty = 7 := by omega
    have e7 : (ty == 7) = false := beq_false_of_ne n7
    have n8 : ¬ ty = 8 := by omega
    have e8 : (ty == 8) = false := beq_false_of_ne n8
    have n9 : ¬ ty = 9 := by omega
    have e9 : (ty == 9) = false := beq_false_of_ne n9
    have n10 : ¬ ty = 10 := by omega
    have e10 : (ty == 10) = false := beq_false_of_ne n10
    have n11 : ¬ ty = 11 := by omega
    have e11 : (ty == 11) = false := beq_false_of_ne n11
    have n12 : ¬ ty = 12 := by omega
    have e12 : (ty == 12) = false := beq_false_of_ne n12
    have n13 : ¬ ty = 13 := by omega
    have e13 : (ty == 13) = false := beq_false_of_ne n13
    have n14 : ¬ ty = 14 := by omega
    have e14 : (ty == 14) = false := beq_false_of_ne n14
    have n15 : ¬ ty = 15 := by omega
    have e15 : (ty == 15) = false := beq_false_of_ne n15
    have a1 : decide (1 ≤ ty) = false := decide_eq_false (by omega)
    have b1 : decide (ty ≤ 1) = true := decide_eq_true (by omega)
    have c1 : decide (ty < 1) = true := decide_eq_true (by omega)
    have d1 : decide (1 < ty) = false := decide_eq_false (by omega)
    have a6 : decide (6 ≤ ty) = false := decide_eq_false (by omega)
    have b6 : decide (ty ≤ 6) = true := decide_eq_true (by omega)
    have c6 : decide (ty < 6) = true := decide_eq_true (by omega)
    have d6 : decide (6 < ty) = false := decide_eq_false (by omega)
    have a7 : decide (7 ≤ ty) = false := decide_eq_false (by omega)
    have b7 : decide (ty ≤ 7) = true := decide_eq_true (by omega)
    have c7 : decide (ty < 7) = true := decide_eq_true (by omega)
    have d7 : decide (7 < ty) = false := decide_eq_false (by omega)
    have a8 : decide (8 ≤ ty) = false := decide_eq_false (by omega)
    have b8 : decide (ty ≤ 8) = true := decide_eq_true (by omega)
    have c8 : decide (ty < 8) = true := decide_eq_true (by omega)
    have d8 : decide (8 < ty) = false := decide_eq_false (by omega)
    have a11 : decide (11 ≤ ty) = false := decide_eq_false (by omega)
    have b11 : decide (ty ≤ 11) = true := decide_eq_true (by omega)
    have c11 : decide (ty < 11) = true := decide_eq_true (by omega)
    have d11 : decide (11 < ty) = false := decide_eq_false (by omega)
    have a13 : decide (13 ≤ ty) = false := decide_eq_false (by omega)
    have b13 : decide (ty ≤ 13) = true := decide_eq_true (by omega)
    have c13 : decide (ty < 13) = true := decide_eq_true (by omega)
    have d13 : decide (13 < ty) = false := decide_eq_false (by omega)
    have a15 : decide (15 ≤ ty) = false := decide_eq_false (by omega)
    have b15 : decide (ty ≤ 15) = true := decide_eq_true (by omega)
    have c15 : decide (ty < 15) = true := decide_eq_true (by omega)
    have d15 : decide (15 < ty) = false := decide_eq_false (by omega)
    have HNU := Lib.hid (fun w => rsnumber_any ty w)
    rw [out_number (by omega)] at HNU
    go_enter Tryd.func7, Tryd.ntmps7
    go_wp2_with (go_at_call 20; refine (HNU.out _).mono ?_; rintro e w' ⟨rfl, rfl⟩)
    go_ret
    exact ⟨rfl, rfl⟩
  · rw [out_from _ (by omega)]
    have n1 : ¬ ty = 1 := by omega
    have e1 : (ty == 1) = false := beq_false_of_ne n1
    have n2 : ¬ ty = 2 := by omega
    have e2 : (ty == 2) = false := beq_false_of_ne n2
    have n3 : ¬ ty = 3 := by omega
    have e3 : (ty == 3) = false := beq_false_of_ne n3
    have n4 : ¬ ty = 4 := by omega
    have e4 : (ty == 4) = false := beq_false_of_ne n4
    have n5 : ¬ ty = 5 := by omega
    have e5 : (ty == 5) = false := beq_false_of_ne n5
    have n6 : ¬ ty = 6 := by omega
    have e6 : (ty == 6) = false := beq_false_of_ne n6
    have n7 : ¬ ty = 7 := by omega
    have e7 : (ty == 7) = false := beq_false_of_ne n7
    have n8 : ¬ ty = 8 := by omega
    have e8 : (ty == 8) = false := beq_false_of_ne n8
    have n9 : ¬ ty = 9 := by omega
    have e9 : (ty == 9) = false := beq_false_of_ne n9
    have n10 : ¬ ty = 10 := by omega
    have e10 : (ty == 10) = false := beq_false_of_ne n10
    have n11 : ¬ ty = 11 := by omega
    have e11 : (ty == 11) = false := beq_false_of_ne n11
    have n12 : ¬ ty = 12 := by omega
    have e12 : (ty == 12) = false := beq_false_of_ne n12
    have n13 : ¬ ty = 13 := by omega
    have e13 : (ty == 13) = false := beq_false_of_ne n13
    have n14 : ¬ ty = 14 := by omega
    have e14 : (ty == 14) = false := beq_false_of_ne n14
    have n15 : ¬ ty = 15 := by omega
    have e15 : (ty == 15) = false := beq_false_of_ne n15
    have a1 : decide (1 ≤ ty) = true := decide_eq_true (by omega)
    have b1 : decide (ty ≤ 1) = false := decide_eq_false (by omega)
    have c1 : decide (ty < 1) = false := decide_eq_false (by omega)
    have d1 : decide (1 < ty) = true := decide_eq_true (by omega)
    have a6 : decide (6 ≤ ty) = true := decide_eq_true (by omega)
    have b6 : decide (ty ≤ 6) = false := decide_eq_false (by omega)
    have c6 : decide (ty < 6) = false := decide_eq_false (by omega)
    have d6 : decide (6 < ty) = true := decide_eq_true (by omega)
    have a7 : decide (7 ≤ ty) = true := decide_eq_true (by omega)
    have b7 : decide (ty ≤ 7) = false := decide_eq_false (by omega)
    have c7 : decide (ty < 7) = false := decide_eq_false (by omega)
    have d7 : decide (7 < ty) = true := decide_eq_true (by omega)
    have a8 : decide (8 ≤ ty) = true := decide_eq_true (by omega)
    have b8 : decide (ty ≤ 8) = false := decide_eq_false (by omega)
    have c8 : decide (ty < 8) = false := decide_eq_false (by omega)
    have d8 : decide (8 < ty) = true := decide_eq_true (by omega)
    have a11 : decide (11 ≤ ty) = true := decide_eq_true (by omega)
    have b11 : decide (ty ≤ 11) = false := decide_eq_false (by omega)
    have c11 : decide (ty < 11) = false := decide_eq_false (by omega)
    have d11 : decide (11 < ty) = true := decide_eq_true (by omega)
    have a13 : decide (13 ≤ ty) = true := decide_eq_true (by omega)
    have b13 : decide (ty ≤ 13) = false := decide_eq_false (by omega)
    have c13 : decide (ty < 13) = false := decide_eq_false (by omega)
    have d13 : decide (13 < ty) = true := decide_eq_true (by omega)
    have a15 : decide (15 ≤ ty) = true := decide_eq_true (by omega)
    have b15 : decide (ty ≤ 15) = false := decide_eq_false (by omega)
    have c15 : decide (ty < 15) = false := decide_eq_false (by omega)
    have d15 : decide (15 < ty) = true := decide_eq_true (by omega)
    have HNU := Lib.hid (fun w => rsnumber_any ty w)
    rw [out_number (by omega)] at HNU
    go_enter Tryd.func7, Tryd.ntmps7
    go_wp2_with (go_at_call 20; refine (HNU.out _).mono ?_; rintro e w' ⟨rfl, rfl⟩)
    go_ret
    exact ⟨rfl, rfl⟩
set_option maxHeartbeats 4000000 in
theorem rnto_any (ty : Int) (n : Nat) (w : World) (hn : n < 18446744073709551616) : Calls Tryd.prog 9 #[.int .i64 ty, .int .u64 (n : Int)] w fun e w' => e = .returned (.int .u64 (toT ty n : Int)) ∧ w = w' := by
  rcases ty_cases ty with rfl | rfl | rfl | rfl | rfl | rfl | rfl | rfl | rfl | rfl | rfl | rfl | rfl | rfl | rfl | h | h
  · have HM : Hid ((toT 1 n : Int) = (n : Int)) := by
      show _ = _
      rw [toT, if_neg (by omega), if_neg (by omega), if_pos (by decide)]
    rw [HM.out]
    clear HM
    go_enter Tryd.func9, Tryd.ntmps9
    go_wp2_with (first | (go_at_call 20; refine (rsnumber_any _ _).mono ?_; rintro e w' ⟨rfl, rfl⟩))
    go_ret
    exact ⟨rfl, rfl⟩
  · have HM : Hid ((toT 2 n : Int) = (n : Int)) := by
      show _ = _
      rw [toT, if_neg (by omega), if_neg (by omega), if_pos (by decide)]
    rw [HM.out]
    clear HM
    go_enter Tryd.func9, Tryd.ntmps9
    go_wp2_with (first | (go_at_call 20; refine (rsnumber_any _ _).mono ?_; rintro e w' ⟨rfl, rfl⟩))
    go_ret
    exact ⟨rfl, rfl⟩
  · have HM : Hid ((toT 3 n : Int) = (n : Int) % 4294967296) := by
      show _ = _
      rw [toT, if_pos (by omega)]
      omega
    rw [HM.out]
    clear HM
    go_enter Tryd.func9, Tryd.ntmps9
    go_wp2
    go_ret
    exact ⟨rfl, rfl⟩
  · have HM : Hid ((toT 4 n : Int) = (n : Int)) := by
      show _ = _
      rw [toT, if_neg (by omega), if_neg (by omega), if_pos (by decide)]
    rw [HM.out]
    clear HM
    go_enter Tryd.func9, Tryd.ntmps9
    go_wp2_with (first | (go_at_call 20; refine (rsnumber_any _ _).mono ?_; rintro e w' ⟨rfl, rfl⟩))
    go_ret
    exact ⟨rfl, rfl⟩
  · have HW := Lib.hid (fun w => rzig_any (wrap64 (n : Int)) w (wrap64_ge _) (wrap64_lt _))
    have HM : Hid ((toT 5 n : Int) = (zigN (wrap64 (n : Int)) : Int)) := by
      show _ = _
      rw [toT, if_neg (by omega), if_pos (by omega)]
    rw [HM.out]
    clear HM
    go_enter Tryd.func9, Tryd.ntmps9
    go_wp2_with (first | (go_at_call 22; refine (HW.out _).mono ?_; rintro e w' ⟨rfl, rfl⟩))
    go_ret
    exact ⟨rfl, rfl⟩
  · have HW := Lib.hid (fun w => rzig_any (wrap64 (n : Int)) w (wrap64_ge _) (wrap64_lt _))
    have HM : Hid ((toT 6 n : Int) = (zigN (wrap64 (n : Int)) : Int)) := by
      show _ = _
      rw [toT, if_neg (by omega), if_pos (by omega)]
    rw [HM.out]
    clear HM
    go_enter Tryd.func9, Tryd.ntmps9
    go_wp2_with (first | (go_at_call 22; refine (HW.out _).mono ?_; rintro e w' ⟨rfl, rfl⟩))
    go_ret
    exact ⟨rfl, rfl⟩
  · have HM : Hid ((toT 7 n : Int) = (n : Int)) := by
      show _ = _
      rw [toT, if_neg (by omega), if_neg (by omega), if_pos (by decide)]
    rw [HM.out]
    clear HM
    go_enter Tryd.func9, Tryd.ntmps9
    go_wp2_with (first | (go_at_call 20; refine (rsnumber_any _ _).mono ?_; rintro e w' ⟨rfl, rfl⟩))
    go_ret
    exact ⟨rfl, rfl⟩
  · have HM : Hid ((toT 8 n : Int) = (n : Int) % 4294967296) := by
      show _ = _
      rw [toT, if_pos (by omega)]
      omega
    rw [HM.out]
    clear HM
    go_enter Tryd.func9, Tryd.ntmps9
    go_wp2
    go_ret
    exact ⟨rfl, rfl⟩
  · have HM : Hid ((toT 9 n : Int) = (n : Int)) := by
      show _ = _
      rw [toT, if_neg (by omega), if_neg (by omega), if_pos (by decide)]
    rw [HM.out]
    clear HM
    go_enter Tryd.func9, Tryd.ntmps9
    go_wp2_with (first | (go_at_call 20; refine (rsnumber_any _ _).mono ?_; rintro e w' ⟨rfl, rfl⟩))
    go_ret
    exact ⟨rfl, rfl⟩
  · have HM : Hid ((toT 10 n : Int) = (n : Int) % 4294967296) := by
      show _ = _
      rw [toT, if_pos (by omega)]
      omega
    rw [HM.out]
    clear HM
    go_enter Tryd.func9, Tryd.ntmps9
    go_wp2
    go_ret
    exact ⟨rfl, rfl⟩
  · have HM : Hid ((toT 11 n : Int) = (n : Int)) := by
      show _ = _
      rw [toT, if_neg (by omega), if_neg (by omega), if_pos (by decide)]
    rw [HM.out]
    clear HM
    go_enter Tryd.func9, Tryd.ntmps9
    go_wp2_with (first | (go_at_call 20; refine (rsnumber_any _ _).mono ?_; rintro e w' ⟨rfl, rfl⟩))
    go_ret
    exact ⟨rfl, rfl⟩
  · have HM : Hid ((toT 12 n : Int) = 0) := by
      show _ = _
      rw [toT, if_neg (by omega), if_neg (by omega), if_neg (by decide)]
      rfl
    rw [HM.out]
    clear HM
    go_enter Tryd.func9, Tryd.ntmps9
    go_wp2_with (first | (go_at_call 20; refine (rsnumber_any _ _).mono ?_; rintro e w' ⟨rfl, rfl⟩))
    go_ret
    exact ⟨rfl, rfl⟩
  · have HM : Hid ((toT 13 n : Int) = 0) := by
      show _ = _
      rw [toT, if_neg (by omega), if_neg (by omega), if_neg (by decide)]
      rfl
    rw [HM.out]
    clear HM
    go_enter Tryd.func9, Tryd.ntmps9
    go_wp2_with (first | (go_at_call 20; refine (rsnumber_any _ _).mono ?_; rintro e w' ⟨rfl, rfl⟩))
    go_ret
    exact ⟨rfl, rfl⟩
  · have HM : Hid ((toT 14 n : Int) = (n : Int)) := by
      show _ = _
      rw [toT, if_neg (by omega), if_neg (by omega), if_pos (by decide)]
    rw [HM.out]
    clear HM
    go_enter Tryd.func9, Tryd.ntmps9
    go_wp2_with (first | (go_at_call 20; refine (rsnumber_any _ _).mono ?_; rintro e w' ⟨rfl, rfl⟩))
    go_ret
    exact ⟨rfl, rfl⟩
  · have HM : Hid ((toT 15 n : Int) = 0) := by
      show _ = _
      rw [toT, if_neg (by omega), if_neg (by omega), if_neg (by decide)]
      rfl
    rw [HM.out]
    clear HM
    go_enter Tryd.func9, Tryd.ntmps9
    go_wp2_with (first | (go_at_call 20; refine (rsnumber_any _ _).mono ?_; rintro e w' ⟨rfl, rfl⟩))
    go_ret
    exact ⟨rfl, rfl⟩
  · rw [out_to _ (by omega)]
    have n1 : ¬ ty = 1 := by omega
    have e1 : (ty == 1) = false := beq_false_of_ne n1
    have n2 : ¬ ty = 2 := by omega
    have e2 : (ty == 2) = false := beq_false_of_ne n2
    have n3 : ¬ ty = 3 := by omega
    have e3 : (ty == 3) = false := beq_false_of_ne n3
    have n4 : ¬ ty = 4 := by omega
    have e4 : (ty == 4) = false := beq_false_of_ne n4
    have n5 : ¬ ty = 5 := by omega
    have e5 : (ty == 5) = false := beq_false_of_ne n5
    have n6 : ¬ ty = 6 := by omega
    have e6 : (ty == 6) = false := beq_false_of_ne n6
    have n7 : ¬ ty = 7 := by omega
    have e7 : (ty == 7) = false := beq_false_of_ne n7
    have n8 : ¬ ty = 8 := by omega
    have e8 : (ty == 8) = false := beq_false_of_ne n8
    have n9 : ¬ ty = 9 := by omega
    have e9 : (ty == 9) = false := beq_false_of_ne n9
    have n10 : ¬ ty = 10 := by omega
    have e10 : (ty == 10) = false := beq_false_of_ne n10
    have n11 : ¬ ty = 11 := by omega
    have e11 : (ty == 11) = false := beq_false_of_ne n11
    have n12 : ¬ ty = 12 := by omega
    have e12 : (ty == 12) = false := beq_false_of_ne n12
    have n13 : ¬ ty = 13 := by omega
    have e13 : (ty == 13) = false := beq_false_of_ne n13
    have n14 : ¬ ty = 14 := by omega
    have e14 : (ty == 14) = false := beq_false_of_ne n14
    have n15 : ¬ ty = 15 := by omega
    have e15 : (ty == 15) = false := beq_false_of_ne n15
    have a1 : decide (1 ≤ ty) = false := decide_eq_false (by omega)
    have b1 : decide (ty ≤ 1) = true := decide_eq_true (by omega)
    have c1 : decide (ty < 1) = true := decide_eq_true (by omega)
    have d1 : decide (1 < ty) = false := decide_eq_false (by omega)
    have a6 : decide (6 ≤ ty) = false := decide_eq_false (by omega)
    have b6 : decide (ty ≤ 6) = true := decide_eq_true (by omega)
    have c6 : decide (ty < 6) = true := decide_eq_true (by omega)
    have d6 : decide (6 < ty) = false := decide_eq_false (by omega)
    have a7 : decide (7 ≤ ty) = false := decide_eq_false (by omega)
    have b7 : decide (ty ≤ 7) = true := decide_eq_true (by omega)
    have c7 : decide (ty < 7) = true := decide_eq_true (by omega)
    have d7 : decide (7 < ty) = false := decide_eq_false (by omega)
    have a8 : decide (8 ≤ ty) = false := decide_eq_false (by omega)
    have b8 : decide (ty ≤ 8) = true := decide_eq_true (by omega)
    have c8 : decide (ty < 8) = true := decide_eq_true (by omega)
    have d8 : decide (8 < ty) = false := decide_eq_false (by omega)
    have a11 : decide (11 ≤ ty) = false := decide_eq_false (by omega)
    have b11 : decide (ty ≤ 11) = true := decide_eq_true (by omega)
    have c11 : decide (ty < 11) = true := decide_eq_true (by omega)
    have d11 : decide (11 < ty) = false := decide_eq_false (by omega)
    have a13 : decide (13 ≤ ty) = false := decide_eq_false (by omega)
    have b13 : decide (ty ≤ 13) = true := decide_eq_true (by omega)
    have c13 : decide (ty < 13) = true := decide_eq_true (by omega)
    have d13 : decide (13 < ty) = false := decide_eq_false (by omega)
    have a15 : decide (15 ≤ ty) = false := decide_eq_false (by omega)
    have b15 : decide (ty ≤ 15) = true := decide_eq_true (by omega)
    have c15 : decide (ty < 15) = true := decide_eq_true (by omega)
    have d15 : decide (15 < ty) = false := decide_eq_false (by omega)
    have HNU := Lib.hid (fun w => rsnumber_any ty w)
    rw [out_number (by omega)] at HNU
    go_enter Tryd.func9, Tryd.ntmps9
    go_wp2_with (go_at_call 20; refine (HNU.out _).mono ?_; rintro e w' ⟨rfl, rfl⟩)
    go_ret
    exact ⟨rfl, rfl⟩
  · rw [out_to _ (by omega)]
    have n1 : ¬ ty = 1 := by omega
    have e1 : (ty == 1) = false := beq_false_of_ne n1
    have n2 : ¬ ty = 2 := by omega
    have e2 : (ty == 2) = false := beq_false_of_ne n2
    have n3 : ¬ ty = 3 := by omega
    have e3 : (ty == 3) = false := beq_false_of_ne n3
    have n4 : ¬ ty = 4 := by omega
    have e4 : (ty == 4) = false := beq_false_of_ne n4
    have n5 : ¬ ty = 5 := by omega
    have e5 : (ty == 5) = false := beq_false_of_ne n5
    have n6 : ¬ ty = 6 := by omega
    have e6 : (ty == 6) = false := beq_false_of_ne n6
    have n7 : ¬ ty = 7 := by omega
    have e7 : (ty == 7) = false := beq_false_of_ne n7
    have n8 : ¬ ty = 8 := by omega
    have e8 : (ty == 8) = false := beq_false_of_ne n8
    have n9 : ¬ ty = 9 := by omega
    have e9 : (ty == 9) = false := beq_false_of_ne n9
    have n10 : ¬ ty = 10 := by omega
    have e10 : (ty == 10) = false := beq_false_of_ne n10
    have n11 : ¬ ty = 11 := by omega
    have e11 : (ty == 11) = false := beq_false_of_ne n11
    have n12 : ¬ ty = 12 := by omega
    have e12 : (ty == 12) = false := beq_false_of_ne n12
    have n13 : ¬ ty = 13 := by omega
    have e13 : (ty == 13) = false := beq_false_of_ne n13
    have n14 : ¬ ty = 14 := by omega
    have e14 : (ty == 14) = false := beq_false_of_ne n14
    have n15 : ¬ ty = 15 := by omega
    have e15 : (ty == 15) = false := beq_false_of_ne n15
    have a1 : decide (1 ≤ ty) = true := decide_eq_true (by omega)
    have b1 : decide (ty ≤ 1) = false := decide_eq_false (by omega)
    have c1 : decide (ty < 1) = false := decide_eq_false (by omega)
    have d1 : decide (1 < ty) = true := decide_eq_true (by omega)
    have a6 : decide (6 ≤ ty) = true := decide_eq_true (by omega)
    have b6 : decide (ty ≤ 6) = false := decide_eq_false (by omega)
    have c6 : decide (ty < 6) = false := decide_eq_false (by omega)
    have d6 : decide (6 < ty) = true := decide_eq_true (by omega)
    have a7 : decide (7 ≤ ty) = true := decide_eq_true (by omega)
    have b7 : decide (ty ≤ 7) = false := decide_eq_false (by omega)
    have c7 : decide (ty < 7) = false := decide_eq_false (by omega)
    have d7 : decide (7 < ty) = true := decide_eq_true (by omega)
    have a8 : decide (8 ≤ ty) = true := decide_eq_true (by omega)
    have b8 : decide (ty ≤ 8) = false := decide_eq_false (by omega)
    have c8 : decide (ty < 8) = false := decide_eq_false (by omega)
    have d8 : decide (8 < ty) = true := decide_eq_true (by omega)
    have a11 : decide (11 ≤ ty) = true := decide_eq_true (by omega)
    have b11 : decide (ty ≤ 11) = false := decide_eq_false (by omega)
    have c11 : decide (ty < 11) = false := decide_eq_false (by omega)
    have d11 : decide (11 < ty) = true := decide_eq_true (by omega)
    have a13 : decide (13 ≤ ty) = true := decide_eq_true (by omega)
    have b13 : decide (ty ≤ 13) = false := decide_eq_false (by omega)
    have c13 : decide (ty < 13) = false := decide_eq_false (by omega)
    have d13 : decide (13 < ty) = true := decide_eq_true (by omega)
    have a15 : decide (15 ≤ ty) = true := decide_eq_true (by omega)
    have b15 : decide (ty ≤ 15) = false := decide_eq_false (by omega)
    have c15 : decide (ty < 15) = false := decide_eq_false (by omega)
    have d15 : decide (15 < ty) = true := decide_eq_true (by omega)
    have HNU := Lib.hid (fun w => rsnumber_any ty w)
    rw [out_number (by omega)] at HNU
    go_enter Tryd.func9, Tryd.ntmps9
    go_wp2_with (go_at_call 20; refine (HNU.out _).mono ?_; rintro e w' ⟨rfl, rfl⟩)
    go_ret
    exact ⟨rfl, rfl⟩
end Go.Proofs.YtifbkaknfcghiaaDoor
