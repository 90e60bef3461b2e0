/- The program's From and To of numbers. Conditions: ScEnv; those that each theorem names. -/
import Derived.Test.YtifbkaknfcghiaaDoorScQ
import Derived.Test.YtifbkaknfcghiaaDoorRnA
namespace Go.Proofs.YtifbkaknfcghiaaDoor
open Go.RowKit
set_option linter.unusedVariables false
set_option maxRecDepth 100000

theorem plow_any (n : Nat) (w : World) (h : n < 18446744073709551616) :
    Calls Tryd.prog 14 #[.int .u64 (n : Int)] w fun e w' => e = .returned (.int .u64 ((n % 4294967296 : Nat) : Int)) ∧ w = w' := by
  have HL := Lib.hid (fun w => low_any (wrap64 (n : Int)) w (wrap64_ge _) (wrap64_lt _))
  obtain ⟨m, hm⟩ : ∃ m : Nat, m = (wrap64 (n : Int) % 4294967296).toNat := ⟨_, rfl⟩
  have hm2 : m < 4294967296 := by omega
  have HE : Hid (((n % 4294967296 : Nat) : Int) = (m : Int)) := by show _ = _; rw [hm]; unfold wrap64; omega
  rw [← hm] at HL
  rw [HE.out]
  clear hm HE
  go_enter Tryd.func14, Tryd.ntmps14
  go_wp2_with (go_at_call 25; refine (HL.out _).mono ?_; rintro e w' ⟨rfl, rfl⟩)
  go_ret
  exact ⟨rfl, rfl⟩
set_option maxHeartbeats 4000000 in
theorem pnfrom_any (ty : Int) (n : Nat) (w : World) (env : ScEnv w) (ht : Int64 ty) (hn : n < 18446744073709551616) : Calls Tryd.prog 6 #[.int .i64 ty, .int .u64 (n : Int)] w fun e w' => e = .returned (.int .u64 (fromT ty n : Int)) ∧ Below w.heap.size w w' := by
  have HB := Lib.hid (Below.refl w.heap.size w)
  have HNU := Lib.hid (fun w' (hb : Below w.heap.size w w') => pnumber_any ty w' (env.rides hb))
  clear env
  rcases ty_cases ty with rfl | rfl | rfl | rfl | rfl | rfl | rfl | rfl | rfl | rfl | rfl | rfl | rfl | rfl | rfl | h | h
  · have HW := Lib.hid (fun w => wide_any n w hn)
    have HM : Hid ((fromT 1 n : Int) = IntKind.u64.wrap (wideI n)) := by
      show _ = _
      rw [fromT, if_pos (by omega), u64of_wrap]
    rw [HM.out]
    clear HM
    go_enter Tryd.func6, Tryd.ntmps6
    go_wp2_with (first | (go_at_call 16; refine (HW.out _).mono ?_; rintro e w1 ⟨rfl, rfl⟩))
    go_ret
    exact ⟨rfl, HB.out⟩
  · rw [show numberT 2 = true from rfl] at HNU
    have HM : Hid ((fromT 2 n : Int) = (n : Int)) := by
      show _ = _
      rw [fromT, if_neg (by omega), if_neg (by omega), if_neg (by omega), if_neg (by omega), if_neg (by omega), if_pos (by decide)]
    rw [HM.out]
    clear HM
    go_enter Tryd.func6, Tryd.ntmps6
    go_wp2_with (first | (go_at_call 17; refine (HNU.out _ HB.out).mono ?_; rintro e w1 ⟨rfl, hb⟩; replace HB := Lib.hid (HB.out.trans (hb.mono HB.out.size)); clear hb))
    go_ret
    exact ⟨rfl, HB.out⟩
  · obtain ⟨m, hm⟩ : ∃ m, m = n % 4294967296 := ⟨_, rfl⟩
    have hm2 : m < 4294967296 := by omega
    have HL := Lib.hid (fun w => plow_any n w hn)
    rw [← hm] at HL
    have HM : Hid ((fromT 3 n : Int) = (m : Int)) := by
      show _ = _
      rw [fromT, if_neg (by omega), if_pos (by omega), hm]
    rw [HM.out]
    clear HM
    clear hm
    go_enter Tryd.func6, Tryd.ntmps6
    go_wp2_with (first | (go_at_call 14; refine (HL.out _).mono ?_; rintro e w1 ⟨rfl, rfl⟩))
    go_ret
    exact ⟨rfl, HB.out⟩
  · rw [show numberT 4 = true from rfl] at HNU
    have HM : Hid ((fromT 4 n : Int) = (n : Int)) := by
      show _ = _
      rw [fromT, if_neg (by omega), if_neg (by omega), if_neg (by omega), if_neg (by omega), if_neg (by omega), if_pos (by decide)]
    rw [HM.out]
    clear HM
    go_enter Tryd.func6, Tryd.ntmps6
    go_wp2_with (first | (go_at_call 17; refine (HNU.out _ HB.out).mono ?_; rintro e w1 ⟨rfl, hb⟩; replace HB := Lib.hid (HB.out.trans (hb.mono HB.out.size)); clear hb))
    go_ret
    exact ⟨rfl, HB.out⟩
  · obtain ⟨m, hm⟩ : ∃ m, m = n % 4294967296 := ⟨_, rfl⟩
    have hm2 : m < 4294967296 := by omega
    have HL := Lib.hid (fun w => plow_any n w hn)
    rw [← hm] at HL
    have HZ := Lib.hid (fun w => zag_any m w (by omega))
    have HM : Hid ((fromT 5 n : Int) = IntKind.u64.wrap (zagI m)) := by
      show _ = _
      rw [fromT, if_neg (by omega), if_neg (by omega), if_pos (by omega), u64of_wrap, ← hm]
    rw [HM.out]
    clear HM
    clear hm
    go_enter Tryd.func6, Tryd.ntmps6
    go_wp2_with (first | (go_at_call 14; refine (HL.out _).mono ?_; rintro e w1 ⟨rfl, rfl⟩) | (go_at_call 15; refine (HZ.out _).mono ?_; rintro e w1 ⟨rfl, rfl⟩))
    go_ret
    exact ⟨rfl, HB.out⟩
  · have HZ := Lib.hid (fun w => zag_any n w hn)
    have HM : Hid ((fromT 6 n : Int) = IntKind.u64.wrap (zagI n)) := by
      show _ = _
      rw [fromT, if_neg (by omega), if_neg (by omega), if_neg (by omega), if_pos (by omega), u64of_wrap]
    rw [HM.out]
    clear HM
    go_enter Tryd.func6, Tryd.ntmps6
    go_wp2_with (first | (go_at_call 15; refine (HZ.out _).mono ?_; rintro e w1 ⟨rfl, rfl⟩))
    go_ret
    exact ⟨rfl, HB.out⟩
  · have HM : Hid ((fromT 7 n : Int) = (min n 1 : Nat)) := by
      show _ = _
      rw [fromT, if_neg (by omega), if_neg (by omega), if_neg (by omega), if_neg (by omega), if_pos (by omega)]
      split <;> omega
    rw [HM.out]
    clear HM
    go_enter Tryd.func6, Tryd.ntmps6
    go_wp2
    all_goals go_ret
    all_goals exact ⟨ret_int' (by omega), HB.out⟩
  · obtain ⟨m, hm⟩ : ∃ m, m = n % 4294967296 := ⟨_, rfl⟩
    have hm2 : m < 4294967296 := by omega
    have HL := Lib.hid (fun w => plow_any n w hn)
    rw [← hm] at HL
    have HM : Hid ((fromT 8 n : Int) = (m : Int)) := by
      show _ = _
      rw [fromT, if_neg (by omega), if_pos (by omega), hm]
    rw [HM.out]
    clear HM
    clear hm
    go_enter Tryd.func6, Tryd.ntmps6
    go_wp2_with (first | (go_at_call 14; refine (HL.out _).mono ?_; rintro e w1 ⟨rfl, rfl⟩))
    go_ret
    exact ⟨rfl, HB.out⟩
  · rw [show numberT 9 = true from rfl] at HNU
    have HM : Hid ((fromT 9 n : Int) = (n : Int)) := by
      show _ = _
      rw [fromT, if_neg (by omega), if_neg (by omega), if_neg (by omega), if_neg (by omega), if_neg (by omega), if_pos (by decide)]
    rw [HM.out]
    clear HM
    go_enter Tryd.func6, Tryd.ntmps6
    go_wp2_with (first | (go_at_call 17; refine (HNU.out _ HB.out).mono ?_; rintro e w1 ⟨rfl, hb⟩; replace HB := Lib.hid (HB.out.trans (hb.mono HB.out.size)); clear hb))
    go_ret
    exact ⟨rfl, HB.out⟩
  · have HW := Lib.hid (fun w => wide_any n w hn)
    have HM : Hid ((fromT 10 n : Int) = IntKind.u64.wrap (wideI n)) := by
      show _ = _
      rw [fromT, if_pos (by omega), u64of_wrap]
    rw [HM.out]
    clear HM
    go_enter Tryd.func6, Tryd.ntmps6
    go_wp2_with (first | (go_at_call 16; refine (HW.out _).mono ?_; rintro e w1 ⟨rfl, rfl⟩))
    go_ret
    exact ⟨rfl, HB.out⟩
  · rw [show numberT 11 = true from rfl] at HNU
    have HM : Hid ((fromT 11 n : Int) = (n : Int)) := by
      show _ = _
      rw [fromT, if_neg (by omega), if_neg (by omega), if_neg (by omega), if_neg (by omega), if_neg (by omega), if_pos (by decide)]
    rw [HM.out]
    clear HM
    go_enter Tryd.func6, Tryd.ntmps6
    go_wp2_with (first | (go_at_call 17; refine (HNU.out _ HB.out).mono ?_; rintro e w1 ⟨rfl, hb⟩; replace HB := Lib.hid (HB.out.trans (hb.mono HB.out.size)); clear hb))
    go_ret
    exact ⟨rfl, HB.out⟩
  · rw [show numberT 12 = false from rfl] at HNU
    have HM : Hid ((fromT 12 n : Int) = 0) := by
      show _ = _
      rw [fromT, if_neg (by omega), if_neg (by omega), if_neg (by omega), if_neg (by omega), if_neg (by omega), if_neg (by decide)]
      rfl
    rw [HM.out]
    clear HM
    go_enter Tryd.func6, Tryd.ntmps6
    go_wp2_with (first | (go_at_call 17; refine (HNU.out _ HB.out).mono ?_; rintro e w1 ⟨rfl, hb⟩; replace HB := Lib.hid (HB.out.trans (hb.mono HB.out.size)); clear hb))
    go_ret
    exact ⟨rfl, HB.out⟩
  · rw [show numberT 13 = false from rfl] at HNU
    have HM : Hid ((fromT 13 n : Int) = 0) := by
      show _ = _
      rw [fromT, if_neg (by omega), if_neg (by omega), if_neg (by omega), if_neg (by omega), if_neg (by omega), if_neg (by decide)]
      rfl
    rw [HM.out]
    clear HM
    go_enter Tryd.func6, Tryd.ntmps6
    go_wp2_with (first | (go_at_call 17; refine (HNU.out _ HB.out).mono ?_; rintro e w1 ⟨rfl, hb⟩; replace HB := Lib.hid (HB.out.trans (hb.mono HB.out.size)); clear hb))
    go_ret
    exact ⟨rfl, HB.out⟩
  · have HW := Lib.hid (fun w => wide_any n w hn)
    have HM : Hid ((fromT 14 n : Int) = IntKind.u64.wrap (wideI n)) := by
      show _ = _
      rw [fromT, if_pos (by omega), u64of_wrap]
    rw [HM.out]
    clear HM
    go_enter Tryd.func6, Tryd.ntmps6
    go_wp2_with (first | (go_at_call 16; refine (HW.out _).mono ?_; rintro e w1 ⟨rfl, rfl⟩))
    go_ret
    exact ⟨rfl, HB.out⟩
  · rw [show numberT 15 = false from rfl] at HNU
    have HM : Hid ((fromT 15 n : Int) = 0) := by
      show _ = _
      rw [fromT, if_neg (by omega), if_neg (by omega), if_neg (by omega), if_neg (by omega), if_neg (by omega), if_neg (by decide)]
      rfl
    rw [HM.out]
    clear HM
    go_enter Tryd.func6, Tryd.ntmps6
    go_wp2_with (first | (go_at_call 17; refine (HNU.out _ HB.out).mono ?_; rintro e w1 ⟨rfl, hb⟩; replace HB := Lib.hid (HB.out.trans (hb.mono HB.out.size)); clear hb))
    go_ret
    exact ⟨rfl, HB.out⟩
  · rw [out_from _ (by omega)]
    have n1 : ¬ ty = 1 := by omega
    have e1 : (ty == 1) = false := beq_false_of_ne n1
    have n2 : ¬ ty = 2 := by omega
    have e2 : (ty == 2) = false := beq_false_of_ne n2
    have n3 : ¬ ty = 3 := by omega
    have e3 : (ty == 3) = false := beq_false_of_ne n3
    have n4 : ¬ ty = 4 := by omega
    have e4 : (ty == 4) = false := beq_false_of_ne n4
    have n5 : ¬ ty = 5 := by omega
    have e5 : (ty == 5) = false := beq_false_of_ne n5
    have n6 : ¬ ty = 6 := by omega
    have e6 : (ty == 6) = false := beq_false_of_ne n6
    have n7 : ¬ ty = 7 := by omega
    have e7 : (ty == 7) = false := beq_false_of_ne n7
    have n8 : ¬ ty = 8 := by omega
    have e8 : (ty == 8) = false := beq_false_of_ne n8
    have n9 : ¬ ty = 9 := by omega
    have e9 : (ty == 9) = false := beq_false_of_ne n9
    have n10 : ¬ ty = 10 := by omega
    have e10 : (ty == 10) = false := beq_false_of_ne n10
    have n11 : ¬ ty = 11 := by omega
    have e11 : (ty == 11) = false := beq_false_of_ne n11
    have n12 : ¬ ty = 12 := by omega
    have e12 : (ty == 12) = false := beq_false_of_ne n12
    have n13 : ¬ ty = 13 := by omega
    have e13 : (ty == 13) = false := beq_false_of_ne n13
    have n14 : ¬ ty = 14 := by omega
    have e14 : (ty == 14) = false := beq_false_of_ne n14
    have n15 : ¬ ty = 15 := by omega
    have e15 : (ty == 15) = false := beq_false_of_ne n15
    have a1 : decide (1 ≤ ty) = false := decide_eq_false (by omega)
    have b1 : decide (ty ≤ 1) = true := decide_eq_true (by omega)
    have c1 : decide (ty < 1) = true := decide_eq_true (by omega)
    have d1 : decide (1 < ty) = false := decide_eq_false (by omega)
    have a6 : decide (6 ≤ ty) = false := decide_eq_false (by omega)
    have b6 : decide (ty ≤ 6) = true := decide_eq_true (by omega)
    have c6 : decide (ty < 6) = true := decide_eq_true (by omega)
    have d6 : decide (6 < ty) = false := decide_eq_false (by omega)
    have a7 : decide (7 ≤ ty) = false := decide_eq_false (by omega)
    have b7 : decide (ty ≤ 7) = true := decide_eq_true (by omega)
    have c7 : decide (ty < 7) = true := decide_eq_true (by omega)
    have d7 : decide (7 < ty) = false := decide_eq_false (by omega)
    have a8 : decide (8 ≤ ty) = false := decide_eq_false (by omega)
    have b8 : decide (ty ≤ 8) = true := decide_eq_true (by omega)
    have c8 : decide (ty < 8) = true := decide_eq_true (by omega)
    have d8 : decide (8 < ty) = false := decide_eq_false (by omega)
    have a11 : decide (11 ≤ ty) = false := decide_eq_false (by omega)
    have b11 : decide (ty ≤ 11) = true := decide_eq_true (by omega)
    have c11 : decide (ty < 11) = true := decide_eq_true (by omega)
    have d11 : decide (11 < ty) = false := decide_eq_false (by omega)
    have a13 : decide (13 ≤ ty) = false := decide_eq_false (by omega)
    have b13 : decide (ty ≤ 13) = true := decide_eq_true (by omega)
    have c13 : decide (ty < 13) = true := decide_eq_true (by omega)
    have d13 : decide (13 < ty) = false := decide_eq_false (by omega)
    have a15 : decide (15 ≤ ty) = false := decide_eq_false (by omega)
    have b15 : decide (ty ≤ 15) = true := decide_eq_true (by omega)
    have c15 : decide (ty < 15) = true := decide_eq_true (by omega)
    have d15 : decide (15 < ty) = false := decide_eq_false (by omega)
    rw [out_number (by omega)] at HNU
    go_enter Tryd.func6, Tryd.ntmps6
    go_wp2_with (first | (go_at_call 17; refine (HNU.out _ HB.out).mono ?_; rintro e w1 ⟨rfl, hb⟩; replace HB := Lib.hid (HB.out.trans (hb.mono HB.out.size)); clear hb))
    go_ret
    exact ⟨rfl, HB.out⟩
  · rw [out_from _ (by omega)]
    have n1 : ¬ ty = 1 := by omega
    have e1 : (ty == 1) = false := beq_false_of_ne n1
    have n2 : ¬ ty = 2 := by omega
    have e2 : (ty == 2) = false := beq_false_of_ne n2
    have n3 : ¬ ty = 3 := by omega
    have e3 : (ty == 3) = false := beq_false_of_ne n3
    have n4 : ¬ ty = 4 := by omega
    have e4 : (ty == 4) = false := beq_false_of_ne n4
    have n5 : ¬ ty = 5 := by omega
    have e5 : (ty == 5) = false := beq_false_of_ne n5
    have n6 : ¬ ty = 6 := by omega
    have e6 : (ty == 6) = false := beq_false_of_ne n6
    have n7 : ¬ ty = 7 := by omega
    have e7 : (ty == 7) = false := beq_false_of_ne n7
    have n8 : ¬ ty = 8 := by omega
    have e8 : (ty == 8) = false := beq_false_of_ne n8
    have n9 : ¬ ty = 9 := by omega
    have e9 : (ty == 9) = false := beq_false_of_ne n9
    have n10 : ¬ ty = 10 := by omega
    have e10 : (ty == 10) = false := beq_false_of_ne n10
    have n11 : ¬ ty = 11 := by omega
    have e11 : (ty == 11) = false := beq_false_of_ne n11
    have n12 : ¬ ty = 12 := by omega
    have e12 : (ty == 12) = false := beq_false_of_ne n12
    have n13 : ¬ ty = 13 := by omega
    have e13 : (ty == 13) = false := beq_false_of_ne n13
    have n14 : ¬ ty = 14 := by omega
    have e14 : (ty == 14) = false := beq_false_of_ne n14
    have n15 : ¬ ty = 15 := by omega
    have e15 : (ty == 15) = false := beq_false_of_ne n15
    have a1 : decide (1 ≤ ty) = true := decide_eq_true (by omega)
    have b1 : decide (ty ≤ 1) = false := decide_eq_false (by omega)
    have c1 : decide (ty < 1) = false := decide_eq_false (by omega)
    have d1 : decide (1 < ty) = true := decide_eq_true (by omega)
    have a6 : decide (6 ≤ ty) = true := decide_eq_true (by omega)
    have b6 : decide (ty ≤ 6) = false := decide_eq_false (by omega)
    have c6 : decide (ty < 6) = false := decide_eq_false (by omega)
    have d6 : decide (6 < ty) = true := decide_eq_true (by omega)
    have a7 : decide (7 ≤ ty) = true := decide_eq_true (by omega)
    have b7 : decide (ty ≤ 7) = false := decide_eq_false (by omega)
    have c7 : decide (ty < 7) = false := decide_eq_false (by omega)
    have d7 : decide (7 < ty) = true := decide_eq_true (by omega)
    have a8 : decide (8 ≤ ty) = true := decide_eq_true (by omega)
    have b8 : decide (ty ≤ 8) = false := decide_eq_false (by omega)
    have c8 : decide (ty < 8) = false := decide_eq_false (by omega)
    have d8 : decide (8 < ty) = true := decide_eq_true (by omega)
    have a11 : decide (11 ≤ ty) = true := decide_eq_true (by omega)
    have b11 : decide (ty ≤ 11) = false := decide_eq_false (by omega)
    have c11 : decide (ty < 11) = false := decide_eq_false (by omega)
    have d11 : decide (11 < ty) = true := decide_eq_true (by omega)
    have a13 : decide (13 ≤ ty) = true := decide_eq_true (by omega)
    have b13 : decide (ty ≤ 13) = false := decide_eq_false (by omega)
    have c13 : decide (ty < 13) = false := decide_eq_false (by omega)
    have d13 : decide (13 < ty) = true := decide_eq_true (by omega)
    have a15 : decide (15 ≤ ty) = true := decide_eq_true (by omega)
    have b15 : decide (ty ≤ 15) = false := decide_eq_false (by omega)
    have c15 : decide (ty < 15) = false := decide_eq_false (by omega)
    have d15 : decide (15 < ty) = true := decide_eq_true (by omega)
    rw [out_number (by omega)] at HNU
    go_enter Tryd.func6, Tryd.ntmps6
    go_wp2_with (first | (go_at_call 17; refine (HNU.out _ HB.out).mono ?_; rintro e w1 ⟨rfl, hb⟩; replace HB := Lib.hid (HB.out.trans (hb.mono HB.out.size)); clear hb))
    go_ret
    exact ⟨rfl, HB.out⟩
set_option maxHeartbeats 4000000 in
theorem pnto_any (ty : Int) (n : Nat) (w : World) (env : ScEnv w) (ht : Int64 ty) (hn : n < 18446744073709551616) : Calls Tryd.prog 8 #[.int .i64 ty, .int .u64 (n : Int)] w fun e w' => e = .returned (.int .u64 (toT ty n : Int)) ∧ Below w.heap.size w w' := by
  have HB := Lib.hid (Below.refl w.heap.size w)
  have HNU := Lib.hid (fun w' (hb : Below w.heap.size w w') => pnumber_any ty w' (env.rides hb))
  clear env
  rcases ty_cases ty with rfl | rfl | rfl | rfl | rfl | rfl | rfl | rfl | rfl | rfl | rfl | rfl | rfl | rfl | rfl | h | h
  · have HM : Hid ((toT 1 n : Int) = (n : Int)) := by
      show _ = _
      rw [toT, if_neg (by omega), if_neg (by omega), if_pos (by decide)]
    rw [HM.out]
    clear HM
    go_enter Tryd.func8, Tryd.ntmps8
    go_wp2
    go_ret
    exact ⟨rfl, HB.out⟩
  · have HM : Hid ((toT 2 n : Int) = (n : Int)) := by
      show _ = _
      rw [toT, if_neg (by omega), if_neg (by omega), if_pos (by decide)]
    rw [HM.out]
    clear HM
    go_enter Tryd.func8, Tryd.ntmps8
    go_wp2
    go_ret
    exact ⟨rfl, HB.out⟩
  · obtain ⟨m, hm⟩ : ∃ m, m = n % 4294967296 := ⟨_, rfl⟩
    have hm2 : m < 4294967296 := by omega
    have HL := Lib.hid (fun w => plow_any n w hn)
    rw [← hm] at HL
    have HM : Hid ((toT 3 n : Int) = (m : Int)) := by
      show _ = _
      rw [toT, if_pos (by omega), hm]
    rw [HM.out]
    clear HM
    clear hm
    go_enter Tryd.func8, Tryd.ntmps8
    go_wp2_with (first | (go_at_call 14; refine (HL.out _).mono ?_; rintro e w1 ⟨rfl, rfl⟩))
    go_ret
    exact ⟨rfl, HB.out⟩
  · have HM : Hid ((toT 4 n : Int) = (n : Int)) := by
      show _ = _
      rw [toT, if_neg (by omega), if_neg (by omega), if_pos (by decide)]
    rw [HM.out]
    clear HM
    go_enter Tryd.func8, Tryd.ntmps8
    go_wp2
    go_ret
    exact ⟨rfl, HB.out⟩
  · have HZ := Lib.hid (fun w => zig_any (wrap64 (n : Int)) w (wrap64_ge _) (wrap64_lt _))
    have HM : Hid ((toT 5 n : Int) = (zigN (wrap64 (n : Int)) : Int)) := by
      show _ = _
      rw [toT, if_neg (by omega), if_pos (by omega)]
    rw [HM.out]
    clear HM
    go_enter Tryd.func8, Tryd.ntmps8
    go_wp2_with (first | (go_at_call 21; refine (HZ.out _).mono ?_; rintro e w1 ⟨rfl, rfl⟩))
    go_ret
    exact ⟨rfl, HB.out⟩
  · have HZ := Lib.hid (fun w => zig_any (wrap64 (n : Int)) w (wrap64_ge _) (wrap64_lt _))
    have HM : Hid ((toT 6 n : Int) = (zigN (wrap64 (n : Int)) : Int)) := by
      show _ = _
      rw [toT, if_neg (by omega), if_pos (by omega)]
    rw [HM.out]
    clear HM
    go_enter Tryd.func8, Tryd.ntmps8
    go_wp2_with (first | (go_at_call 21; refine (HZ.out _).mono ?_; rintro e w1 ⟨rfl, rfl⟩))
    go_ret
    exact ⟨rfl, HB.out⟩
  · have HM : Hid ((toT 7 n : Int) = (n : Int)) := by
      show _ = _
      rw [toT, if_neg (by omega), if_neg (by omega), if_pos (by decide)]
    rw [HM.out]
    clear HM
    go_enter Tryd.func8, Tryd.ntmps8
    go_wp2
    go_ret
    exact ⟨rfl, HB.out⟩
  · obtain ⟨m, hm⟩ : ∃ m, m = n % 4294967296 := ⟨_, rfl⟩
    have hm2 : m < 4294967296 := by omega
    have HL := Lib.hid (fun w => plow_any n w hn)
    rw [← hm] at HL
    have HM : Hid ((toT 8 n : Int) = (m : Int)) := by
      show _ = _
      rw [toT, if_pos (by omega), hm]
    rw [HM.out]
    clear HM
    clear hm
    go_enter Tryd.func8, Tryd.ntmps8
    go_wp2_with (first | (go_at_call 14; refine (HL.out _).mono ?_; rintro e w1 ⟨rfl, rfl⟩))
    go_ret
    exact ⟨rfl, HB.out⟩
  · have HM : Hid ((toT 9 n : Int) = (n : Int)) := by
      show _ = _
      rw [toT, if_neg (by omega), if_neg (by omega), if_pos (by decide)]
    rw [HM.out]
    clear HM
    go_enter Tryd.func8, Tryd.ntmps8
    go_wp2
    go_ret
    exact ⟨rfl, HB.out⟩
  · obtain ⟨m, hm⟩ : ∃ m, m = n % 4294967296 := ⟨_, rfl⟩
    have hm2 : m < 4294967296 := by omega
    have HL := Lib.hid (fun w => plow_any n w hn)
    rw [← hm] at HL
    have HM : Hid ((toT 10 n : Int) = (m : Int)) := by
      show _ = _
      rw [toT, if_pos (by omega), hm]
    rw [HM.out]
    clear HM
    clear hm
    go_enter Tryd.func8, Tryd.ntmps8
    go_wp2_with (first | (go_at_call 14; refine (HL.out _).mono ?_; rintro e w1 ⟨rfl, rfl⟩))
    go_ret
    exact ⟨rfl, HB.out⟩
  · have HM : Hid ((toT 11 n : Int) = (n : Int)) := by
      show _ = _
      rw [toT, if_neg (by omega), if_neg (by omega), if_pos (by decide)]
    rw [HM.out]
    clear HM
    go_enter Tryd.func8, Tryd.ntmps8
    go_wp2
    go_ret
    exact ⟨rfl, HB.out⟩
  · have HM : Hid ((toT 12 n : Int) = 0) := by
      show _ = _
      rw [toT, if_neg (by omega), if_neg (by omega), if_neg (by decide)]
      rfl
    rw [HM.out]
    clear HM
    go_enter Tryd.func8, Tryd.ntmps8
    go_wp2
    go_ret
    exact ⟨rfl, HB.out⟩
  · have HM : Hid ((toT 13 n : Int) = 0) := by
      show _ = _
      rw [toT, if_neg (by omega), if_neg (by omega), if_neg (by decide)]
      rfl
    rw [HM.out]
    clear HM
    go_enter Tryd.func8, Tryd.ntmps8
    go_wp2
    go_ret
    exact ⟨rfl, HB.out⟩
  · have HM : Hid ((toT 14 n : Int) = (n : Int)) := by
      show _ = _
      rw [toT, if_neg (by omega), if_neg (by omega), if_pos (by decide)]
    rw [HM.out]
    clear HM
    go_enter Tryd.func8, Tryd.ntmps8
    go_wp2
    go_ret
    exact ⟨rfl, HB.out⟩
  · have HM : Hid ((toT 15 n : Int) = 0) := by
      show _ = _
      rw [toT, if_neg (by omega), if_neg (by omega), if_neg (by decide)]
      rfl
    rw [HM.out]
    clear HM
    go_enter Tryd.func8, Tryd.ntmps8
    go_wp2
    go_ret
    exact ⟨rfl, HB.out⟩
  · rw [out_to _ (by omega)]
    have n1 : ¬ ty = 1 := by omega
    have e1 : (ty == 1) = false := beq_false_of_ne n1
    have n2 : ¬ ty = 2 := by omega
    have e2 : (ty == 2) = false := beq_false_of_ne n2
    have n3 : ¬ ty = 3 := by omega
    have e3 : (ty == 3) = false := beq_false_of_ne n3
    have n4 : ¬ ty = 4 := by omega
    have e4 : (ty == 4) = false := beq_false_of_ne n4
    have n5 : ¬ ty = 5 := by omega
    have e5 : (ty == 5) = false := beq_false_of_ne n5
    have n6 : ¬ ty = 6 := by omega
    have e6 : (ty == 6) = false := beq_false_of_ne n6
    have n7 : ¬ ty = 7 := by omega
    have e7 : (ty == 7) = false := beq_false_of_ne n7
    have n8 : ¬ ty = 8 := by omega
    have e8 : (ty == 8) = false := beq_false_of_ne n8
    have n9 : ¬ ty = 9 := by omega
    have e9 : (ty == 9) = false := beq_false_of_ne n9
    have n10 : ¬ ty = 10 := by omega
    have e10 : (ty == 10) = false := beq_false_of_ne n10
    have n11 : ¬ ty = 11 := by omega
    have e11 : (ty == 11) = false := beq_false_of_ne n11
    have n12 : ¬ ty = 12 := by omega
    have e12 : (ty == 12) = false := beq_false_of_ne n12
    have n13 : ¬ ty = 13 := by omega
    have e13 : (ty == 13) = false := beq_false_of_ne n13
    have n14 : ¬ ty = 14 := by omega
    have e14 : (ty == 14) = false := beq_false_of_ne n14
    have n15 : ¬ ty = 15 := by omega
    have e15 : (ty == 15) = false := beq_false_of_ne n15
    have a1 : decide (1 ≤ ty) = false := decide_eq_false (by omega)
    have b1 : decide (ty ≤ 1) = true := decide_eq_true (by omega)
    have c1 : decide (ty < 1) = true := decide_eq_true (by omega)
    have d1 : decide (1 < ty) = false := decide_eq_false (by omega)
    have a6 : decide (6 ≤ ty) = false := decide_eq_false (by omega)
    have b6 : decide (ty ≤ 6) = true := decide_eq_true (by omega)
    have c6 : decide (ty < 6) = true := decide_eq_true (by omega)
    have d6 : decide (6 < ty) = false := decide_eq_false (by omega)
    have a7 : decide (7 ≤ ty) = false := decide_eq_false (by omega)
    have b7 : decide (ty ≤ 7) = true := decide_eq_true (by omega)
    have c7 : decide (ty < 7) = true := decide_eq_true (by omega)
    have d7 : decide (7 < ty) = false := decide_eq_false (by omega)
    have a8 : decide (8 ≤ ty) = false := decide_eq_false (by omega)
    have b8 : decide (ty ≤ 8) = true := decide_eq_true (by omega)
    have c8 : decide (ty < 8) = true := decide_eq_true (by omega)
    have d8 : decide (8 < ty) = false := decide_eq_false (by omega)
    have a11 : decide (11 ≤ ty) = false := decide_eq_false (by omega)
    have b11 : decide (ty ≤ 11) = true := decide_eq_true (by omega)
    have c11 : decide (ty < 11) = true := decide_eq_true (by omega)
    have d11 : decide (11 < ty) = false := decide_eq_false (by omega)
    have a13 : decide (13 ≤ ty) = false := decide_eq_false (by omega)
    have b13 : decide (ty ≤ 13) = true := decide_eq_true (by omega)
    have c13 : decide (ty < 13) = true := decide_eq_true (by omega)
    have d13 : decide (13 < ty) = false := decide_eq_false (by omega)
    have a15 : decide (15 ≤ ty) = false := decide_eq_false (by omega)
    have b15 : decide (ty ≤ 15) = true := decide_eq_true (by omega)
    have c15 : decide (ty < 15) = true := decide_eq_true (by omega)
    have d15 : decide (15 < ty) = false := decide_eq_false (by omega)
    rw [out_number (by omega)] at HNU
    go_enter Tryd.func8, Tryd.ntmps8
    go_wp2
    go_ret
    exact ⟨rfl, HB.out⟩
  · rw [out_to _ (by omega)]
    have n1 : ¬ ty = 1 := by omega
    have e1 : (ty == 1) = false := beq_false_of_ne n1
    have n2 : ¬ ty = 2 := by omega
    have e2 : (ty == 2) = false := beq_false_of_ne n2
    have n3 : ¬ ty = 3 := by omega
    have e3 : (ty == 3) = false := beq_false_of_ne n3
    have n4 : ¬ ty = 4 := by omega
    have e4 : (ty == 4) = false := beq_false_of_ne n4
    have n5 : ¬ ty = 5 := by omega
    have e5 : (ty == 5) = false := beq_false_of_ne n5
    have n6 : ¬ ty = 6 := by omega
    have e6 : (ty == 6) = false := beq_false_of_ne n6
    have n7 : ¬ ty = 7 := by omega
    have e7 : (ty == 7) = false := beq_false_of_ne n7
    have n8 : ¬ ty = 8 := by omega
    have e8 : (ty == 8) = false := beq_false_of_ne n8
    have n9 : ¬ ty = 9 := by omega
    have e9 : (ty == 9) = false := beq_false_of_ne n9
    have n10 : ¬ ty = 10 := by omega
    have e10 : (ty == 10) = false := beq_false_of_ne n10
    have n11 : ¬ ty = 11 := by omega
    have e11 : (ty == 11) = false := beq_false_of_ne n11
    have n12 : ¬ ty = 12 := by omega
    have e12 : (ty == 12) = false := beq_false_of_ne n12
    have n13 : ¬ ty = 13 := by omega
    have e13 : (ty == 13) = false := beq_false_of_ne n13
    have n14 : ¬ ty = 14 := by omega
    have e14 : (ty == 14) = false := beq_false_of_ne n14
    have n15 : ¬ ty = 15 := by omega
    have e15 : (ty == 15) = false := beq_false_of_ne n15
    have a1 : decide (1 ≤ ty) = true := decide_eq_true (by omega)
    have b1 : decide (ty ≤ 1) = false := decide_eq_false (by omega)
    have c1 : decide (ty < 1) = false := decide_eq_false (by omega)
    have d1 : decide (1 < ty) = true := decide_eq_true (by omega)
    have a6 : decide (6 ≤ ty) = true := decide_eq_true (by omega)
    have b6 : decide (ty ≤ 6) = false := decide_eq_false (by omega)
    have c6 : decide (ty < 6) = false := decide_eq_false (by omega)
    have d6 : decide (6 < ty) = true := decide_eq_true (by omega)
    have a7 : decide (7 ≤ ty) = true := decide_eq_true (by omega)
    have b7 : decide (ty ≤ 7) = false := decide_eq_false (by omega)
    have c7 : decide (ty < 7) = false := decide_eq_false (by omega)
    have d7 : decide (7 < ty) = true := decide_eq_true (by omega)
    have a8 : decide (8 ≤ ty) = true := decide_eq_true (by omega)
    have b8 : decide (ty ≤ 8) = false := decide_eq_false (by omega)
    have c8 : decide (ty < 8) = false := decide_eq_false (by omega)
    have d8 : decide (8 < ty) = true := decide_eq_true (by omega)
    have a11 : decide (11 ≤ ty) = true := decide_eq_true (by omega)
    have b11 : decide (ty ≤ 11) = false := decide_eq_false (by omega)
    have c11 : decide (ty < 11) = false := decide_eq_false (by omega)
    have d11 : decide (11 < ty) = true := decide_eq_true (by omega)
    have a13 : decide (13 ≤ ty) = true := decide_eq_true (by omega)
    have b13 : decide (ty ≤ 13) = false := decide_eq_false (by omega)
    have c13 : decide (ty < 13) = false := decide_eq_false (by omega)
    have d13 : decide (13 < ty) = true := decide_eq_true (by omega)
    have a15 : decide (15 ≤ ty) = true := decide_eq_true (by omega)
    have b15 : decide (ty ≤ 15) = false := decide_eq_false (by omega)
    have c15 : decide (ty < 15) = false := decide_eq_false (by omega)
    have d15 : decide (15 < ty) = true := decide_eq_true (by omega)
    rw [out_number (by omega)] at HNU
    go_enter Tryd.func8, Tryd.ntmps8
    go_wp2
    go_ret
    exact ⟨rfl, HB.out⟩
end Go.Proofs.YtifbkaknfcghiaaDoor
