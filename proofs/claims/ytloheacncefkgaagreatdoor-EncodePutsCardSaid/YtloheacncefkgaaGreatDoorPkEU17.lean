/- Several texts in one: RsB. What each proves, and its conditions, stands at its own head. -/
import Derived.Test.YtloheacncefkgaaGreatDoorPkEU4
import Derived.Test.YtloheacncefkgaaGreatDoorPkEU0
import Derived.Test.YtloheacncefkgaaGreatDoorPkEU2
import Derived.Test.YtloheacncefkgaaGreatDoorPkEU3
/- The document's Word, Of, May. Conditions: those that each theorem names. -/
namespace Go.Proofs.YtloheacncefkgaaGreatDoor
open Go.RowKit
set_option linter.unusedVariables false
set_option maxRecDepth 100000

set_option maxHeartbeats 4000000 in
theorem rsmay_any (ty : Int) (n : Nat) (w : World) (hn : n < 18446744073709551616) : Calls Tryz.prog 146 #[.int .i64 ty, .int .u64 (n : Int)] w fun e w' => e = .returned (.bool (mayT ty n)) ∧ w = w' := by
 have HF := Lib.hid (fun w => rfits_any (wrap64 (n : Int)) w)
 rcases ty_cases ty with rfl | rfl | rfl | rfl | rfl | rfl | rfl | rfl | rfl | rfl | rfl | rfl | rfl | rfl | rfl | h | h
 ·have HM : Hid (mayT 1 n = fitsB (wrap64 (n : Int))) := by
   show _ = _
   rw [mayT, if_neg (by omega), if_neg (by decide), if_pos (by decide)]
  rw [HM.out]
  clear HM
  generalize fitsB (wrap64 (n : Int)) = fb at *
  go_enter Tryz.func146, Tryz.ntmps146
  go_wp2_with (first | (go_at_call 160; refine (rswide2_any _ _).mono ?_; rintro e w' ⟨rfl, rfl⟩) | (go_at_call 161; refine (rssigned_any _ _).mono ?_; rintro e w' ⟨rfl, rfl⟩) | (go_at_call 162; refine (HF.out _).mono ?_; rintro e w' ⟨rfl, rfl⟩))
  go_ret
  exact ⟨rfl, rfl⟩
 ·have HM : Hid (mayT 2 n = true) := by
   show _ = _
   rw [mayT, if_neg (by omega), if_pos (by decide)]
  rw [HM.out]
  clear HM
  go_enter Tryz.func146, Tryz.ntmps146
  go_wp2_with (first | (go_at_call 160; refine (rswide2_any _ _).mono ?_; rintro e w' ⟨rfl, rfl⟩) | (go_at_call 161; refine (rssigned_any _ _).mono ?_; rintro e w' ⟨rfl, rfl⟩) | (go_at_call 162; refine (HF.out _).mono ?_; rintro e w' ⟨rfl, rfl⟩))
  go_ret
  exact ⟨rfl, rfl⟩
 ·have HM : Hid (mayT 3 n = decide ((n : Int) < 4294967296)) := by
   show _ = _
   rw [mayT, if_neg (by omega), if_neg (by decide), if_neg (by decide), if_pos (by omega)]
   exact decide_eq_decide.2 (by omega)
  rw [HM.out]
  clear HM
  go_enter Tryz.func146, Tryz.ntmps146
  go_wp2_with (first | (go_at_call 160; refine (rswide2_any _ _).mono ?_; rintro e w' ⟨rfl, rfl⟩) | (go_at_call 161; refine (rssigned_any _ _).mono ?_; rintro e w' ⟨rfl, rfl⟩) | (go_at_call 162; refine (HF.out _).mono ?_; rintro e w' ⟨rfl, rfl⟩))
  go_ret
  exact ⟨rfl, rfl⟩
 ·have HM : Hid (mayT 4 n = true) := by
   show _ = _
   rw [mayT, if_neg (by omega), if_pos (by decide)]
  rw [HM.out]
  clear HM
  go_enter Tryz.func146, Tryz.ntmps146
  go_wp2_with (first | (go_at_call 160; refine (rswide2_any _ _).mono ?_; rintro e w' ⟨rfl, rfl⟩) | (go_at_call 161; refine (rssigned_any _ _).mono ?_; rintro e w' ⟨rfl, rfl⟩) | (go_at_call 162; refine (HF.out _).mono ?_; rintro e w' ⟨rfl, rfl⟩))
  go_ret
  exact ⟨rfl, rfl⟩
 ·have HM : Hid (mayT 5 n = fitsB (wrap64 (n : Int))) := by
   show _ = _
   rw [mayT, if_neg (by omega), if_neg (by decide), if_pos (by decide)]
  rw [HM.out]
  clear HM
  generalize fitsB (wrap64 (n : Int)) = fb at *
  go_enter Tryz.func146, Tryz.ntmps146
  go_wp2_with (first | (go_at_call 160; refine (rswide2_any _ _).mono ?_; rintro e w' ⟨rfl, rfl⟩) | (go_at_call 161; refine (rssigned_any _ _).mono ?_; rintro e w' ⟨rfl, rfl⟩) | (go_at_call 162; refine (HF.out _).mono ?_; rintro e w' ⟨rfl, rfl⟩))
  go_ret
  exact ⟨rfl, rfl⟩
 ·have HM : Hid (mayT 6 n = true) := by
   show _ = _
   rw [mayT, if_neg (by omega), if_pos (by decide)]
  rw [HM.out]
  clear HM
  go_enter Tryz.func146, Tryz.ntmps146
  go_wp2_with (first | (go_at_call 160; refine (rswide2_any _ _).mono ?_; rintro e w' ⟨rfl, rfl⟩) | (go_at_call 161; refine (rssigned_any _ _).mono ?_; rintro e w' ⟨rfl, rfl⟩) | (go_at_call 162; refine (HF.out _).mono ?_; rintro e w' ⟨rfl, rfl⟩))
  go_ret
  exact ⟨rfl, rfl⟩
 ·have HM : Hid (mayT 7 n = decide ((n : Int) < 2)) := by
   show _ = _
   rw [mayT, if_neg (by omega), if_neg (by decide), if_neg (by decide), if_neg (by omega), if_pos (by omega)]
   exact decide_eq_decide.2 (by omega)
  rw [HM.out]
  clear HM
  go_enter Tryz.func146, Tryz.ntmps146
  go_wp2_with (first | (go_at_call 160; refine (rswide2_any _ _).mono ?_; rintro e w' ⟨rfl, rfl⟩) | (go_at_call 161; refine (rssigned_any _ _).mono ?_; rintro e w' ⟨rfl, rfl⟩) | (go_at_call 162; refine (HF.out _).mono ?_; rintro e w' ⟨rfl, rfl⟩))
  go_ret
  exact ⟨rfl, rfl⟩
 ·have HM : Hid (mayT 8 n = decide ((n : Int) < 4294967296)) := by
   show _ = _
   rw [mayT, if_neg (by omega), if_neg (by decide), if_neg (by decide), if_pos (by omega)]
   exact decide_eq_decide.2 (by omega)
  rw [HM.out]
  clear HM
  go_enter Tryz.func146, Tryz.ntmps146
  go_wp2_with (first | (go_at_call 160; refine (rswide2_any _ _).mono ?_; rintro e w' ⟨rfl, rfl⟩) | (go_at_call 161; refine (rssigned_any _ _).mono ?_; rintro e w' ⟨rfl, rfl⟩) | (go_at_call 162; refine (HF.out _).mono ?_; rintro e w' ⟨rfl, rfl⟩))
  go_ret
  exact ⟨rfl, rfl⟩
 ·have HM : Hid (mayT 9 n = true) := by
   show _ = _
   rw [mayT, if_neg (by omega), if_pos (by decide)]
  rw [HM.out]
  clear HM
  go_enter Tryz.func146, Tryz.ntmps146
  go_wp2_with (first | (go_at_call 160; refine (rswide2_any _ _).mono ?_; rintro e w' ⟨rfl, rfl⟩) | (go_at_call 161; refine (rssigned_any _ _).mono ?_; rintro e w' ⟨rfl, rfl⟩) | (go_at_call 162; refine (HF.out _).mono ?_; rintro e w' ⟨rfl, rfl⟩))
  go_ret
  exact ⟨rfl, rfl⟩
 ·have HM : Hid (mayT 10 n = fitsB (wrap64 (n : Int))) := by
   show _ = _
   rw [mayT, if_neg (by omega), if_neg (by decide), if_pos (by decide)]
  rw [HM.out]
  clear HM
  generalize fitsB (wrap64 (n : Int)) = fb at *
  go_enter Tryz.func146, Tryz.ntmps146
  go_wp2_with (first | (go_at_call 160; refine (rswide2_any _ _).mono ?_; rintro e w' ⟨rfl, rfl⟩) | (go_at_call 161; refine (rssigned_any _ _).mono ?_; rintro e w' ⟨rfl, rfl⟩) | (go_at_call 162; refine (HF.out _).mono ?_; rintro e w' ⟨rfl, rfl⟩))
  go_ret
  exact ⟨rfl, rfl⟩
 ·have HM : Hid (mayT 11 n = true) := by
   show _ = _
   rw [mayT, if_neg (by omega), if_pos (by decide)]
  rw [HM.out]
  clear HM
  go_enter Tryz.func146, Tryz.ntmps146
  go_wp2_with (first | (go_at_call 160; refine (rswide2_any _ _).mono ?_; rintro e w' ⟨rfl, rfl⟩) | (go_at_call 161; refine (rssigned_any _ _).mono ?_; rintro e w' ⟨rfl, rfl⟩) | (go_at_call 162; refine (HF.out _).mono ?_; rintro e w' ⟨rfl, rfl⟩))
  go_ret
  exact ⟨rfl, rfl⟩
 ·have HM : Hid (mayT 12 n = ((n : Int) == 0)) := by
   show _ = _
   rw [mayT, if_neg (by omega), if_neg (by decide), if_neg (by decide), if_neg (by omega), if_neg (by omega)]
   by_cases h : n = 0 <;> simp [h]
  rw [HM.out]
  clear HM
  go_enter Tryz.func146, Tryz.ntmps146
  go_wp2_with (first | (go_at_call 160; refine (rswide2_any _ _).mono ?_; rintro e w' ⟨rfl, rfl⟩) | (go_at_call 161; refine (rssigned_any _ _).mono ?_; rintro e w' ⟨rfl, rfl⟩) | (go_at_call 162; refine (HF.out _).mono ?_; rintro e w' ⟨rfl, rfl⟩))
  go_ret
  exact ⟨rfl, rfl⟩
 ·have HM : Hid (mayT 13 n = ((n : Int) == 0)) := by
   show _ = _
   rw [mayT, if_neg (by omega), if_neg (by decide), if_neg (by decide), if_neg (by omega), if_neg (by omega)]
   by_cases h : n = 0 <;> simp [h]
  rw [HM.out]
  clear HM
  go_enter Tryz.func146, Tryz.ntmps146
  go_wp2_with (first | (go_at_call 160; refine (rswide2_any _ _).mono ?_; rintro e w' ⟨rfl, rfl⟩) | (go_at_call 161; refine (rssigned_any _ _).mono ?_; rintro e w' ⟨rfl, rfl⟩) | (go_at_call 162; refine (HF.out _).mono ?_; rintro e w' ⟨rfl, rfl⟩))
  go_ret
  exact ⟨rfl, rfl⟩
 ·have HM : Hid (mayT 14 n = fitsB (wrap64 (n : Int))) := by
   show _ = _
   rw [mayT, if_neg (by omega), if_neg (by decide), if_pos (by decide)]
  rw [HM.out]
  clear HM
  generalize fitsB (wrap64 (n : Int)) = fb at *
  go_enter Tryz.func146, Tryz.ntmps146
  go_wp2_with (first | (go_at_call 160; refine (rswide2_any _ _).mono ?_; rintro e w' ⟨rfl, rfl⟩) | (go_at_call 161; refine (rssigned_any _ _).mono ?_; rintro e w' ⟨rfl, rfl⟩) | (go_at_call 162; refine (HF.out _).mono ?_; rintro e w' ⟨rfl, rfl⟩))
  go_ret
  exact ⟨rfl, rfl⟩
 ·have HM : Hid (mayT 15 n = ((n : Int) == 0)) := by
   show _ = _
   rw [mayT, if_neg (by omega), if_neg (by decide), if_neg (by decide), if_neg (by omega), if_neg (by omega)]
   by_cases h : n = 0 <;> simp [h]
  rw [HM.out]
  clear HM
  go_enter Tryz.func146, Tryz.ntmps146
  go_wp2_with (first | (go_at_call 160; refine (rswide2_any _ _).mono ?_; rintro e w' ⟨rfl, rfl⟩) | (go_at_call 161; refine (rssigned_any _ _).mono ?_; rintro e w' ⟨rfl, rfl⟩) | (go_at_call 162; refine (HF.out _).mono ?_; rintro e w' ⟨rfl, rfl⟩))
  go_ret
  exact ⟨rfl, rfl⟩
 ·rw [out_may _ (by omega)]
  have n1 : ¬ ty = 1 := by omega
  have e1 : (ty == 1) = false := beq_false_of_ne n1
  have n2 : ¬ ty = 2 := by omega
  have e2 : (ty == 2) = false := beq_false_of_ne n2
  have n3 : ¬ ty = 3 := by omega
  have e3 : (ty == 3) = false := beq_false_of_ne n3
  have n4 : ¬ ty = 4 := by omega
  have e4 : (ty == 4) = false := beq_false_of_ne n4
  have n5 : ¬ ty = 5 := by omega
  have e5 : (ty == 5) = false := beq_false_of_ne n5
  have n6 : ¬ ty = 6 := by omega
  have e6 : (ty == 6) = false := beq_false_of_ne n6
  have n7 : ¬ ty = 7 := by omega
  have e7 : (ty == 7) = false := beq_false_of_ne n7
  have n8 : ¬ ty = 8 := by omega
  have e8 : (ty == 8) = false := beq_false_of_ne n8
  have n9 : ¬ ty = 9 := by omega
  have e9 : (ty == 9) = false := beq_false_of_ne n9
  have n10 : ¬ ty = 10 := by omega
  have e10 : (ty == 10) = false := beq_false_of_ne n10
  have n11 : ¬ ty = 11 := by omega
  have e11 : (ty == 11) = false := beq_false_of_ne n11
  have n12 : ¬ ty = 12 := by omega
  have e12 : (ty == 12) = false := beq_false_of_ne n12
  have n13 : ¬ ty = 13 := by omega
  have e13 : (ty == 13) = false := beq_false_of_ne n13
  have n14 : ¬ ty = 14 := by omega
  have e14 : (ty == 14) = false := beq_false_of_ne n14
  have n15 : ¬ ty = 15 := by omega
  have e15 : (ty == 15) = false := beq_false_of_ne n15
  have a1 : decide (1 ≤ ty) = false := decide_eq_false (by omega)
  have b1 : decide (ty ≤ 1) = true := decide_eq_true (by omega)
  have c1 : decide (ty < 1) = true := decide_eq_true (by omega)
  have d1 : decide (1 < ty) = false := decide_eq_false (by omega)
  have a6 : decide (6 ≤ ty) = false := decide_eq_false (by omega)
  have b6 : decide (ty ≤ 6) = true := decide_eq_true (by omega)
  have c6 : decide (ty < 6) = true := decide_eq_true (by omega)
  have d6 : decide (6 < ty) = false := decide_eq_false (by omega)
  have a7 : decide (7 ≤ ty) = false := decide_eq_false (by omega)
  have b7 : decide (ty ≤ 7) = true := decide_eq_true (by omega)
  have c7 : decide (ty < 7) = true := decide_eq_true (by omega)
  have d7 : decide (7 < ty) = false := decide_eq_false (by omega)
  have a8 : decide (8 ≤ ty) = false := decide_eq_false (by omega)
  have b8 : decide (ty ≤ 8) = true := decide_eq_true (by omega)
  have c8 : decide (ty < 8) = true := decide_eq_true (by omega)
  have d8 : decide (8 < ty) = false := decide_eq_false (by omega)
  have a11 : decide (11 ≤ ty) = false := decide_eq_false (by omega)
  have b11 : decide (ty ≤ 11) = true := decide_eq_true (by omega)
  have c11 : decide (ty < 11) = true := decide_eq_true (by omega)
  have d11 : decide (11 < ty) = false := decide_eq_false (by omega)
  have a13 : decide (13 ≤ ty) = false := decide_eq_false (by omega)
  have b13 : decide (ty ≤ 13) = true := decide_eq_true (by omega)
  have c13 : decide (ty < 13) = true := decide_eq_true (by omega)
  have d13 : decide (13 < ty) = false := decide_eq_false (by omega)
  have a15 : decide (15 ≤ ty) = false := decide_eq_false (by omega)
  have b15 : decide (ty ≤ 15) = true := decide_eq_true (by omega)
  have c15 : decide (ty < 15) = true := decide_eq_true (by omega)
  have d15 : decide (15 < ty) = false := decide_eq_false (by omega)
  go_enter Tryz.func146, Tryz.ntmps146
  go_wp2
  go_ret
  exact ⟨rfl, rfl⟩
 ·rw [out_may _ (by omega)]
  have n1 : ¬ ty = 1 := by omega
  have e1 : (ty == 1) = false := beq_false_of_ne n1
  have n2 : ¬ ty = 2 := by omega
  have e2 : (ty == 2) = false := beq_false_of_ne n2
  have n3 : ¬ ty = 3 := by omega
  have e3 : (ty == 3) = false := beq_false_of_ne n3
  have n4 : ¬ ty = 4 := by omega
  have e4 : (ty == 4) = false := beq_false_of_ne n4
  have n5 : ¬ ty = 5 := by omega
  have e5 : (ty == 5) = false := beq_false_of_ne n5
  have n6 : ¬ ty = 6 := by omega
  have e6 : (ty == 6) = false := beq_false_of_ne n6
  have n7 : ¬ ty = 7 := by omega
  have e7 : (ty == 7) = false := beq_false_of_ne n7
  have n8 : ¬ ty = 8 := by omega
  have e8 : (ty == 8) = false := beq_false_of_ne n8
  have n9 : ¬ ty = 9 := by omega
  have e9 : (ty == 9) = false := beq_false_of_ne n9
  have n10 : ¬ ty = 10 := by omega
  have e10 : (ty == 10) = false := beq_false_of_ne n10
  have n11 : ¬ ty = 11 := by omega
  have e11 : (ty == 11) = false := beq_false_of_ne n11
  have n12 : ¬ ty = 12 := by omega
  have e12 : (ty == 12) = false := beq_false_of_ne n12
  have n13 : ¬ ty = 13 := by omega
  have e13 : (ty == 13) = false := beq_false_of_ne n13
  have n14 : ¬ ty = 14 := by omega
  have e14 : (ty == 14) = false := beq_false_of_ne n14
  have n15 : ¬ ty = 15 := by omega
  have e15 : (ty == 15) = false := beq_false_of_ne n15
  have a1 : decide (1 ≤ ty) = true := decide_eq_true (by omega)
  have b1 : decide (ty ≤ 1) = false := decide_eq_false (by omega)
  have c1 : decide (ty < 1) = false := decide_eq_false (by omega)
  have d1 : decide (1 < ty) = true := decide_eq_true (by omega)
  have a6 : decide (6 ≤ ty) = true := decide_eq_true (by omega)
  have b6 : decide (ty ≤ 6) = false := decide_eq_false (by omega)
  have c6 : decide (ty < 6) = false := decide_eq_false (by omega)
  have d6 : decide (6 < ty) = true := decide_eq_true (by omega)
  have a7 : decide (7 ≤ ty) = true := decide_eq_true (by omega)
  have b7 : decide (ty ≤ 7) = false := decide_eq_false (by omega)
  have c7 : decide (ty < 7) = false := decide_eq_false (by omega)
  have d7 : decide (7 < ty) = true := decide_eq_true (by omega)
  have a8 : decide (8 ≤ ty) = true := decide_eq_true (by omega)
  have b8 : decide (ty ≤ 8) = false := decide_eq_false (by omega)
  have c8 : decide (ty < 8) = false := decide_eq_false (by omega)
  have d8 : decide (8 < ty) = true := decide_eq_true (by omega)
  have a11 : decide (11 ≤ ty) = true := decide_eq_true (by omega)
  have b11 : decide (ty ≤ 11) = false := decide_eq_false (by omega)
  have c11 : decide (ty < 11) = false := decide_eq_false (by omega)
  have d11 : decide (11 < ty) = true := decide_eq_true (by omega)
  have a13 : decide (13 ≤ ty) = true := decide_eq_true (by omega)
  have b13 : decide (ty ≤ 13) = false := decide_eq_false (by omega)
  have c13 : decide (ty < 13) = false := decide_eq_false (by omega)
  have d13 : decide (13 < ty) = true := decide_eq_true (by omega)
  have a15 : decide (15 ≤ ty) = true := decide_eq_true (by omega)
  have b15 : decide (ty ≤ 15) = false := decide_eq_false (by omega)
  have c15 : decide (ty < 15) = false := decide_eq_false (by omega)
  have d15 : decide (15 < ty) = true := decide_eq_true (by omega)
  go_enter Tryz.func146, Tryz.ntmps146
  go_wp2
  go_ret
  exact ⟨rfl, rfl⟩
end Go.Proofs.YtloheacncefkgaaGreatDoor
