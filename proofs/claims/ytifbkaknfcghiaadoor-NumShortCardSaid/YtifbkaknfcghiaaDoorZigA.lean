/- The calls of package zig, and of the document's answer, each with what it returns, for every input; the world is as it was. -/
import Derived.Test.YtifbkaknfcghiaaDoorChecked
import Derived.Test.YtifbkaknfcghiaaDoorZigMath
import Derived.Test.YtifbkaknfcghiaaDoorInts
import Derived.WalkKit
import Derived.RowKitTokens
import Derived.Lib.Hide
namespace Go.Proofs.YtifbkaknfcghiaaDoor
open Go.RowKit
set_option linter.unusedVariables false
set_option maxRecDepth 100000

theorem out_any (n : Nat) (w : World) (h : n < 18446744073709551616) :
    Calls Tryd.prog 30 #[.int .u64 (n : Int)] w fun e w' => e = .returned (.int .u64 (outN n : Int)) ∧ w = w' := by
  go_enter Tryd.func30, Tryd.ntmps30
  go_wp2
  go_ret
  exact ⟨ret_int' (out_bits n h), rfl⟩
theorem back_any (n : Nat) (w : World) (h : n < 18446744073709551616) :
    Calls Tryd.prog 27 #[.int .u64 (n : Int)] w fun e w' => e = .returned (.int .u64 (backN n : Int)) ∧ w = w' := by
  go_enter Tryd.func27, Tryd.ntmps27
  go_wp2
  go_ret
  exact ⟨ret_int' (back_bits n h), rfl⟩
theorem moved_out (n : Nat) (w : World) (h : n < 18446744073709551616) :
    Calls Tryd.prog 26 #[.int .u64 (n : Int), .func (.func 30) #[] #[]] w fun e w' => e = .returned (.int .u64 (outN n : Int)) ∧ w = w' := by
  have hb := outN_lt n h
  go_enter Tryd.func26, Tryd.ntmps26
  go_wp2_with (refine (out_any n _ h).mono ?_; rintro e w' ⟨rfl, rfl⟩)
  go_ret
  exact ⟨rfl, rfl⟩
theorem moved_back (n : Nat) (w : World) (h : n < 18446744073709551616) :
    Calls Tryd.prog 26 #[.int .u64 (n : Int), .func (.func 27) #[] #[]] w fun e w' => e = .returned (.int .u64 (backN n : Int)) ∧ w = w' := by
  have hb := backN_lt n h
  go_enter Tryd.func26, Tryd.ntmps26
  go_wp2_with (refine (back_any n _ h).mono ?_; rintro e w' ⟨rfl, rfl⟩)
  go_ret
  exact ⟨rfl, rfl⟩
theorem zig_any (a : Int) (w : World) (h0 : -9223372036854775808 ≤ a) (h : a < 9223372036854775808) :
    Calls Tryd.prog 21 #[.int .i64 a] w fun e w' => e = .returned (.int .u64 (zigN a : Int)) ∧ w = w' := by
  have HZ := Lib.hid (zig_out a h0 h)
  have HU := Lib.hid (u64_nat a)
  go_enter Tryd.func21, Tryd.ntmps21
  go_wp2_with (rw [HU.out.1]; refine (moved_out _ _ HU.out.2).mono ?_; rintro e w' ⟨rfl, rfl⟩)
  go_ret
  exact ⟨ret_int' (by rw [HZ.out]), rfl⟩
theorem zag_any (n : Nat) (w : World) (h : n < 18446744073709551616) :
    Calls Tryd.prog 15 #[.int .u64 (n : Int)] w fun e w' => e = .returned (.int .i64 (zagI n)) ∧ w = w' := by
  have HZ := Lib.hid (zag_back n h)
  go_enter Tryd.func15, Tryd.ntmps15
  go_wp2_with (refine (moved_back n _ h).mono ?_; rintro e w' ⟨rfl, rfl⟩)
  go_ret
  exact ⟨ret_int' HZ.out, rfl⟩
theorem rzig_any (a : Int) (w : World) (h0 : -9223372036854775808 ≤ a) (h : a < 9223372036854775808) :
    Calls Tryd.prog 22 #[.int .i64 a] w fun e w' => e = .returned (.int .u64 (zigN a : Int)) ∧ w = w' := by
  go_enter Tryd.func22, Tryd.ntmps22
  go_wp2
  all_goals go_ret
  · rename_i hc; exact ⟨ret_int' (by unfold zigN; rw [if_pos hc]; omega), rfl⟩
  · rename_i hc; exact ⟨ret_int' (by unfold zigN; rw [if_neg (by omega)]; omega), rfl⟩
theorem rzag_any (n : Nat) (w : World) (h : n < 18446744073709551616) :
    Calls Tryd.prog 19 #[.int .u64 (n : Int)] w fun e w' => e = .returned (.int .i64 (zagI n)) ∧ w = w' := by
  go_enter Tryd.func19, Tryd.ntmps19
  go_wp2
  all_goals go_ret
  · rename_i hc; rw [beq_iff_eq] at hc; exact ⟨ret_int' (by unfold zagI; rw [if_pos (by omega)]; omega), rfl⟩
  · rename_i hc; rw [beq_eq_false_iff_ne] at hc; exact ⟨ret_int' (by unfold zagI; rw [if_neg (by omega)]; omega), rfl⟩
theorem wide_any (n : Nat) (w : World) (h : n < 18446744073709551616) :
    Calls Tryd.prog 16 #[.int .u64 (n : Int)] w fun e w' => e = .returned (.int .i64 (wideI n)) ∧ w = w' := by
  go_enter Tryd.func16, Tryd.ntmps16
  go_wp2
  go_ret
  exact ⟨ret_int' (wide_wraps n), rfl⟩
theorem rwide_any (n : Nat) (w : World) (h : n < 18446744073709551616) :
    Calls Tryd.prog 18 #[.int .u64 (n : Int)] w fun e w' => e = .returned (.int .i64 (wideI n)) ∧ w = w' := by
  obtain ⟨m, hm⟩ : ∃ m : Nat, m = n % 4294967296 := ⟨_, rfl⟩
  have HW : Hid (wideI n = if m < 2147483648 then (m : Int) else (m : Int) - 4294967296) := by show _ = _; unfold wideI; rw [← hm]
  have e0 : (n : Int) % 4294967296 = (m : Int) := by omega
  have hm2 : m < 4294967296 := by omega
  clear hm
  by_cases h1 : m < 2147483648
  · have g1 : decide ((2147483648 : Int) ≤ (m : Int)) = false := decide_eq_false (by omega)
    go_enter Tryd.func18, Tryd.ntmps18
    go_wp2
    go_ret
    exact ⟨ret_int' (by rw [HW.out, if_pos h1]), rfl⟩
  · have g1 : decide ((2147483648 : Int) ≤ (m : Int)) = true := decide_eq_true (by omega)
    go_enter Tryd.func18, Tryd.ntmps18
    go_wp2
    go_ret
    exact ⟨ret_int' (by rw [HW.out, if_neg h1]), rfl⟩
theorem low_any (a : Int) (w : World) (h0 : -9223372036854775808 ≤ a) (h : a < 9223372036854775808) :
    Calls Tryd.prog 25 #[.int .i64 a] w fun e w' => e = .returned (.int .u32 ((a % 4294967296).toNat : Int)) ∧ w = w' := by
  go_enter Tryd.func25, Tryd.ntmps25
  go_wp2
  go_ret
  exact ⟨ret_int' (by simp; omega), rfl⟩
theorem rfits_any (a : Int) (w : World) :
    Calls Tryd.prog 24 #[.int .i64 a] w fun e w' => e = .returned (.bool (fitsB a)) ∧ w = w' := by
  by_cases h1 : -2147483648 ≤ a
  · have HF : Hid (decide (a ≤ 2147483647) = fitsB a) := by show _ = _; simp [fitsB, h1]
    have g1 : decide (-2147483648 ≤ a) = true := decide_eq_true h1
    go_enter Tryd.func24, Tryd.ntmps24
    go_wp2
    go_ret
    exact ⟨ret_bool' HF.out, rfl⟩
  · have HF : Hid (false = fitsB a) := by show _ = _; simp [fitsB, h1]
    have g1 : decide (-2147483648 ≤ a) = false := decide_eq_false h1
    go_enter Tryd.func24, Tryd.ntmps24
    go_wp2
    go_ret
    exact ⟨ret_bool' HF.out, rfl⟩
end Go.Proofs.YtifbkaknfcghiaaDoor
