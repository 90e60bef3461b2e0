/- The calls of package zig, and of the document's answer, each with what it returns, for every input; the world is as it was. -/
import Derived.Test.YtjhholpmhjgpjaaChecked
import Derived.Test.YtjhholpmhjgpjaaZigMath
import Derived.Test.YtjhholpmhjgpjaaInts
import Derived.WalkKit
import Derived.RowKitTokens
import Derived.Lib.Hide
namespace Go.Proofs.Ytjhholpmhjgpjaa
open Go.RowKit
set_option linter.unusedVariables false
set_option maxRecDepth 100000

theorem out_any (n : Nat) (w : World) (h : n < 18446744073709551616) :
    Calls Try.prog 17 #[.int .u64 (n : Int)] w fun e w' => e = .returned (.int .u64 (outN n : Int)) ∧ w = w' := by
  go_enter Try.func17, Try.ntmps17
  go_wp2
  go_ret
  exact ⟨ret_int' (out_bits n h), rfl⟩
theorem back_any (n : Nat) (w : World) (h : n < 18446744073709551616) :
    Calls Try.prog 18 #[.int .u64 (n : Int)] w fun e w' => e = .returned (.int .u64 (backN n : Int)) ∧ w = w' := by
  go_enter Try.func18, Try.ntmps18
  go_wp2
  go_ret
  exact ⟨ret_int' (back_bits n h), rfl⟩
theorem moved_out (n : Nat) (w : World) (h : n < 18446744073709551616) :
    Calls Try.prog 16 #[.int .u64 (n : Int), .func (.func 17) #[] #[]] w fun e w' => e = .returned (.int .u64 (outN n : Int)) ∧ w = w' := by
  have hb := outN_lt n h
  go_enter Try.func16, Try.ntmps16
  go_wp2_with (refine (out_any n _ h).mono ?_; rintro e w' ⟨rfl, rfl⟩)
  go_ret
  exact ⟨rfl, rfl⟩
theorem moved_back (n : Nat) (w : World) (h : n < 18446744073709551616) :
    Calls Try.prog 16 #[.int .u64 (n : Int), .func (.func 18) #[] #[]] w fun e w' => e = .returned (.int .u64 (backN n : Int)) ∧ w = w' := by
  have hb := backN_lt n h
  go_enter Try.func16, Try.ntmps16
  go_wp2_with (refine (back_any n _ h).mono ?_; rintro e w' ⟨rfl, rfl⟩)
  go_ret
  exact ⟨rfl, rfl⟩
theorem zig_any (a : Int) (w : World) (h0 : -9223372036854775808 ≤ a) (h : a < 9223372036854775808) :
    Calls Try.prog 6 #[.int .i64 a] w fun e w' => e = .returned (.int .u64 (zigN a : Int)) ∧ w = w' := by
  have HZ := Lib.hid (zig_out a h0 h)
  have HU := Lib.hid (u64_nat a)
  go_enter Try.func6, Try.ntmps6
  go_wp2_with (rw [HU.out.1]; refine (moved_out _ _ HU.out.2).mono ?_; rintro e w' ⟨rfl, rfl⟩)
  go_ret
  exact ⟨ret_int' (by rw [HZ.out]), rfl⟩
theorem zag_any (n : Nat) (w : World) (h : n < 18446744073709551616) :
    Calls Try.prog 8 #[.int .u64 (n : Int)] w fun e w' => e = .returned (.int .i64 (zagI n)) ∧ w = w' := by
  have HZ := Lib.hid (zag_back n h)
  go_enter Try.func8, Try.ntmps8
  go_wp2_with (refine (moved_back n _ h).mono ?_; rintro e w' ⟨rfl, rfl⟩)
  go_ret
  exact ⟨ret_int' HZ.out, rfl⟩
theorem rzig_any (a : Int) (w : World) (h0 : -9223372036854775808 ≤ a) (h : a < 9223372036854775808) :
    Calls Try.prog 7 #[.int .i64 a] w fun e w' => e = .returned (.int .u64 (zigN a : Int)) ∧ w = w' := by
  go_enter Try.func7, Try.ntmps7
  go_wp2
  all_goals go_ret
  · rename_i hc; exact ⟨ret_int' (by unfold zigN; rw [if_pos hc]; omega), rfl⟩
  · rename_i hc; exact ⟨ret_int' (by unfold zigN; rw [if_neg (by omega)]; omega), rfl⟩
theorem rzag_any (n : Nat) (w : World) (h : n < 18446744073709551616) :
    Calls Try.prog 9 #[.int .u64 (n : Int)] w fun e w' => e = .returned (.int .i64 (zagI n)) ∧ w = w' := by
  go_enter Try.func9, Try.ntmps9
  go_wp2
  all_goals go_ret
  · rename_i hc; rw [beq_iff_eq] at hc; exact ⟨ret_int' (by unfold zagI; rw [if_pos (by omega)]; omega), rfl⟩
  · rename_i hc; rw [beq_eq_false_iff_ne] at hc; exact ⟨ret_int' (by unfold zagI; rw [if_neg (by omega)]; omega), rfl⟩
theorem wide_any (n : Nat) (w : World) (h : n < 18446744073709551616) :
    Calls Try.prog 11 #[.int .u64 (n : Int)] w fun e w' => e = .returned (.int .i64 (wideI n)) ∧ w = w' := by
  go_enter Try.func11, Try.ntmps11
  go_wp2
  go_ret
  exact ⟨ret_int' (wide_wraps n), rfl⟩
theorem rwide_any (n : Nat) (w : World) (h : n < 18446744073709551616) :
    Calls Try.prog 12 #[.int .u64 (n : Int)] w fun e w' => e = .returned (.int .i64 (wideI n)) ∧ w = w' := by
  obtain ⟨m, hm⟩ : ∃ m : Nat, m = n % 4294967296 := ⟨_, rfl⟩
  have HW : Hid (wideI n = if m < 2147483648 then (m : Int) else (m : Int) - 4294967296) := by show _ = _; unfold wideI; rw [← hm]
  have e0 : (n : Int) % 4294967296 = (m : Int) := by omega
  have hm2 : m < 4294967296 := by omega
  clear hm
  by_cases h1 : m < 2147483648
  · have g1 : decide ((2147483648 : Int) ≤ (m : Int)) = false := decide_eq_false (by omega)
    go_enter Try.func12, Try.ntmps12
    go_wp2
    go_ret
    exact ⟨ret_int' (by rw [HW.out, if_pos h1]), rfl⟩
  · have g1 : decide ((2147483648 : Int) ≤ (m : Int)) = true := decide_eq_true (by omega)
    go_enter Try.func12, Try.ntmps12
    go_wp2
    go_ret
    exact ⟨ret_int' (by rw [HW.out, if_neg h1]), rfl⟩
theorem low_any (a : Int) (w : World) (h0 : -9223372036854775808 ≤ a) (h : a < 9223372036854775808) :
    Calls Try.prog 13 #[.int .i64 a] w fun e w' => e = .returned (.int .u32 ((a % 4294967296).toNat : Int)) ∧ w = w' := by
  go_enter Try.func13, Try.ntmps13
  go_wp2
  go_ret
  exact ⟨ret_int' (by simp; omega), rfl⟩
theorem fits_any (a : Int) (w : World) (h0 : -9223372036854775808 ≤ a) (h : a < 9223372036854775808) :
    Calls Try.prog 14 #[.int .i64 a] w fun e w' => e = .returned (.bool (fitsB a)) ∧ w = w' := by
  have HW := Lib.hid (wide_low a h0 h)
  obtain ⟨m, hm⟩ : ∃ m, m = (a % 4294967296).toNat := ⟨_, rfl⟩
  have HL : Hid (∀ w, Calls Try.prog 13 #[.int .i64 a] w fun e w' => e = .returned (.int .u32 (m : Int)) ∧ w = w') := by show ∀ w, _; intro w; rw [hm]; exact low_any a w h0 h
  have hm2 : m < 4294967296 := by omega
  rw [← hm] at HW
  clear hm
  go_enter Try.func14, Try.ntmps14
  go_wp2_with (first
    | (go_at_call 13; refine (HL.out _).mono ?_; rintro e w' ⟨rfl, rfl⟩)
    | (go_at_call 11; refine (wide_any m _ (by omega)).mono ?_; rintro e w' ⟨rfl, rfl⟩))
  go_ret
  exact ⟨ret_bool' HW.out, rfl⟩
theorem rfits_any (a : Int) (w : World) :
    Calls Try.prog 15 #[.int .i64 a] w fun e w' => e = .returned (.bool (fitsB a)) ∧ w = w' := by
  by_cases h1 : -2147483648 ≤ a
  · have HF : Hid (decide (a ≤ 2147483647) = fitsB a) := by show _ = _; simp [fitsB, h1]
    have g1 : decide (-2147483648 ≤ a) = true := decide_eq_true h1
    go_enter Try.func15, Try.ntmps15
    go_wp2
    go_ret
    exact ⟨ret_bool' HF.out, rfl⟩
  · have HF : Hid (false = fitsB a) := by show _ = _; simp [fitsB, h1]
    have g1 : decide (-2147483648 ≤ a) = false := decide_eq_false h1
    go_enter Try.func15, Try.ntmps15
    go_wp2
    go_ret
    exact ⟨ret_bool' HF.out, rfl⟩
end Go.Proofs.Ytjhholpmhjgpjaa
