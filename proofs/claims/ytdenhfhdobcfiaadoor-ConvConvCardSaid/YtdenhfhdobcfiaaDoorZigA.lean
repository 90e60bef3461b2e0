/- The calls of package zig, and of the document's answer, each with what it returns, for every input; the world is as it was. -/
import Derived.Test.YtdenhfhdobcfiaaDoorChecked
import Derived.Test.YtdenhfhdobcfiaaDoorZigMath
import Derived.Test.YtdenhfhdobcfiaaDoorInts
import Derived.WalkKit
import Derived.RowKitTokens
import Derived.Lib.Hide
namespace Go.Proofs.YtdenhfhdobcfiaaDoor
open Go.RowKit
set_option linter.unusedVariables false
set_option maxRecDepth 100000

theorem wide_any (n : Nat) (w : World) (h : n < 18446744073709551616) :
    Calls Tryd.prog 42 #[.int .u64 (n : Int)] w fun e w' => e = .returned (.int .i64 (wideI n)) ∧ w = w' := by
  go_enter Tryd.func42, Tryd.ntmps42
  go_wp2
  go_ret
  exact ⟨ret_int' (wide_wraps n), rfl⟩
theorem low_any (a : Int) (w : World) (h0 : -9223372036854775808 ≤ a) (h : a < 9223372036854775808) :
    Calls Tryd.prog 43 #[.int .i64 a] w fun e w' => e = .returned (.int .u32 ((a % 4294967296).toNat : Int)) ∧ w = w' := by
  go_enter Tryd.func43, Tryd.ntmps43
  go_wp2
  go_ret
  exact ⟨ret_int' (by simp; omega), rfl⟩
theorem fits_any (a : Int) (w : World) (h0 : -9223372036854775808 ≤ a) (h : a < 9223372036854775808) :
    Calls Tryd.prog 38 #[.int .i64 a] w fun e w' => e = .returned (.bool (fitsB a)) ∧ w = w' := by
  have HW := Lib.hid (wide_low a h0 h)
  obtain ⟨m, hm⟩ : ∃ m, m = (a % 4294967296).toNat := ⟨_, rfl⟩
  have HL : Hid (∀ w, Calls Tryd.prog 43 #[.int .i64 a] w fun e w' => e = .returned (.int .u32 (m : Int)) ∧ w = w') := by show ∀ w, _; intro w; rw [hm]; exact low_any a w h0 h
  have hm2 : m < 4294967296 := by omega
  rw [← hm] at HW
  clear hm
  go_enter Tryd.func38, Tryd.ntmps38
  go_wp2_with (first
    | (go_at_call 43; refine (HL.out _).mono ?_; rintro e w' ⟨rfl, rfl⟩)
    | (go_at_call 42; refine (wide_any m _ (by omega)).mono ?_; rintro e w' ⟨rfl, rfl⟩))
  go_ret
  exact ⟨ret_bool' HW.out, rfl⟩
theorem rfits_any (a : Int) (w : World) :
    Calls Tryd.prog 22 #[.int .i64 a] w fun e w' => e = .returned (.bool (fitsB a)) ∧ w = w' := by
  by_cases h1 : -2147483648 ≤ a
  · have HF : Hid (decide (a ≤ 2147483647) = fitsB a) := by show _ = _; simp [fitsB, h1]
    have g1 : decide (-2147483648 ≤ a) = true := decide_eq_true h1
    go_enter Tryd.func22, Tryd.ntmps22
    go_wp2
    go_ret
    exact ⟨ret_bool' HF.out, rfl⟩
  · have HF : Hid (false = fitsB a) := by show _ = _; simp [fitsB, h1]
    have g1 : decide (-2147483648 ≤ a) = false := decide_eq_false h1
    go_enter Tryd.func22, Tryd.ntmps22
    go_wp2
    go_ret
    exact ⟨ret_bool' HF.out, rfl⟩
end Go.Proofs.YtdenhfhdobcfiaaDoor
