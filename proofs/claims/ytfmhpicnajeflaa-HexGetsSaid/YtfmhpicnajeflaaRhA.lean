/- The document's digits: digit, value. Conditions: those that each theorem names. -/
import Derived.Test.YtfmhpicnajeflaaChecked
import Derived.Test.YtfmhpicnajeflaaHexMath
import Derived.Test.YtfmhpicnajeflaaGives
import Derived.Test.YtfmhpicnajeflaaStrBs
import Derived.Test.YtfmhpicnajeflaaInts
import Derived.WalkKit
import Derived.OwnWalk
import Derived.RowKitTokens
import Derived.Lib.Hide
import Derived.BigQuiet
import Derived.Deep.QuietTactic
import Derived.IntWalk
namespace Go.Proofs.Ytfmhpicnajeflaa
open Go.RowKit
set_option linter.unusedVariables false
set_option maxRecDepth 100000

theorem rdigit_any (n : Nat) (h : n < 16) (w : World) : Calls Try.prog 16 #[.int .i64 (n : Int)] w fun e w' => e = .returned (.int .u8 ((dg n).toNat : Int)) ∧ w = w' := by
  have hd := dg_nat h
  by_cases h10 : n < 10
  · rw [if_pos h10] at hd
    have g1 : decide ((n : Int) < 10) = true := decide_eq_true (by omega)
    go_enter Try.func16, Try.ntmps16
    go_wp2
    go_ret
    exact ⟨ret_int' (by rw [hd]; omega), rfl⟩
  · rw [if_neg h10] at hd
    have g1 : decide ((n : Int) < 10) = false := decide_eq_false (by omega)
    go_enter Try.func16, Try.ntmps16
    go_wp2
    go_ret
    exact ⟨ret_int' (by rw [hd]; omega), rfl⟩
theorem rvalue_any (c : UInt8) (w : World) : Calls Try.prog 17 #[.int .u8 (c.toNat : Int)] w fun e w' => e = .returned (.int .i64 (dv c)) ∧ w = w' := by
  have hc := c.toNat_lt
  have HD : Hid (dv c = if 48 ≤ c.toNat ∧ c.toNat ≤ 57 then (c.toNat : Int) - 48 else if 97 ≤ c.toNat ∧ c.toNat ≤ 102 then (c.toNat : Int) - 87 else -1) := Lib.hid rfl
  obtain ⟨n, hn⟩ : ∃ n, n = c.toNat := ⟨_, rfl⟩
  rw [← hn] at hc HD ⊢
  clear hn
  by_cases h1 : 48 ≤ n
  · have g1 : decide ((48 : Int) ≤ (n : Int)) = true := decide_eq_true (by omega)
    by_cases h2 : n ≤ 57
    · have g2 : decide ((n : Int) ≤ 57) = true := decide_eq_true (by omega)
      rw [if_pos ⟨h1, h2⟩] at HD
      go_enter Try.func17, Try.ntmps17
      go_wp2
      go_ret
      exact ⟨ret_int' (by rw [HD.out]), rfl⟩
    · have g2 : decide ((n : Int) ≤ 57) = false := decide_eq_false (by omega)
      rw [if_neg (by omega)] at HD
      by_cases h3 : 97 ≤ n
      · have g3 : decide ((97 : Int) ≤ (n : Int)) = true := decide_eq_true (by omega)
        by_cases h4 : n ≤ 102
        · have g4 : decide ((n : Int) ≤ 102) = true := decide_eq_true (by omega)
          rw [if_pos ⟨h3, h4⟩] at HD
          go_enter Try.func17, Try.ntmps17
          go_wp2
          go_ret
          exact ⟨ret_int' (by rw [HD.out]; omega), rfl⟩
        · have g4 : decide ((n : Int) ≤ 102) = false := decide_eq_false (by omega)
          rw [if_neg (by omega)] at HD
          go_enter Try.func17, Try.ntmps17
          go_wp2
          go_ret
          exact ⟨ret_int' (by rw [HD.out]), rfl⟩
      · have g3 : decide ((97 : Int) ≤ (n : Int)) = false := decide_eq_false (by omega)
        rw [if_neg (by omega)] at HD
        go_enter Try.func17, Try.ntmps17
        go_wp2
        go_ret
        exact ⟨ret_int' (by rw [HD.out]), rfl⟩
  · have g1 : decide ((48 : Int) ≤ (n : Int)) = false := decide_eq_false (by omega)
    have g3 : decide ((97 : Int) ≤ (n : Int)) = false := decide_eq_false (by omega)
    rw [if_neg (by omega), if_neg (by omega)] at HD
    go_enter Try.func17, Try.ntmps17
    go_wp2
    go_ret
    exact ⟨ret_int' (by rw [HD.out]), rfl⟩
end Go.Proofs.Ytfmhpicnajeflaa
