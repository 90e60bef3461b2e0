/- The program's layer 8: worth. Conditions: those that each theorem names. -/
import Derived.Test.YtfmhpicnajeflaaRhA
namespace Go.Proofs.Ytfmhpicnajeflaa
open Go.RowKit
set_option linter.unusedVariables false
set_option maxRecDepth 100000

theorem worth_bad (r : Nat) (h1 : ¬ (48 ≤ r ∧ r ≤ 57)) (h2 : ¬ (97 ≤ r ∧ r ≤ 102)) (hr : r ≤ 2147483647) (w : World) : Calls Try.prog 12 #[.int .i32 (r : Int)] w fun e w' => e = .returned (.tuple #[.int .u8 0, .bool false]) ∧ w = w' := by
  by_cases a1 : 48 ≤ r
  · have g1 : decide ((48 : Int) ≤ (r : Int)) = true := decide_eq_true (by omega)
    have g2 : decide ((r : Int) ≤ 57) = false := decide_eq_false (by omega)
    by_cases a3 : 97 ≤ r
    · have g3 : decide ((97 : Int) ≤ (r : Int)) = true := decide_eq_true (by omega)
      have g4 : decide ((r : Int) ≤ 102) = false := decide_eq_false (by omega)
      clear h1 h2 hr a1 a3
      go_enter Try.func12, Try.ntmps12
      go_wp2
      go_ret2
      exact ⟨rfl, rfl⟩
    · have g3 : decide ((97 : Int) ≤ (r : Int)) = false := decide_eq_false (by omega)
      clear h1 h2 hr a1 a3
      go_enter Try.func12, Try.ntmps12
      go_wp2
      go_ret2
      exact ⟨rfl, rfl⟩
  · have g1 : decide ((48 : Int) ≤ (r : Int)) = false := decide_eq_false (by omega)
    have g3 : decide ((97 : Int) ≤ (r : Int)) = false := decide_eq_false (by omega)
    clear h1 h2 hr a1
    go_enter Try.func12, Try.ntmps12
    go_wp2
    go_ret2
    exact ⟨rfl, rfl⟩
theorem worth_good (c : UInt8) (h : 0 ≤ dv c) (w : World) : Calls Try.prog 12 #[.int .i32 (c.toNat : Int)] w fun e w' => e = .returned (.tuple #[.int .u8 (dv c), .bool true]) ∧ w = w' := by
  have hc := c.toNat_lt
  have HD : Hid (dv c = if 48 ≤ c.toNat ∧ c.toNat ≤ 57 then (c.toNat : Int) - 48 else if 97 ≤ c.toNat ∧ c.toNat ≤ 102 then (c.toNat : Int) - 87 else -1) := Lib.hid rfl
  obtain ⟨v, hv⟩ : ∃ v, v = dv c := ⟨_, rfl⟩
  obtain ⟨n, hn⟩ : ∃ n, n = c.toNat := ⟨_, rfl⟩
  rw [← hn] at hc HD ⊢
  rw [← hv] at h HD ⊢
  clear hn hv
  by_cases h1 : 48 ≤ n ∧ n ≤ 57
  · have g1 : decide ((48 : Int) ≤ (n : Int)) = true := decide_eq_true (by omega)
    have g2 : decide ((n : Int) ≤ 57) = true := decide_eq_true (by omega)
    have e := HD.out
    rw [if_pos h1] at e
    have w1 : IntKind.i32.wrap ((n : Int) - 48) = v := by rw [IntKind.wrap_i32]; omega
    have w2 : IntKind.u8.wrap v = v := by rw [IntKind.wrap_u8]; omega
    clear HD e h hc
    go_enter Try.func12, Try.ntmps12
    go_wp2
    go_ret2
    exact ⟨rfl, rfl⟩
  · have h2 : 97 ≤ n ∧ n ≤ 102 := by
      have e := HD.out
      rw [if_neg h1] at e
      split at e
      · assumption
      · omega
    have g1 : decide ((48 : Int) ≤ (n : Int)) = true := decide_eq_true (by omega)
    have g2 : decide ((n : Int) ≤ 57) = false := decide_eq_false (by omega)
    have g3 : decide ((97 : Int) ≤ (n : Int)) = true := decide_eq_true (by omega)
    have g4 : decide ((n : Int) ≤ 102) = true := decide_eq_true (by omega)
    have e := HD.out
    rw [if_neg h1, if_pos h2] at e
    obtain ⟨d, hd⟩ : ∃ d : Int, d = (n : Int) - 97 := ⟨_, rfl⟩
    have w1 : IntKind.i32.wrap ((n : Int) - 97) = d := by rw [IntKind.wrap_i32]; omega
    have w2 : IntKind.u8.wrap d = d := by rw [IntKind.wrap_u8]; omega
    have w3 : IntKind.u8.wrap (d + 10) = v := by rw [IntKind.wrap_u8]; omega
    clear HD e h hc hd
    go_enter Try.func12, Try.ntmps12
    go_wp2
    go_ret2
    exact ⟨rfl, rfl⟩
end Go.Proofs.Ytfmhpicnajeflaa
