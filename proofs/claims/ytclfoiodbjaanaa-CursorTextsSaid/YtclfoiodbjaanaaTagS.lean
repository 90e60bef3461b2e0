/- tag.Right, tag.Split and the document's answer, each with what it returns, for every input; the world is as it was. -/
import Derived.Test.YtclfoiodbjaanaaChecked
import Derived.Test.YtclfoiodbjaanaaTagMath
import Derived.WalkKit
import Derived.OwnWalk
import Derived.RowKitTokens
import Derived.Lib.Hide
namespace Go.Proofs.Ytclfoiodbjaanaa
open Go.RowKit
set_option linter.unusedVariables false
set_option maxRecDepth 100000

theorem numbered_any (n : Int) (w : World) :
    Calls Try.prog 58 #[.int .i64 n] w fun e w' => e = .returned (.bool (numOk n)) ∧ w = w' := by
  by_cases h1 : 1 ≤ n
  · have HF : Hid (decide (n ≤ 536870911) = numOk n) := by show _ = _; simp [numOk, h1]
    have g1 : decide (1 ≤ n) = true := decide_eq_true h1
    go_enter Try.func58, Try.ntmps58
    go_wp2
    go_ret
    exact ⟨ret_bool' HF.out, rfl⟩
  · have HF : Hid (false = numOk n) := by show _ = _; simp [numOk, h1]
    have g1 : decide (1 ≤ n) = false := decide_eq_false h1
    go_enter Try.func58, Try.ntmps58
    go_wp2
    go_ret
    exact ⟨ret_bool' HF.out, rfl⟩
theorem known_any (t : Int) (w : World) :
    Calls Try.prog 59 #[.int .i64 t] w fun e w' => e = .returned (.bool (isWire t)) ∧ w = w' := by
  go_enter Try.func59, Try.ntmps59
  go_wp2
  all_goals go_ret
  all_goals exact ⟨ret_bool' (by simp only [isWire, *, Bool.true_or, Bool.or_true, Bool.or_false]), rfl⟩
theorem right_any (n t : Int) (w : World) :
    Calls Try.prog 56 #[.int .i64 n, .int .i64 t] w fun e w' => e = .returned (.bool (rightB n t)) ∧ w = w' := by
  have H1 := Lib.hid (fun w => numbered_any n w)
  have H2 := Lib.hid (fun w => known_any t w)
  have HF : Hid (rightB n t = (numOk n && isWire t)) := rfl
  generalize rightB n t = r at *
  generalize numOk n = p at *
  generalize isWire t = q at *
  cases p
  all_goals
    go_enter Try.func56, Try.ntmps56
    go_wp2_with (first
      | (go_at_call 58; refine (H1.out _).mono ?_; rintro e w' ⟨rfl, rfl⟩)
      | (go_at_call 59; refine (H2.out _).mono ?_; rintro e w' ⟨rfl, rfl⟩))
    go_ret
    exact ⟨ret_bool' (by rw [HF.out]; rfl), rfl⟩
theorem split_any (u : Nat) (w : World) (h : u < 18446744073709551616) :
    Calls Try.prog 50 #[.int .u64 (u : Int)] w fun e w' => e = .returned (.tuple #[.int .i64 (splitN u : Int), .int .i64 (splitW u : Int), .bool (splitOk u)]) ∧ w = w' := by
  obtain ⟨n, hn⟩ : ∃ n, n = u / 8 := ⟨_, rfl⟩
  obtain ⟨t, ht⟩ : ∃ t, t = u % 8 := ⟨_, rfl⟩
  have e1 : (u : Int) / 8 = (n : Int) := by omega
  have e2 : (u : Int) % 8 = (t : Int) := by omega
  have hn2 : n < 2305843009213693952 := by omega
  have ht2 : t < 8 := by omega
  have H1 : Hid (∀ w, Calls Try.prog 56 #[.int .i64 (n : Int), .int .i64 (t : Int)] w fun e w' => e = .returned (.bool (splitOk u)) ∧ w = w') := by
    show ∀ w, _; intro w; rw [splitOk, ← hn, ← ht]; exact right_any n t w
  have HN : Hid (splitN u = if splitOk u = true then n else 0) := by show _ = _; rw [splitN, ← hn]
  have HW : Hid (splitW u = if splitOk u = true then t else 0) := by show _ = _; rw [splitW, ← ht]
  have HO : Hid (536870911 < n → splitOk u = false) := by
    show _ → _; intro hm; rw [← Bool.not_eq_true]; intro hc; rw [splitOk, rightB_iff] at hc; omega
  clear hn ht
  generalize splitOk u = ok at *
  generalize splitN u = sn at *
  generalize splitW u = sw at *
  by_cases hm : n ≤ 536870911
  · have g1 : decide ((536870911 : Int) < (n : Int)) = false := decide_eq_false (by omega)
    cases ok
    all_goals
      go_enter Try.func50, Try.ntmps50
      go_wp2_with (refine (H1.out _).mono ?_; rintro e w' ⟨rfl, rfl⟩)
      go_ret3
      exact ⟨by rw [HN.out, HW.out]; rfl, rfl⟩
  · have g1 : decide ((536870911 : Int) < (n : Int)) = true := decide_eq_true (by omega)
    obtain rfl := HO.out (by omega)
    go_enter Try.func50, Try.ntmps50
    go_wp2
    go_ret3
    exact ⟨by rw [HN.out, HW.out]; rfl, rfl⟩
theorem rright_any (n t : Int) (w : World) :
    Calls Try.prog 57 #[.int .i64 n, .int .i64 t] w fun e w' => e = .returned (.bool (rightB n t)) ∧ w = w' := by
  by_cases h1 : 1 ≤ n
  · have g1 : decide (1 ≤ n) = true := decide_eq_true h1
    by_cases h2 : n ≤ 536870911
    · have g2 : decide (n ≤ 536870911) = true := decide_eq_true h2
      have HF : Hid (rightB n t = (t == 0 || (t == 1 || (t == 2 || t == 5)))) := by show _ = _; simp [rightB, numOk, h1, h2, isWire]
      cases e0 : (t == 0) <;> cases e1 : (t == 1) <;> cases e2 : (t == 2)
      all_goals rw [e0, e1, e2] at HF
      all_goals
        go_enter Try.func57, Try.ntmps57
        go_wp2
        go_ret
        exact ⟨ret_bool' (by rw [HF.out]; simp only [Bool.true_or, Bool.or_true, Bool.false_or]), rfl⟩
    · have g2 : decide (n ≤ 536870911) = false := decide_eq_false h2
      have HF : Hid (rightB n t = false) := by show _ = _; simp [rightB, numOk, h2]
      go_enter Try.func57, Try.ntmps57
      go_wp2
      go_ret
      exact ⟨ret_bool' HF.out.symm, rfl⟩
  · have g1 : decide (1 ≤ n) = false := decide_eq_false h1
    have HF : Hid (rightB n t = false) := by show _ = _; simp [rightB, numOk, h1]
    go_enter Try.func57, Try.ntmps57
    go_wp2
    go_ret
    exact ⟨ret_bool' HF.out.symm, rfl⟩
theorem rsplit_any (u : Nat) (w : World) (h : u < 18446744073709551616) :
    Calls Try.prog 51 #[.int .u64 (u : Int)] w fun e w' => e = .returned (.tuple #[.int .i64 (splitN u : Int), .int .i64 (splitW u : Int), .bool (splitOk u)]) ∧ w = w' := by
  obtain ⟨n, hn⟩ : ∃ n, n = u / 8 := ⟨_, rfl⟩
  obtain ⟨t, ht⟩ : ∃ t, t = u % 8 := ⟨_, rfl⟩
  have e1 : (u : Int) / 8 = (n : Int) := by omega
  have e2 : (u : Int) % 8 = (t : Int) := by omega
  have hn2 : n < 2305843009213693952 := by omega
  have ht2 : t < 8 := by omega
  have H1 : Hid (∀ w, Calls Try.prog 57 #[.int .i64 (n : Int), .int .i64 (t : Int)] w fun e w' => e = .returned (.bool (splitOk u)) ∧ w = w') := by
    show ∀ w, _; intro w; rw [splitOk, ← hn, ← ht]; exact rright_any n t w
  have HN : Hid (splitN u = if splitOk u = true then n else 0) := by show _ = _; rw [splitN, ← hn]
  have HW : Hid (splitW u = if splitOk u = true then t else 0) := by show _ = _; rw [splitW, ← ht]
  have HO : Hid (536870911 < n → splitOk u = false) := by
    show _ → _; intro hm; rw [← Bool.not_eq_true]; intro hc; rw [splitOk, rightB_iff] at hc; omega
  clear hn ht
  generalize splitOk u = ok at *
  generalize splitN u = sn at *
  generalize splitW u = sw at *
  by_cases hm : n ≤ 536870911
  · have g1 : decide ((536870911 : Int) < (n : Int)) = false := decide_eq_false (by omega)
    cases ok
    all_goals
      go_enter Try.func51, Try.ntmps51
      go_wp2_with (refine (H1.out _).mono ?_; rintro e w' ⟨rfl, rfl⟩)
      go_ret3
      exact ⟨by rw [HN.out, HW.out]; rfl, rfl⟩
  · have g1 : decide ((536870911 : Int) < (n : Int)) = true := decide_eq_true (by omega)
    obtain rfl := HO.out (by omega)
    go_enter Try.func51, Try.ntmps51
    go_wp2
    go_ret3
    exact ⟨by rw [HN.out, HW.out]; rfl, rfl⟩
end Go.Proofs.Ytclfoiodbjaanaa
