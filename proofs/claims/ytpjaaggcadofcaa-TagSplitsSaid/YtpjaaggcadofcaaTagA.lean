/- The calls of package tag, and of the document's answer, each with what it returns, for every input; the world is as it was. -/
import Derived.Test.YtpjaaggcadofcaaChecked
import Derived.Test.YtpjaaggcadofcaaTagMath
import Derived.WalkKit
import Derived.OwnWalk
import Derived.RowKitTokens
import Derived.Lib.Hide
namespace Go.Proofs.Ytpjaaggcadofcaa
open Go.RowKit
set_option linter.unusedVariables false
set_option maxRecDepth 100000

theorem numbered_any (n : Int) (w : World) :
    Calls Try.prog 15 #[.int .i64 n] w fun e w' => e = .returned (.bool (numOk n)) ∧ w = w' := by
  by_cases h1 : 1 ≤ n
  · have HF : Hid (decide (n ≤ 536870911) = numOk n) := by show _ = _; simp [numOk, h1]
    have g1 : decide (1 ≤ n) = true := decide_eq_true h1
    go_enter Try.func15, Try.ntmps15
    go_wp2
    go_ret
    exact ⟨ret_bool' HF.out, rfl⟩
  · have HF : Hid (false = numOk n) := by show _ = _; simp [numOk, h1]
    have g1 : decide (1 ≤ n) = false := decide_eq_false h1
    go_enter Try.func15, Try.ntmps15
    go_wp2
    go_ret
    exact ⟨ret_bool' HF.out, rfl⟩
theorem known_any (t : Int) (w : World) :
    Calls Try.prog 16 #[.int .i64 t] w fun e w' => e = .returned (.bool (isWire t)) ∧ w = w' := by
  go_enter Try.func16, Try.ntmps16
  go_wp2
  all_goals go_ret
  all_goals exact ⟨ret_bool' (by simp only [isWire, *, Bool.true_or, Bool.or_true, Bool.or_false]), rfl⟩
theorem right_any (n t : Int) (w : World) :
    Calls Try.prog 8 #[.int .i64 n, .int .i64 t] w fun e w' => e = .returned (.bool (rightB n t)) ∧ w = w' := by
  have H1 := Lib.hid (fun w => numbered_any n w)
  have H2 := Lib.hid (fun w => known_any t w)
  have HF : Hid (rightB n t = (numOk n && isWire t)) := rfl
  generalize rightB n t = r at *
  generalize numOk n = p at *
  generalize isWire t = q at *
  cases p
  all_goals
    go_enter Try.func8, Try.ntmps8
    go_wp2_with (first
      | (go_at_call 15; refine (H1.out _).mono ?_; rintro e w' ⟨rfl, rfl⟩)
      | (go_at_call 16; refine (H2.out _).mono ?_; rintro e w' ⟨rfl, rfl⟩))
    go_ret
    exact ⟨ret_bool' (by rw [HF.out]; rfl), rfl⟩
theorem of_any (n t : Int) (w : World) :
    Calls Try.prog 6 #[.int .i64 n, .int .i64 t] w fun e w' => e = .returned (.tuple #[.int .u64 (tagN n t : Int), .bool (rightB n t)]) ∧ w = w' := by
  have H1 := Lib.hid (fun w => right_any n t w)
  cases hr : rightB n t with
  | false =>
    have HT : Hid (tagN n t = 0) := by show _ = _; rw [tagN, hr, if_neg (by simp)]
    rw [hr] at H1
    clear hr
    go_enter Try.func6, Try.ntmps6
    go_wp2_with (refine (H1.out _).mono ?_; rintro e w' ⟨rfl, rfl⟩)
    go_ret2
    exact ⟨by rw [HT.out]; rfl, rfl⟩
  | true =>
    have HT : Hid (tagN n t = (8 * n + t).toNat) := by show _ = _; rw [tagN, hr, if_pos rfl]
    rw [hr] at H1
    rw [rightB_iff] at hr
    have hn : 1 ≤ n ∧ n ≤ 536870911 := hr.1
    have ht : 0 ≤ t ∧ t ≤ 5 := by omega
    have e8 : 8 * n + t = ((8 * n + t).toNat : Int) := by omega
    have HE := Lib.hid e8
    clear hr e8
    go_enter Try.func6, Try.ntmps6
    go_wp2_with (refine (H1.out _).mono ?_; rintro e w' ⟨rfl, rfl⟩)
    go_ret2
    exact ⟨by rw [HT.out, ← HE.out]; rfl, rfl⟩
theorem split_any (u : Nat) (w : World) (h : u < 18446744073709551616) :
    Calls Try.prog 13 #[.int .u64 (u : Int)] w fun e w' => e = .returned (.tuple #[.int .i64 (splitN u : Int), .int .i64 (splitW u : Int), .bool (splitOk u)]) ∧ w = w' := by
  obtain ⟨n, hn⟩ : ∃ n, n = u / 8 := ⟨_, rfl⟩
  obtain ⟨t, ht⟩ : ∃ t, t = u % 8 := ⟨_, rfl⟩
  have e1 : (u : Int) / 8 = (n : Int) := by omega
  have e2 : (u : Int) % 8 = (t : Int) := by omega
  have hn2 : n < 2305843009213693952 := by omega
  have ht2 : t < 8 := by omega
  have H1 : Hid (∀ w, Calls Try.prog 8 #[.int .i64 (n : Int), .int .i64 (t : Int)] w fun e w' => e = .returned (.bool (splitOk u)) ∧ w = w') := by
    show ∀ w, _; intro w; rw [splitOk, ← hn, ← ht]; exact right_any n t w
  have HN : Hid (splitN u = if splitOk u = true then n else 0) := by show _ = _; rw [splitN, ← hn]
  have HW : Hid (splitW u = if splitOk u = true then t else 0) := by show _ = _; rw [splitW, ← ht]
  have HO : Hid (536870911 < n → splitOk u = false) := by
    show _ → _; intro hm; rw [← Bool.not_eq_true]; intro hc; rw [splitOk, rightB_iff] at hc; omega
  clear hn ht
  generalize splitOk u = ok at *
  generalize splitN u = sn at *
  generalize splitW u = sw at *
  by_cases hm : n ≤ 536870911
  · have g1 : decide ((536870911 : Int) < (n : Int)) = false := decide_eq_false (by omega)
    cases ok
    all_goals
      go_enter Try.func13, Try.ntmps13
      go_wp2_with (refine (H1.out _).mono ?_; rintro e w' ⟨rfl, rfl⟩)
      go_ret3
      exact ⟨by rw [HN.out, HW.out]; rfl, rfl⟩
  · have g1 : decide ((536870911 : Int) < (n : Int)) = true := decide_eq_true (by omega)
    obtain rfl := HO.out (by omega)
    go_enter Try.func13, Try.ntmps13
    go_wp2
    go_ret3
    exact ⟨by rw [HN.out, HW.out]; rfl, rfl⟩
theorem rright_any (n t : Int) (w : World) :
    Calls Try.prog 7 #[.int .i64 n, .int .i64 t] w fun e w' => e = .returned (.bool (rightB n t)) ∧ w = w' := by
  by_cases h1 : 1 ≤ n
  · have g1 : decide (1 ≤ n) = true := decide_eq_true h1
    by_cases h2 : n ≤ 536870911
    · have g2 : decide (n ≤ 536870911) = true := decide_eq_true h2
      have HF : Hid (rightB n t = (t == 0 || (t == 1 || (t == 2 || t == 5)))) := by show _ = _; simp [rightB, numOk, h1, h2, isWire]
      cases e0 : (t == 0) <;> cases e1 : (t == 1) <;> cases e2 : (t == 2)
      all_goals rw [e0, e1, e2] at HF
      all_goals
        go_enter Try.func7, Try.ntmps7
        go_wp2
        go_ret
        exact ⟨ret_bool' (by rw [HF.out]; simp only [Bool.true_or, Bool.or_true, Bool.false_or]), rfl⟩
    · have g2 : decide (n ≤ 536870911) = false := decide_eq_false h2
      have HF : Hid (rightB n t = false) := by show _ = _; simp [rightB, numOk, h2]
      go_enter Try.func7, Try.ntmps7
      go_wp2
      go_ret
      exact ⟨ret_bool' HF.out.symm, rfl⟩
  · have g1 : decide (1 ≤ n) = false := decide_eq_false h1
    have HF : Hid (rightB n t = false) := by show _ = _; simp [rightB, numOk, h1]
    go_enter Try.func7, Try.ntmps7
    go_wp2
    go_ret
    exact ⟨ret_bool' HF.out.symm, rfl⟩
theorem rof_any (n t : Int) (w : World) (hr : rightB n t = true) :
    Calls Try.prog 11 #[.int .i64 n, .int .i64 t] w fun e w' => e = .returned (.int .u64 (tagN n t : Int)) ∧ w = w' := by
  have HT : Hid (tagN n t = (8 * n + t).toNat) := by show _ = _; rw [tagN, hr, if_pos rfl]
  rw [rightB_iff] at hr
  have hn : 1 ≤ n ∧ n ≤ 536870911 := hr.1
  have ht : 0 ≤ t ∧ t ≤ 5 := by omega
  have e8 : 8 * n + t = ((8 * n + t).toNat : Int) := by omega
  have HE := Lib.hid e8
  clear hr e8
  go_enter Try.func11, Try.ntmps11
  go_wp2
  go_ret
  exact ⟨ret_int' (by rw [HT.out, ← HE.out]), rfl⟩
theorem rsplit_any (u : Nat) (w : World) (h : u < 18446744073709551616) :
    Calls Try.prog 14 #[.int .u64 (u : Int)] w fun e w' => e = .returned (.tuple #[.int .i64 (splitN u : Int), .int .i64 (splitW u : Int), .bool (splitOk u)]) ∧ w = w' := by
  obtain ⟨n, hn⟩ : ∃ n, n = u / 8 := ⟨_, rfl⟩
  obtain ⟨t, ht⟩ : ∃ t, t = u % 8 := ⟨_, rfl⟩
  have e1 : (u : Int) / 8 = (n : Int) := by omega
  have e2 : (u : Int) % 8 = (t : Int) := by omega
  have hn2 : n < 2305843009213693952 := by omega
  have ht2 : t < 8 := by omega
  have H1 : Hid (∀ w, Calls Try.prog 7 #[.int .i64 (n : Int), .int .i64 (t : Int)] w fun e w' => e = .returned (.bool (splitOk u)) ∧ w = w') := by
    show ∀ w, _; intro w; rw [splitOk, ← hn, ← ht]; exact rright_any n t w
  have HN : Hid (splitN u = if splitOk u = true then n else 0) := by show _ = _; rw [splitN, ← hn]
  have HW : Hid (splitW u = if splitOk u = true then t else 0) := by show _ = _; rw [splitW, ← ht]
  have HO : Hid (536870911 < n → splitOk u = false) := by
    show _ → _; intro hm; rw [← Bool.not_eq_true]; intro hc; rw [splitOk, rightB_iff] at hc; omega
  clear hn ht
  generalize splitOk u = ok at *
  generalize splitN u = sn at *
  generalize splitW u = sw at *
  by_cases hm : n ≤ 536870911
  · have g1 : decide ((536870911 : Int) < (n : Int)) = false := decide_eq_false (by omega)
    cases ok
    all_goals
      go_enter Try.func14, Try.ntmps14
      go_wp2_with (refine (H1.out _).mono ?_; rintro e w' ⟨rfl, rfl⟩)
      go_ret3
      exact ⟨by rw [HN.out, HW.out]; rfl, rfl⟩
  · have g1 : decide ((536870911 : Int) < (n : Int)) = true := decide_eq_true (by omega)
    obtain rfl := HO.out (by omega)
    go_enter Try.func14, Try.ntmps14
    go_wp2
    go_ret3
    exact ⟨by rw [HN.out, HW.out]; rfl, rfl⟩
theorem field_any (n : Int) (w : World) :
    Calls Try.prog 9 #[.int .i64 n] w fun e w' => e = .returned (.bool (fieldB n)) ∧ w = w' := by
  have H1 := Lib.hid (fun w => numbered_any n w)
  have HF : Hid (fieldB n = (numOk n && (decide (n < 19000) || decide (19999 < n)))) := by show _ = _; simp [fieldB]
  generalize fieldB n = r at *
  generalize numOk n = p at *
  cases p <;> cases e1 : decide (n < 19000)
  all_goals
    rw [e1] at HF
    go_enter Try.func9, Try.ntmps9
    go_wp2_with (refine (H1.out _).mono ?_; rintro e w' ⟨rfl, rfl⟩)
    go_ret
    exact ⟨ret_bool' (by rw [HF.out]; rfl), rfl⟩
theorem rfield_any (n : Int) (w : World) :
    Calls Try.prog 10 #[.int .i64 n] w fun e w' => e = .returned (.bool (fieldB n)) ∧ w = w' := by
  have HF : Hid (fieldB n = ((decide (1 ≤ n) && decide (n ≤ 536870911)) && (decide (n < 19000) || decide (19999 < n)))) := by show _ = _; simp [fieldB, numOk]
  generalize fieldB n = r at *
  cases e0 : decide (1 ≤ n) <;> cases e2 : decide (n ≤ 536870911) <;> cases e1 : decide (n < 19000)
  all_goals
    rw [e0, e1, e2] at HF
    go_enter Try.func10, Try.ntmps10
    go_wp2
    go_ret
    exact ⟨ret_bool' (by rw [HF.out]; rfl), rfl⟩
end Go.Proofs.Ytpjaaggcadofcaa
