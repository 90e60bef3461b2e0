/- The laws TagOf, TagSplits, TagBack: each returns true for every input; the world is as it was. -/
import Derived.Test.YtpjaaggcadofcaaTagA
import Derived.Test.YtpjaaggcadofcaaQuiet
namespace Go.Proofs.Ytpjaaggcadofcaa
open Go.RowKit
set_option linter.unusedVariables false
set_option maxRecDepth 100000

theorem live_any (w : World) : Calls Try.prog 12 #[] w fun e w' => e = .returned (.bool true) ∧ w = w' := by
  have h1 := of_any 1 2 w
  rw [show tagN 1 2 = 10 by decide, show rightB 1 2 = true by decide] at h1
  have H1 := Lib.hid h1
  clear h1
  go_enter Try.func12, Try.ntmps12
  go_wp2_with (refine H1.out.mono ?_; rintro e w' ⟨rfl, rfl⟩)
  go_ret
  exact ⟨rfl, rfl⟩

theorem tagof_walk (w : World) (n : Int) (hn : -9223372036854775808 ≤ n ∧ n < 9223372036854775808) (t : Int) (ht : -9223372036854775808 ≤ t ∧ t < 9223372036854775808) :
    Calls Try.prog 3 #[.int .i64 n, .int .i64 t] w fun e w' => e = .returned (.bool true) ∧ w = w' := by
  have H1 := Lib.hid (of_any n t w)
  have H2 := Lib.hid (right_any n t w)
  have H3 := Lib.hid (rright_any n t w)
  have H4 := Lib.hid (field_any n w)
  have H5 := Lib.hid (rfield_any n w)
  have H6 := Lib.hid (rof_any n t w)
  have hz : rightB n t = false → tagN n t = 0 := by intro h; rw [tagN, h, if_neg (by simp)]
  have hl := tagN_lt n t
  generalize tagN n t = x at *
  generalize rightB n t = r at *
  generalize fieldB n = f at *
  cases r
  · obtain rfl := hz rfl
    clear hz H6
    cases f
    all_goals
      go_enter Try.func3, Try.ntmps3
      go_wp2_with (first
        | ((with_reducible refine H1.out.mono ?_); rintro e w' ⟨rfl, rfl⟩)
        | ((with_reducible refine H2.out.mono ?_); rintro e w' ⟨rfl, rfl⟩)
        | ((with_reducible refine H3.out.mono ?_); rintro e w' ⟨rfl, rfl⟩)
        | ((with_reducible refine H4.out.mono ?_); rintro e w' ⟨rfl, rfl⟩)
        | ((with_reducible refine H5.out.mono ?_); rintro e w' ⟨rfl, rfl⟩)
        | (go_at_call 12; refine (live_any _).mono ?_; rintro e w' ⟨rfl, rfl⟩))
      go_ret
      exact ⟨rfl, rfl⟩
  · clear hz
    have H7 : Hid (Calls Try.prog 11 #[.int .i64 n, .int .i64 t] w fun e w' => e = .returned (.int .u64 (x : Int)) ∧ w = w') := H6.out rfl
    clear H6
    cases f
    all_goals
      go_enter Try.func3, Try.ntmps3
      go_wp2_with (first
        | ((with_reducible refine H1.out.mono ?_); rintro e w' ⟨rfl, rfl⟩)
        | ((with_reducible refine H2.out.mono ?_); rintro e w' ⟨rfl, rfl⟩)
        | ((with_reducible refine H3.out.mono ?_); rintro e w' ⟨rfl, rfl⟩)
        | ((with_reducible refine H4.out.mono ?_); rintro e w' ⟨rfl, rfl⟩)
        | ((with_reducible refine H5.out.mono ?_); rintro e w' ⟨rfl, rfl⟩)
        | ((with_reducible refine H7.out.mono ?_); rintro e w' ⟨rfl, rfl⟩)
        | (go_at_call 12; refine (live_any _).mono ?_; rintro e w' ⟨rfl, rfl⟩))
      go_ret
      exact ⟨rfl, rfl⟩

theorem tagsplits_walk (w : World) (u : Nat) (hu : u < 18446744073709551616) :
    Calls Try.prog 4 #[.int .u64 (u : Int)] w fun e w' => e = .returned (.bool true) ∧ w = w' := by
  have H1 := Lib.hid (split_any u w hu)
  have H2 := Lib.hid (rsplit_any u w hu)
  have h3 := of_any (splitN u) (splitW u) w
  rw [right_split] at h3
  have H3 := Lib.hid h3
  clear h3
  have ht : splitOk u = true → tagN (splitN u) (splitW u) = u := tag_split u
  have hl := tagN_lt (splitN u) (splitW u)
  generalize tagN (splitN u) (splitW u) = x at *
  generalize splitOk u = ok at *
  generalize splitN u = n at *
  generalize splitW u = t at *
  cases ok
  · clear ht
    go_enter Try.func4, Try.ntmps4
    go_wp2_with (first
      | ((with_reducible refine H1.out.mono ?_); rintro e w' ⟨rfl, rfl⟩)
      | ((with_reducible refine H2.out.mono ?_); rintro e w' ⟨rfl, rfl⟩)
      | ((with_reducible refine H3.out.mono ?_); rintro e w' ⟨rfl, rfl⟩)
      | (go_at_call 12; refine (live_any _).mono ?_; rintro e w' ⟨rfl, rfl⟩))
    go_ret
    exact ⟨rfl, rfl⟩
  · obtain rfl := ht rfl
    clear ht
    go_enter Try.func4, Try.ntmps4
    go_wp2_with (first
      | ((with_reducible refine H1.out.mono ?_); rintro e w' ⟨rfl, rfl⟩)
      | ((with_reducible refine H2.out.mono ?_); rintro e w' ⟨rfl, rfl⟩)
      | ((with_reducible refine H3.out.mono ?_); rintro e w' ⟨rfl, rfl⟩)
      | (go_at_call 12; refine (live_any _).mono ?_; rintro e w' ⟨rfl, rfl⟩))
    go_ret
    exact ⟨rfl, rfl⟩

theorem tagback_walk (w : World) (n : Int) (hn : -9223372036854775808 ≤ n ∧ n < 9223372036854775808) (t : Int) (ht : -9223372036854775808 ≤ t ∧ t < 9223372036854775808) :
    Calls Try.prog 5 #[.int .i64 n, .int .i64 t] w fun e w' => e = .returned (.bool true) ∧ w = w' := by
  have H1 := Lib.hid (of_any n t w)
  have hl := tagN_lt n t
  have h2 := split_any (tagN n t) w (by omega)
  cases hr : rightB n t
  · rw [hr] at H1
    have H2 := Lib.hid h2
    clear h2
    generalize splitOk (tagN n t) = ok at *
    generalize splitN (tagN n t) = sn at *
    generalize splitW (tagN n t) = sw at *
    generalize tagN n t = x at *
    clear hr
    go_enter Try.func5, Try.ntmps5
    go_wp2_with (first
      | ((with_reducible refine H1.out.mono ?_); rintro e w' ⟨rfl, rfl⟩)
      | ((with_reducible refine H2.out.mono ?_); rintro e w' ⟨rfl, rfl⟩)
      | (go_at_call 12; refine (live_any _).mono ?_; rintro e w' ⟨rfl, rfl⟩))
    go_ret
    exact ⟨rfl, rfl⟩
  · rw [hr] at H1
    obtain ⟨s1, s2, s3⟩ := split_tag n t hr
    rw [s1, s2, s3] at h2
    have H2 := Lib.hid h2
    clear h2 hr s1 s2 s3
    generalize tagN n t = x at *
    go_enter Try.func5, Try.ntmps5
    go_wp2_with (first
      | ((with_reducible refine H1.out.mono ?_); rintro e w' ⟨rfl, rfl⟩)
      | ((with_reducible refine H2.out.mono ?_); rintro e w' ⟨rfl, rfl⟩)
      | (go_at_call 12; refine (live_any _).mono ?_; rintro e w' ⟨rfl, rfl⟩))
    go_ret
    exact ⟨rfl, rfl⟩
theorem tagof_law (w : World) (n : Int) (hn : -9223372036854775808 ≤ n ∧ n < 9223372036854775808) (t : Int) (ht : -9223372036854775808 ≤ t ∧ t < 9223372036854775808) :
    Calls Try.prog 3 #[.int .i64 n, .int .i64 t] w fun e w' => e = .returned (.bool true) ∧ Below w.heap.size w w' := quiet_below (tagof_walk w n hn t ht)
theorem tagsplits_law (w : World) (u : Nat) (hu : u < 18446744073709551616) :
    Calls Try.prog 4 #[.int .u64 (u : Int)] w fun e w' => e = .returned (.bool true) ∧ Below w.heap.size w w' := quiet_below (tagsplits_walk w u hu)
theorem tagback_law (w : World) (n : Int) (hn : -9223372036854775808 ≤ n ∧ n < 9223372036854775808) (t : Int) (ht : -9223372036854775808 ≤ t ∧ t < 9223372036854775808) :
    Calls Try.prog 5 #[.int .i64 n, .int .i64 t] w fun e w' => e = .returned (.bool true) ∧ Below w.heap.size w w' := quiet_below (tagback_walk w n hn t ht)
end Go.Proofs.Ytpjaaggcadofcaa
