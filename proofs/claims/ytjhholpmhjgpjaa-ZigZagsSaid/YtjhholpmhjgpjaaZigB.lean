/- The laws ZigZags, ZigLows, ZigNears: each returns true for every input; the world is as it was. -/
import Derived.Test.YtjhholpmhjgpjaaZigA
import Derived.Below
namespace Go.Proofs.Ytjhholpmhjgpjaa
open Go.RowKit
set_option linter.unusedVariables false
set_option maxRecDepth 100000

theorem zigN_m1 : zigN (-1) = 1 := by decide
theorem zigN_1 : zigN 1 = 2 := by decide
theorem wideI_m1 : wideI 4294967295 = -1 := by decide

theorem live_any (w : World) : Calls Try.prog 10 #[] w fun e w' => e = .returned (.bool true) ∧ w = w' := by
  have h1 := zig_any (-1) w (by decide) (by decide)
  have h2 := zig_any 1 w (by decide) (by decide)
  have h3 := wide_any 4294967295 w (by decide)
  rw [zigN_m1] at h1
  rw [zigN_1] at h2
  rw [wideI_m1] at h3
  have H1 := Lib.hid h1
  have H2 := Lib.hid h2
  have H3 := Lib.hid h3
  clear h1 h2 h3
  go_enter Try.func10, Try.ntmps10
  go_wp2_with (first
    | (go_at_call 11; refine H3.out.mono ?_; rintro e w' ⟨rfl, rfl⟩)
    | (refine H1.out.mono ?_; rintro e w' ⟨rfl, rfl⟩)
    | (refine H2.out.mono ?_; rintro e w' ⟨rfl, rfl⟩))
  go_ret
  exact ⟨rfl, rfl⟩

theorem zags_walk (w : World) (a : Int) (ha : -9223372036854775808 ≤ a ∧ a < 9223372036854775808) (n : Nat) (hn : n < 18446744073709551616) :
    Calls Try.prog 3 #[.int .i64 a, .int .u64 (n : Int)] w fun e w' => e = .returned (.bool true) ∧ w = w' := by
  obtain ⟨h0, h⟩ := ha
  have H1 := Lib.hid (zig_any a w h0 h)
  have H2 := Lib.hid (rzig_any a w h0 h)
  have H3 := Lib.hid (zag_any n w hn)
  have H4 := Lib.hid (rzag_any n w hn)
  have h5 := zag_any (zigN a) w (zigN_lt a h0 h)
  rw [zag_zig a h0 h] at h5
  have H5 := Lib.hid h5
  have h6 := zig_any (zagI n) w (zagI_lt n hn).1 (zagI_lt n hn).2
  rw [zig_zag n] at h6
  have H6 := Lib.hid h6
  clear h5 h6
  go_enter Try.func3, Try.ntmps3
  go_wp2_with (first
    | ((with_reducible refine H1.out.mono ?_); rintro e w' ⟨rfl, rfl⟩)
    | ((with_reducible refine H2.out.mono ?_); rintro e w' ⟨rfl, rfl⟩)
    | ((with_reducible refine H3.out.mono ?_); rintro e w' ⟨rfl, rfl⟩)
    | ((with_reducible refine H4.out.mono ?_); rintro e w' ⟨rfl, rfl⟩)
    | ((with_reducible refine H5.out.mono ?_); rintro e w' ⟨rfl, rfl⟩)
    | ((with_reducible refine H6.out.mono ?_); rintro e w' ⟨rfl, rfl⟩)
    | (go_at_call 10; refine (live_any _).mono ?_; rintro e w' ⟨rfl, rfl⟩))
  go_ret
  exact ⟨rfl, rfl⟩

theorem lows_walk (w : World) (a : Int) (ha : -9223372036854775808 ≤ a ∧ a < 9223372036854775808) (n : Nat) (hn : n < 18446744073709551616) :
    Calls Try.prog 4 #[.int .i64 a, .int .u64 (n : Int)] w fun e w' => e = .returned (.bool true) ∧ w = w' := by
  obtain ⟨h0, h⟩ := ha
  have H1 := Lib.hid (wide_any n w hn)
  have H2 := Lib.hid (rwide_any n w hn)
  obtain ⟨m, hm⟩ : ∃ m, m = (a % 4294967296).toNat := ⟨_, rfl⟩
  have h3 := low_any a w h0 h
  rw [← hm] at h3
  have H3 := Lib.hid h3
  clear h3
  have hm2 : m < 4294967296 := by omega
  have H4 := Lib.hid (fits_any a w h0 h)
  have H5 := Lib.hid (rfits_any a w)
  have H6 := Lib.hid (wide_any m w (by omega))
  have hw := wide_low a h0 h
  rw [← hm] at hw
  have g0 : (IntKind.u64.wrap a).tmod 4294967296 = (m : Int) := by
    rw [IntKind.wrap_u64, Int.tmod_eq_emod_of_nonneg (by omega)]; omega
  clear hm
  go_enter Try.func4, Try.ntmps4
  go_wp2_with (first
    | ((with_reducible refine H1.out.mono ?_); rintro e w' ⟨rfl, rfl⟩)
    | ((with_reducible refine H2.out.mono ?_); rintro e w' ⟨rfl, rfl⟩)
    | ((with_reducible refine H3.out.mono ?_); rintro e w' ⟨rfl, rfl⟩)
    | ((with_reducible refine H4.out.mono ?_); rintro e w' ⟨rfl, rfl⟩)
    | ((with_reducible refine H5.out.mono ?_); rintro e w' ⟨rfl, rfl⟩)
    | ((with_reducible refine H6.out.mono ?_); rintro e w' ⟨rfl, rfl⟩)
    | (go_at_call 10; refine (live_any _).mono ?_; rintro e w' ⟨rfl, rfl⟩))
  go_ret
  exact ⟨rfl, rfl⟩

theorem nears_walk (w : World) (a : Int) (ha : -9223372036854775808 ≤ a ∧ a < 9223372036854775808) (b : Int) (hb : -9223372036854775808 ≤ b ∧ b < 9223372036854775808) :
    Calls Try.prog 5 #[.int .i64 a, .int .i64 b] w fun e w' => e = .returned (.bool true) ∧ w = w' := by
  have H1 := Lib.hid (zig_any a w ha.1 ha.2)
  have H2 := Lib.hid (zig_any b w hb.1 hb.2)
  by_cases hr : (-4611686018427387904 ≤ a ∧ a ≤ 4611686018427387904) ∧ (-4611686018427387904 ≤ b ∧ b ≤ 4611686018427387904)
  · obtain ⟨⟨r1, r2⟩, r3, r4⟩ := hr
    by_cases hN : (a.natAbs : Int) < b.natAbs
    · have hz := zig_near a b hN
      go_enter Try.func5, Try.ntmps5
      go_wp2_with (first
        | (go_at_call 10; refine (live_any _).mono ?_; rintro e w' ⟨rfl, rfl⟩)
        | ((with_reducible refine H1.out.mono ?_); rintro e w' ⟨rfl, rfl⟩)
        | ((with_reducible refine H2.out.mono ?_); rintro e w' ⟨rfl, rfl⟩))
      all_goals go_ret
      all_goals exact ⟨rfl, rfl⟩
    · go_enter Try.func5, Try.ntmps5
      go_wp2_with (first
        | (go_at_call 10; refine (live_any _).mono ?_; rintro e w' ⟨rfl, rfl⟩)
        | ((with_reducible refine H1.out.mono ?_); rintro e w' ⟨rfl, rfl⟩)
        | ((with_reducible refine H2.out.mono ?_); rintro e w' ⟨rfl, rfl⟩))
      all_goals first | omega | skip
      all_goals go_ret
      all_goals exact ⟨rfl, rfl⟩
  · go_enter Try.func5, Try.ntmps5
    go_wp2_with (first
        | (go_at_call 10; refine (live_any _).mono ?_; rintro e w' ⟨rfl, rfl⟩)
        | ((with_reducible refine H1.out.mono ?_); rintro e w' ⟨rfl, rfl⟩)
        | ((with_reducible refine H2.out.mono ?_); rintro e w' ⟨rfl, rfl⟩))
    all_goals first | omega | skip
    all_goals go_ret
    all_goals exact ⟨rfl, rfl⟩
theorem quiet_below {k : Nat} {args : Array Value} {w : World} (h : Calls Try.prog k args w fun e w' => e = .returned (.bool true) ∧ w = w') :
    Calls Try.prog k args w fun e w' => e = .returned (.bool true) ∧ Below w.heap.size w w' :=
  h.mono fun e w' ⟨he, hw⟩ => ⟨he, hw ▸ Below.refl _ _⟩
theorem zags_law (w : World) (a : Int) (ha : -9223372036854775808 ≤ a ∧ a < 9223372036854775808) (n : Nat) (hn : n < 18446744073709551616) :
    Calls Try.prog 3 #[.int .i64 a, .int .u64 (n : Int)] w fun e w' => e = .returned (.bool true) ∧ Below w.heap.size w w' := quiet_below (zags_walk w a ha n hn)
theorem lows_law (w : World) (a : Int) (ha : -9223372036854775808 ≤ a ∧ a < 9223372036854775808) (n : Nat) (hn : n < 18446744073709551616) :
    Calls Try.prog 4 #[.int .i64 a, .int .u64 (n : Int)] w fun e w' => e = .returned (.bool true) ∧ Below w.heap.size w w' := quiet_below (lows_walk w a ha n hn)
theorem nears_law (w : World) (a : Int) (ha : -9223372036854775808 ≤ a ∧ a < 9223372036854775808) (b : Int) (hb : -9223372036854775808 ≤ b ∧ b < 9223372036854775808) :
    Calls Try.prog 5 #[.int .i64 a, .int .i64 b] w fun e w' => e = .returned (.bool true) ∧ Below w.heap.size w w' := quiet_below (nears_walk w a ha b hb)
end Go.Proofs.Ytjhholpmhjgpjaa
