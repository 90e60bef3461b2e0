/- The document's layer 13: split, Read, Conv, Digits. Conditions: those that each theorem names. -/
import Derived.Test.YtdenhfhdobcfiaaDoorRsB
import Derived.Test.YtdenhfhdobcfiaaDoorRlC
import Derived.Test.YtdenhfhdobcfiaaDoorConvMath
namespace Go.Proofs.YtdenhfhdobcfiaaDoor
open Go.RowKit
set_option linter.unusedVariables false
set_option maxRecDepth 100000

def pairV (r : Nat × Bool) : Value := .tuple #[.int .u64 (r.1 : Int), .bool r.2]
theorem u64_low (n : Nat) (h0 : 0 < n) (h : n < 18446744073709551616) : IntKind.u64.wrap (0 - (n : Int)) = ((18446744073709551616 - n : Nat) : Int) := by rw [IntKind.wrap_u64]; omega
theorem u64_low' (n : Nat) (h0 : 0 < n) (h : n < 18446744073709551616) : IntKind.u64.wrap (-(n : Int)) = ((18446744073709551616 - n : Nat) : Int) := by rw [IntKind.wrap_u64]; omega
theorem rcsplit_any (ty : Int) (n : Nat) (w : World) (hn : n < 18446744073709551616) : Calls Tryd.prog 19 #[.int .i64 ty, .int .u64 (n : Int)] w fun e w' => e = .returned (pairV (spT ty n)) ∧ w = w' := by
  have HS := Lib.hid (fun w => rssigned_any ty w)
  cases hs : signedT ty with
  | true =>
    rw [hs] at HS
    by_cases h : 9223372036854775808 ≤ n
    · have HO : Hid (spT ty n = (18446744073709551616 - n, true)) := Lib.hid (by unfold spT; rw [if_pos ⟨hs, h⟩])
      have g1 : decide ((n : Int) ≥ 9223372036854775808) = true := decide_eq_true (by omega)
      have g2 : (9223372036854775808 : Int) ≤ (n : Int) := by omega
      have hw := u64_low n (by omega) hn
      have hw' := u64_low' n (by omega) hn
      clear hs h
      go_enter Tryd.func19, Tryd.ntmps19
      go_wp2_with (go_at_call 21; refine (HS.out _).mono ?_; rintro e w2 ⟨rfl, rfl⟩)
      go_ret2
      exact ⟨by rw [HO.out]; rfl, rfl⟩
    · have HO : Hid (spT ty n = (n, false)) := Lib.hid (by unfold spT; rw [if_neg (fun e => h e.2)])
      have g1 : decide ((n : Int) ≥ 9223372036854775808) = false := decide_eq_false (by omega)
      have g2 : ¬ (9223372036854775808 : Int) ≤ (n : Int) := by omega
      clear hs h
      go_enter Tryd.func19, Tryd.ntmps19
      go_wp2_with (go_at_call 21; refine (HS.out _).mono ?_; rintro e w2 ⟨rfl, rfl⟩)
      go_ret2
      exact ⟨by rw [HO.out]; rfl, rfl⟩
  | false =>
    rw [hs] at HS
    have HO : Hid (spT ty n = (n, false)) := Lib.hid (by unfold spT; rw [if_neg (fun e => by rw [hs] at e; cases e.1)])
    clear hs
    go_enter Tryd.func19, Tryd.ntmps19
    go_wp2_with (go_at_call 21; refine (HS.out _).mono ?_; rintro e w2 ⟨rfl, rfl⟩)
    go_ret2
    exact ⟨by rw [HO.out]; rfl, rfl⟩

set_option maxHeartbeats 4000000 in
theorem rcread_any (ty : Int) (n : Nat) (neg : Bool) (w : World) (hn : n < 18446744073709551616) : Calls Tryd.prog 12 #[.int .i64 ty, .int .u64 (n : Int), .bool neg] w fun e w' => e = .returned (pairV (readT ty n neg)) ∧ w = w' := by
  have HW := Lib.hid (fun w => rswhole_any ty w)
  have HS := Lib.hid (fun w => rssigned_any ty w)
  have HO := Lib.hid (rfl : readT ty n neg = readT ty n neg)
  conv at HO => arg 1; rhs; unfold readT
  cases hwh : wholeT ty with
  | false =>
    rw [hwh] at HW
    rw [if_neg (by rw [hwh]; decide)] at HO
    clear hwh
    go_enter Tryd.func12, Tryd.ntmps12
    go_wp2_with (go_at_call 15; refine (HW.out _).mono ?_; rintro e w2 ⟨rfl, rfl⟩)
    go_ret2
    exact ⟨by rw [HO.out]; rfl, rfl⟩
  | true =>
    rw [hwh] at HW
    rw [if_pos hwh] at HO
    clear hwh
    by_cases h0 : neg = true ∧ 0 < n
    · rw [if_pos h0] at HO
      obtain ⟨rfl, hp⟩ := h0
      have g1 : decide ((n : Int) > 0) = true := decide_eq_true (by omega)
      have g2 : decide (0 < n) = true := decide_eq_true hp
      cases hs : signedT ty with
      | false =>
        rw [hs] at HS
        rw [if_neg (by rw [hs]; simp)] at HO
        clear hs
        go_enter Tryd.func12, Tryd.ntmps12
        go_wp2_with (first
          | (go_at_call 15; refine (HW.out _).mono ?_; rintro e w2 ⟨rfl, rfl⟩)
          | (go_at_call 21; refine (HS.out _).mono ?_; rintro e w2 ⟨rfl, rfl⟩))
        go_ret2
        exact ⟨by rw [HO.out]; rfl, rfl⟩
      | true =>
        rw [hs] at HS
        by_cases hb : n ≤ 9223372036854775808
        · rw [if_pos ⟨hs, hb⟩] at HO
          have g3 : decide ((n : Int) > 9223372036854775808) = false := decide_eq_false (by omega)
          have g4 : ¬ (9223372036854775808 : Int) < (n : Int) := by omega
          have hw := u64_low n hp hn
          have hw' := u64_low' n hp hn
          have HM := Lib.hid (fun w => rsmay_any ty (18446744073709551616 - n) w (by omega))
          cases hm : mayT ty (18446744073709551616 - n) with
          | true =>
            rw [hm] at HM
            rw [if_pos hm] at HO
            clear hs hm
            go_enter Tryd.func12, Tryd.ntmps12
            go_wp2_with (first
              | (go_at_call 15; refine (HW.out _).mono ?_; rintro e w2 ⟨rfl, rfl⟩)
              | (go_at_call 9; refine (HM.out _).mono ?_; rintro e w2 ⟨rfl, rfl⟩)
              | (go_at_call 21; refine (HS.out _).mono ?_; rintro e w2 ⟨rfl, rfl⟩))
            go_ret2
            exact ⟨by rw [HO.out]; rfl, rfl⟩
          | false =>
            rw [hm] at HM
            rw [if_neg (by rw [hm]; decide)] at HO
            clear hs hm
            go_enter Tryd.func12, Tryd.ntmps12
            go_wp2_with (first
              | (go_at_call 15; refine (HW.out _).mono ?_; rintro e w2 ⟨rfl, rfl⟩)
              | (go_at_call 9; refine (HM.out _).mono ?_; rintro e w2 ⟨rfl, rfl⟩)
              | (go_at_call 21; refine (HS.out _).mono ?_; rintro e w2 ⟨rfl, rfl⟩))
            go_ret2
            exact ⟨by rw [HO.out]; rfl, rfl⟩
        · rw [if_neg (fun e => hb e.2)] at HO
          have g3 : decide ((n : Int) > 9223372036854775808) = true := decide_eq_true (by omega)
          have g4 : (9223372036854775808 : Int) < (n : Int) := by omega
          clear hs
          go_enter Tryd.func12, Tryd.ntmps12
          go_wp2_with (first
            | (go_at_call 15; refine (HW.out _).mono ?_; rintro e w2 ⟨rfl, rfl⟩)
            | (go_at_call 21; refine (HS.out _).mono ?_; rintro e w2 ⟨rfl, rfl⟩))
          go_ret2
          exact ⟨by rw [HO.out]; rfl, rfl⟩
    · rw [if_neg h0] at HO
      have HM := Lib.hid (fun w => rsmay_any ty n w hn)
      have hcase : (neg = true ∧ n = 0) ∨ neg = false := by
        cases neg with
        | false => exact .inr rfl
        | true => exact .inl ⟨rfl, by rcases Nat.eq_zero_or_pos n with e | e; exact e; exact absurd ⟨rfl, e⟩ h0⟩
      by_cases hsb : signedT ty = true ∧ 9223372036854775808 ≤ n
      · rw [if_pos hsb] at HO
        obtain ⟨hs, hb⟩ := hsb
        rw [hs] at HS
        have g1 : decide ((n : Int) ≥ 9223372036854775808) = true := decide_eq_true (by omega)
        have g2 : (9223372036854775808 : Int) ≤ (n : Int) := by omega
        obtain rfl : neg = false := by rcases hcase with ⟨_, e⟩ | e; omega; exact e
        clear hs hcase h0
        go_enter Tryd.func12, Tryd.ntmps12
        go_wp2_with (first
          | (go_at_call 15; refine (HW.out _).mono ?_; rintro e w2 ⟨rfl, rfl⟩)
          | (go_at_call 21; refine (HS.out _).mono ?_; rintro e w2 ⟨rfl, rfl⟩))
        go_ret2
        exact ⟨by rw [HO.out]; rfl, rfl⟩
      · rw [if_neg hsb] at HO
        have hsc : signedT ty = false ∨ (signedT ty = true ∧ decide ((n : Int) ≥ 9223372036854775808) = false ∧ ¬ (9223372036854775808 : Int) ≤ (n : Int)) := by
          cases hs : signedT ty with
          | false => exact .inl rfl
          | true => exact .inr ⟨rfl, decide_eq_false (fun e => hsb ⟨hs, by omega⟩), fun e => hsb ⟨hs, by omega⟩⟩
        clear hsb h0
        cases hm : mayT ty n
        all_goals
          rw [hm] at HM
          rcases hcase with ⟨rfl, rfl⟩ | rfl
        all_goals
          rcases hsc with hs | ⟨hs, g1, g2⟩
        all_goals
          rw [hs] at HS
          first | rw [if_pos hm] at HO | rw [if_neg (by rw [hm]; decide)] at HO
          clear hs hm
          go_enter Tryd.func12, Tryd.ntmps12
          go_wp2_with (first
            | (go_at_call 15; refine (HW.out _).mono ?_; rintro e w2 ⟨rfl, rfl⟩)
            | (go_at_call 9; refine (HM.out _).mono ?_; rintro e w2 ⟨rfl, rfl⟩)
            | (go_at_call 21; refine (HS.out _).mono ?_; rintro e w2 ⟨rfl, rfl⟩))
          go_ret2
          exact ⟨by rw [HO.out]; rfl, rfl⟩

theorem rcconv_any (a b : Int) (n : Nat) (w : World) (hn : n < 18446744073709551616) : Calls Tryd.prog 8 #[.int .i64 a, .int .i64 b, .int .u64 (n : Int)] w fun e w' => e = .returned (pairV (convT a b n)) ∧ w = w' := by
  have HW := Lib.hid (fun w => rswhole_any a w)
  have HM := Lib.hid (fun w => rsmay_any a n w hn)
  have HSP := Lib.hid (fun w => rcsplit_any a n w hn)
  have HRD := Lib.hid (fun w => rcread_any b (spT a n).1 (spT a n).2 w (spT_lt a n hn))
  have HO : Hid (convT a b n = if wholeT a = true ∧ mayT a n = true then readT b (spT a n).1 (spT a n).2 else (0, false)) := Lib.hid rfl
  obtain ⟨⟨sm, sg⟩, hsp⟩ : ∃ s, s = spT a n := ⟨_, rfl⟩
  rw [← hsp] at HSP HRD HO
  unfold pairV at HSP
  dsimp only at HSP HRD HO
  obtain ⟨R, hR⟩ : ∃ R, R = readT b sm sg := ⟨_, rfl⟩
  rw [← hR] at HRD HO
  clear hsp hR
  cases hwh : wholeT a with
  | false =>
    rw [hwh] at HW HO
    rw [if_neg (by simp)] at HO
    go_enter Tryd.func8, Tryd.ntmps8
    go_wp2_with (go_at_call 15; refine (HW.out _).mono ?_; rintro e w2 ⟨rfl, rfl⟩)
    go_ret2
    exact ⟨by rw [HO.out]; rfl, rfl⟩
  | true =>
    rw [hwh] at HW HO
    cases hm : mayT a n with
    | false =>
      rw [hm] at HM HO
      rw [if_neg (by simp)] at HO
      go_enter Tryd.func8, Tryd.ntmps8
      go_wp2_with (first
        | (go_at_call 15; refine (HW.out _).mono ?_; rintro e w2 ⟨rfl, rfl⟩)
        | (go_at_call 9; refine (HM.out _).mono ?_; rintro e w2 ⟨rfl, rfl⟩))
      go_ret2
      exact ⟨by rw [HO.out]; rfl, rfl⟩
    | true =>
      rw [hm] at HM HO
      rw [if_pos ⟨rfl, rfl⟩] at HO
      unfold pairV at HRD
      go_enter Tryd.func8, Tryd.ntmps8
      go_wp2_with (first
        | (go_at_call 15; refine (HW.out _).mono ?_; rintro e w2 ⟨rfl, rfl⟩)
        | (go_at_call 9; refine (HM.out _).mono ?_; rintro e w2 ⟨rfl, rfl⟩)
        | (go_at_call 19; refine (HSP.out _).mono ?_; rintro e w2 ⟨rfl, rfl⟩)
        | (go_at_call 12; refine (HRD.out _).mono ?_; rintro e w2 ⟨rfl, rfl⟩))
      go_ret2
      exact ⟨by rw [HO.out]; rfl, rfl⟩

theorem rcdigits_any (ty : Int) (n : Nat) (w : World) (hn : n < 18446744073709551616) : Calls Tryd.prog 14 #[.int .i64 ty, .int .u64 (n : Int)] w fun e w' => e = .returned (.string (strOf (cdigT ty n))) ∧ Below w.heap.size w w' := by
  have HW := Lib.hid (fun w => rswhole_any ty w)
  have HM := Lib.hid (fun w => rsmay_any ty n w hn)
  have HSP := Lib.hid (fun w => rcsplit_any ty n w hn)
  have HDG := Lib.hid (fun w => rldigits_any (spT ty n).1 (spT ty n).2 w (spT_lt ty n hn))
  have HO : Hid (cdigT ty n = if wholeT ty = true ∧ mayT ty n = true then digitsT (spT ty n).1 (spT ty n).2 else []) := Lib.hid rfl
  obtain ⟨⟨sm, sg⟩, hsp⟩ : ∃ s, s = spT ty n := ⟨_, rfl⟩
  rw [← hsp] at HSP HDG HO
  unfold pairV at HSP
  dsimp only at HSP HDG HO
  obtain ⟨ds, hds⟩ : ∃ ds, ds = strOf (digitsT sm sg) := ⟨_, rfl⟩
  rw [← hds] at HDG
  have HDS := Lib.hid hds
  clear hsp hds
  cases hwh : wholeT ty with
  | false =>
    rw [hwh] at HW HO
    rw [if_neg (by simp)] at HO
    go_enter Tryd.func14, Tryd.ntmps14
    go_wp2_with (go_at_call 15; refine (HW.out _).mono ?_; rintro e w2 ⟨rfl, rfl⟩)
    go_ret
    exact ⟨by rw [HO.out]; rfl, Below.refl _ _⟩
  | true =>
    rw [hwh] at HW HO
    cases hm : mayT ty n with
    | false =>
      rw [hm] at HM HO
      rw [if_neg (by simp)] at HO
      go_enter Tryd.func14, Tryd.ntmps14
      go_wp2_with (first
        | (go_at_call 15; refine (HW.out _).mono ?_; rintro e w2 ⟨rfl, rfl⟩)
        | (go_at_call 9; refine (HM.out _).mono ?_; rintro e w2 ⟨rfl, rfl⟩))
      go_ret
      exact ⟨by rw [HO.out]; rfl, Below.refl _ _⟩
    | true =>
      rw [hm] at HM HO
      rw [if_pos ⟨rfl, rfl⟩] at HO
      go_enter Tryd.func14, Tryd.ntmps14
      go_wp2_with (first
        | (go_at_call 15; refine (HW.out _).mono ?_; rintro e w2 ⟨rfl, rfl⟩)
        | (go_at_call 9; refine (HM.out _).mono ?_; rintro e w2 ⟨rfl, rfl⟩)
        | (go_at_call 19; refine (HSP.out _).mono ?_; rintro e w2 ⟨rfl, rfl⟩)
        | (go_at_call 24; refine (HDG.out _).mono ?_; rintro e w2 ⟨rfl, hb⟩))
      go_ret
      exact ⟨by rw [HO.out, ← HDS.out]; rfl, hb⟩
end Go.Proofs.YtdenhfhdobcfiaaDoor
