/- Layer 13 in plain words (no program here): a value's number, the value whose number it is, and how values go from type to type. -/
import Derived.Test.YtdenhfhdobcfiaaDoorNumMath
import Derived.Test.YtdenhfhdobcfiaaDoorLexMath
namespace Go.Proofs.YtdenhfhdobcfiaaDoor
open Go.RowKit
set_option linter.unusedVariables false

/-- A value's number. -/
def vOf (ty : Int) (n : Nat) : Int := if signedT ty = true ∧ 9223372036854775808 ≤ n then (n : Int) - 18446744073709551616 else (n : Int)
/-- It without its minus, and whether it has one. -/
def spT (ty : Int) (n : Nat) : Nat × Bool := if signedT ty = true ∧ 9223372036854775808 ≤ n then (18446744073709551616 - n, true) else (n, false)
def readT (ty : Int) (n : Nat) (neg : Bool) : Nat × Bool :=
  if wholeT ty = true then
    (if neg = true ∧ 0 < n then (if signedT ty = true ∧ n ≤ 9223372036854775808 then (if mayT ty (18446744073709551616 - n) = true then (18446744073709551616 - n, true) else (0, false)) else (0, false))
     else if signedT ty = true ∧ 9223372036854775808 ≤ n then (0, false) else if mayT ty n = true then (n, true) else (0, false))
  else (0, false)
def convT (a b : Int) (n : Nat) : Nat × Bool := if wholeT a = true ∧ mayT a n = true then readT b (spT a n).1 (spT a n).2 else (0, false)
def cdigT (ty : Int) (n : Nat) : List UInt8 := if wholeT ty = true ∧ mayT ty n = true then digitsT (spT ty n).1 (spT ty n).2 else []

theorem spT_v (ty : Int) (n : Nat) (h : n < 18446744073709551616) : spT ty n = ((vOf ty n).natAbs, decide (vOf ty n < 0)) := by
  unfold spT vOf
  by_cases hs : signedT ty = true ∧ 9223372036854775808 ≤ n
  · rw [if_pos hs, if_pos hs, decide_eq_true (by omega), show ((n : Int) - 18446744073709551616).natAbs = 18446744073709551616 - n by omega]
  · rw [if_neg hs, if_neg hs, decide_eq_false (by omega)]; rfl
theorem spT_lt (ty : Int) (n : Nat) (h : n < 18446744073709551616) : (spT ty n).1 < 18446744073709551616 := by
  unfold spT
  split
  · rename_i hs; show 18446744073709551616 - n < _; omega
  · exact h
theorem spT_pos (ty : Int) (n : Nat) (h : n < 18446744073709551616) (hn : (spT ty n).2 = true) : 0 < (spT ty n).1 ∧ (spT ty n).1 ≤ 9223372036854775808 := by
  unfold spT at *
  split at hn
  · rename_i hs; rw [if_pos hs]; show 0 < 18446744073709551616 - n ∧ 18446744073709551616 - n ≤ _; omega
  · cases hn
theorem readT_sound {ty : Int} {n m : Nat} {neg : Bool} (hn : n < 18446744073709551616) (h : readT ty n neg = (m, true)) :
    wholeT ty = true ∧ mayT ty m = true ∧ m < 18446744073709551616 ∧ vOf ty m = if neg = true then -(n : Int) else (n : Int) := by
  unfold readT at h
  by_cases hw : wholeT ty = true
  · rw [if_pos hw] at h
    refine ⟨hw, ?_⟩
    by_cases h1 : neg = true ∧ 0 < n
    · rw [if_pos h1] at h
      by_cases h2 : signedT ty = true ∧ n ≤ 9223372036854775808
      · rw [if_pos h2] at h
        by_cases h3 : mayT ty (18446744073709551616 - n) = true
        · rw [if_pos h3] at h
          cases h
          refine ⟨h3, by omega, ?_⟩
          unfold vOf
          rw [if_pos ⟨h2.1, by omega⟩, if_pos h1.1]
          omega
        · rw [if_neg h3] at h; cases h
      · rw [if_neg h2] at h; cases h
    · rw [if_neg h1] at h
      by_cases h2 : signedT ty = true ∧ 9223372036854775808 ≤ n
      · rw [if_pos h2] at h; cases h
      · rw [if_neg h2] at h
        by_cases h3 : mayT ty n = true
        · rw [if_pos h3] at h
          cases h
          refine ⟨h3, hn, ?_⟩
          unfold vOf
          rw [if_neg h2]
          by_cases hg : neg = true
          · have : n = 0 := by
              rcases Nat.eq_zero_or_pos n with e | e
              · exact e
              · exact absurd ⟨hg, e⟩ h1
            rw [if_pos hg, this]; rfl
          · rw [if_neg hg]
        · rw [if_neg h3] at h; cases h
  · rw [if_neg hw] at h; cases h
theorem readT_back {ty : Int} {m : Nat} (hw : wholeT ty = true) (hm : mayT ty m = true) (h : m < 18446744073709551616) : readT ty (spT ty m).1 (spT ty m).2 = (m, true) := by
  unfold spT
  by_cases hs : signedT ty = true ∧ 9223372036854775808 ≤ m
  · rw [if_pos hs]
    show readT ty (18446744073709551616 - m) true = _
    unfold readT
    rw [if_pos hw, if_pos ⟨rfl, by omega⟩, if_pos ⟨hs.1, by omega⟩, show 18446744073709551616 - (18446744073709551616 - m) = m by omega, if_pos hm]
  · rw [if_neg hs]
    show readT ty m false = _
    unfold readT
    rw [if_pos hw, if_neg (by simp), if_neg hs, if_pos hm]
theorem spT_same {a b : Int} {n m : Nat} (hn : n < 18446744073709551616) (hm : m < 18446744073709551616) (h : vOf b m = vOf a n) : spT b m = spT a n := by
  rw [spT_v b m hm, spT_v a n hn, h]
theorem spT_val (ty : Int) (n : Nat) (hn : n < 18446744073709551616) : (if (spT ty n).2 = true then -((spT ty n).1 : Int) else ((spT ty n).1 : Int)) = vOf ty n := by
  rw [spT_v ty n hn]
  dsimp only
  by_cases h : vOf ty n < 0
  · rw [decide_eq_true h, if_pos rfl]; omega
  · rw [decide_eq_false h, if_neg (by decide)]; omega
theorem conv_parts {a b : Int} {n m : Nat} (hn : n < 18446744073709551616) (h : convT a b n = (m, true)) :
    wholeT a = true ∧ mayT a n = true ∧ wholeT b = true ∧ mayT b m = true ∧ m < 18446744073709551616 ∧ spT b m = spT a n := by
  unfold convT at h
  by_cases hw : wholeT a = true ∧ mayT a n = true
  · rw [if_pos hw] at h
    obtain ⟨h1, h2, h3, h4⟩ := readT_sound (spT_lt a n hn) h
    rw [spT_val a n hn] at h4
    exact ⟨hw.1, hw.2, h1, h2, h3, spT_same hn h3 h4⟩
  · rw [if_neg hw] at h; cases h
/-- There and back. -/
theorem conv_back {a b : Int} {n m : Nat} (hn : n < 18446744073709551616) (h : convT a b n = (m, true)) : mayT b m = true ∧ convT b a m = (n, true) := by
  obtain ⟨h1, h2, h3, h4, h5, h6⟩ := conv_parts hn h
  refine ⟨h4, ?_⟩
  unfold convT
  rw [if_pos ⟨h3, h4⟩, h6]
  exact readT_back h1 h2 hn
/-- By a third type on the way. -/
theorem conv_ways {a b c : Int} {n x y : Nat} (hn : n < 18446744073709551616) (h : convT a b n = (x, true)) (h' : convT b c x = (y, true)) : convT a c n = (y, true) := by
  obtain ⟨h1, h2, h3, h4, h5, h6⟩ := conv_parts hn h
  unfold convT at h' ⊢
  rw [if_pos ⟨h3, h4⟩, h6] at h'
  rw [if_pos ⟨h1, h2⟩]
  exact h'
theorem conv_lt {a b : Int} {n m : Nat} (hn : n < 18446744073709551616) {ok : Bool} (h : convT a b n = (m, ok)) : m < 18446744073709551616 := by
  cases ok with
  | true => exact (conv_parts hn h).2.2.2.2.1
  | false =>
    have e : convT a b n = (0, false) := by
      unfold convT at h ⊢
      by_cases hw : wholeT a = true ∧ mayT a n = true
      · rw [if_pos hw] at h ⊢
        unfold readT at h ⊢
        revert h
        repeat' split
        all_goals first | (intro h; rfl) | (intro h; cases h)
      · rw [if_neg hw]
    rw [e] at h
    cases h
    decide
/-- A value's digits are read as it. -/
theorem conv_digits {ty : Int} {n : Nat} (hn : n < 18446744073709551616) (hw : wholeT ty = true) (hm : mayT ty n = true) : readT ty (spT ty n).1 ((spT ty n).2 && decide (0 < (spT ty n).1)) = (n, true) := by
  have h := readT_back hw hm hn
  cases hs : (spT ty n).2 with
  | true => rw [decide_eq_true (spT_pos ty n hn hs).1, Bool.true_and]; rw [hs] at h; exact h
  | false => rw [hs] at h; exact h
theorem digitsT_some (n : Nat) (neg : Bool) : digitsT n neg ≠ [] := by
  unfold digitsT
  split
  · simp
  · rename_i h0
    split
    · simp
    · rw [decOf_pos h0]; simp
theorem cdigT_some {ty : Int} {n : Nat} (h : wholeT ty = true ∧ mayT ty n = true) : cdigT ty n = digitsT (spT ty n).1 (spT ty n).2 := by unfold cdigT; rw [if_pos h]
theorem cdigT_none {ty : Int} {n : Nat} (h : ¬ (wholeT ty = true ∧ mayT ty n = true)) : cdigT ty n = [] := by unfold cdigT; rw [if_neg h]
end Go.Proofs.YtdenhfhdobcfiaaDoor
