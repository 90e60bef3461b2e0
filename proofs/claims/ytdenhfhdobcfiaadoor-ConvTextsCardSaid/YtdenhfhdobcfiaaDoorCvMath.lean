/- Layer 13 as the program has it, in plain words: kinds of numbers, and that they are what the document says. Conditions: those that each theorem names. -/
import Derived.Test.YtdenhfhdobcfiaaDoorConvMath
namespace Go.Proofs.YtdenhfhdobcfiaaDoor
open Go.RowKit
set_option linter.unusedVariables false

/-- The kind of a value: whole at all, below 0. -/
def kT (ty : Int) (n : Nat) : Bool × Bool := if wholeT ty = true ∧ mayT ty n = true then (true, signedT ty && decide (9223372036854775808 ≤ n)) else (false, false)
def asT (ty : Int) (n : Nat) (k : Bool × Bool) : Nat × Bool := if k.1 = true ∧ kT ty n = k then (n, true) else (0, false)
def negN (n : Nat) : Nat := (18446744073709551616 - n) % 18446744073709551616

theorem kT_none {ty : Int} {n : Nat} (h : ¬ (wholeT ty = true ∧ mayT ty n = true)) : kT ty n = (false, false) := by unfold kT; rw [if_neg h]
theorem kT_some {ty : Int} {n : Nat} (h : wholeT ty = true ∧ mayT ty n = true) : kT ty n = (true, signedT ty && decide (9223372036854775808 ≤ n)) := by unfold kT; rw [if_pos h]
theorem asT_eq (ty : Int) (n : Nat) (b : Bool) : asT ty n (true, b) = if wholeT ty = true ∧ mayT ty n = true ∧ (signedT ty && decide (9223372036854775808 ≤ n)) = b then (n, true) else (0, false) := by
  unfold asT
  by_cases h : wholeT ty = true ∧ mayT ty n = true
  · rw [kT_some h]
    by_cases hb : (signedT ty && decide (9223372036854775808 ≤ n)) = b
    · rw [if_pos ⟨rfl, by rw [hb]⟩, if_pos ⟨h.1, h.2, hb⟩]
    · rw [if_neg (fun e => hb (by injection e.2)), if_neg (fun e => hb e.2.2)]
  · rw [kT_none h, if_neg (fun e => by cases e.2), if_neg (fun e => h ⟨e.1, e.2.1⟩)]
theorem read_as (ty : Int) (n : Nat) (neg : Bool) (hn : n < 18446744073709551616) : readT ty n neg = asT ty (if neg = true then negN n else n) (true, neg && decide (0 < n)) := by
  rw [asT_eq]
  unfold readT negN
  by_cases hw : wholeT ty = true
  · rw [if_pos hw]
    by_cases h1 : neg = true ∧ 0 < n
    · obtain ⟨rfl, hp⟩ := h1
      rw [if_pos ⟨rfl, hp⟩, if_pos rfl, decide_eq_true hp, Nat.mod_eq_of_lt (by omega), Bool.and_self]
      by_cases h2 : signedT ty = true ∧ n ≤ 9223372036854775808
      · rw [if_pos h2]
        by_cases h3 : mayT ty (18446744073709551616 - n) = true
        · rw [if_pos h3, if_pos ⟨hw, h3, by rw [h2.1, decide_eq_true (by omega)]; rfl⟩]
        · rw [if_neg h3, if_neg (fun e => h3 e.2.1)]
      · rw [if_neg h2, if_neg (fun e => h2 (by
          have := e.2.2
          rw [Bool.and_eq_true, decide_eq_true_eq] at this
          exact ⟨this.1, by omega⟩))]
    · rw [if_neg h1]
      have e1 : (neg && decide (0 < n)) = false := by
        cases neg with
        | false => rfl
        | true => rw [decide_eq_false (fun e => h1 ⟨rfl, e⟩)]; rfl
      have e2 : (if neg = true then (18446744073709551616 - n) % 18446744073709551616 else n) = n := by
        cases neg with
        | false => rfl
        | true =>
          have h0 : n = 0 := by
            rcases Nat.eq_zero_or_pos n with e | e
            · exact e
            · exact absurd ⟨rfl, e⟩ h1
          rw [if_pos rfl, h0]
      rw [e1, e2]
      by_cases h2 : signedT ty = true ∧ 9223372036854775808 ≤ n
      · rw [if_pos h2, if_neg (fun e => by have := e.2.2; rw [h2.1, decide_eq_true h2.2] at this; cases this)]
      · rw [if_neg h2]
        by_cases h3 : mayT ty n = true
        · rw [if_pos h3, if_pos ⟨hw, h3, by
            cases hs : signedT ty with
            | false => rfl
            | true => rw [decide_eq_false (fun e => h2 ⟨hs, e⟩)]; rfl⟩]
        · rw [if_neg h3, if_neg (fun e => h3 e.2.1)]
  · rw [if_neg hw, if_neg (fun e => hw e.1)]
theorem conv_as (a b : Int) (n : Nat) (hn : n < 18446744073709551616) : convT a b n = asT b n (kT a n) := by
  unfold convT
  by_cases h : wholeT a = true ∧ mayT a n = true
  · rw [if_pos h, kT_some h]
    unfold spT
    by_cases hs : signedT a = true ∧ 9223372036854775808 ≤ n
    · rw [if_pos hs, hs.1, decide_eq_true hs.2, read_as _ _ _ (by show 18446744073709551616 - n < _; omega)]
      show asT b (if true = true then negN (18446744073709551616 - n) else _) (true, true && decide (0 < 18446744073709551616 - n)) = _
      rw [if_pos rfl, decide_eq_true (by omega)]
      unfold negN
      rw [show (18446744073709551616 - (18446744073709551616 - n)) % 18446744073709551616 = n by omega]
    · rw [if_neg hs, read_as _ _ _ hn, if_neg (show ¬ ((n, false) : Nat × Bool).2 = true from fun e => by cases e), Bool.false_and]
      rw [show (signedT a && decide (9223372036854775808 ≤ n)) = false by
        cases hc : signedT a with
        | false => rfl
        | true => rw [decide_eq_false (fun e => hs ⟨hc, e⟩)]; rfl]
  · rw [if_neg h, kT_none h]
    unfold asT
    rw [if_neg (fun e => by cases e.1)]
theorem cdig_k (ty : Int) (n : Nat) (hn : n < 18446744073709551616) : cdigT ty n = if (kT ty n).1 = true then digitsT (if (kT ty n).2 = true then negN n else n) (kT ty n).2 else [] := by
  by_cases h : wholeT ty = true ∧ mayT ty n = true
  · rw [cdigT_some h, kT_some h, if_pos rfl]
    unfold spT negN
    by_cases hs : signedT ty = true ∧ 9223372036854775808 ≤ n
    · rw [if_pos hs, hs.1, decide_eq_true hs.2]
      show digitsT (18446744073709551616 - n) true = digitsT (if true = true then _ else _) true
      rw [if_pos rfl, Nat.mod_eq_of_lt (by omega)]
    · rw [if_neg hs, show (signedT ty && decide (9223372036854775808 ≤ n)) = false by
        cases hc : signedT ty with
        | false => rfl
        | true => rw [decide_eq_false (fun e => hs ⟨hc, e⟩)]; rfl]
      rfl
  · rw [cdigT_none h, kT_none h, if_neg (by decide)]
end Go.Proofs.YtdenhfhdobcfiaaDoor
