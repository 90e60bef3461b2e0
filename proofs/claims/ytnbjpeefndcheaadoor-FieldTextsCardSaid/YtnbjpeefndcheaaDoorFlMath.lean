/- Layer 14 in plain words (no program here): which fields may be, which are packed, which hidden, and their texts. -/
import Derived.Test.YtnbjpeefndcheaaDoorScMath
import Derived.Test.YtnbjpeefndcheaaDoorLexMath
import Derived.Test.YtnbjpeefndcheaaDoorRiC
import Derived.Test.YtnbjpeefndcheaaDoorTagMath
namespace Go.Proofs.YtnbjpeefndcheaaDoor
open Go.RowKit
set_option linter.unusedVariables false

structure Fd where
  name : List UInt8
  num : Int
  ty : Int
  ref : List UInt8
  rep : Bool
  loose : Bool
  one : List UInt8
/-- As a value, and as a datum. -/
def fdV (f : Fd) : Value := .agg #[.string (strOf f.name), .int .i64 f.num, .int .i64 f.ty, .string (strOf f.ref), .bool f.rep, .bool f.loose, .string (strOf f.one)]
def fdD {H : Type} (f : Fd) : DataW H := .agg [.lit (.string f.name), .lit (.int .i64 f.num), .lit (.int .i64 f.ty), .lit (.string f.ref), .lit (.bool f.rep), .lit (.bool f.loose), .lit (.string f.one)]
def fc1 (f : Fd) : Bool := !nameB f.name || (decide (f.one ≠ []) && !nameB f.one)
def fc2 (f : Fd) : Bool := if f.ty = 14 ∨ f.ty = 15 then !nameB f.ref else decide (f.ref ≠ [])
def fc3 (f : Fd) : Bool := !fieldB f.num || (decide (f.ty < 1) || (decide (15 < f.ty) || (f.rep && decide (f.one ≠ []))))
def fc4 (f : Fd) : Bool := f.loose && (!f.rep || !numberT f.ty)
def fcheckT (f : Fd) : Int := if fc1 f = true then 2 else if fc2 f = true then 2 else if fc3 f = true then 1 else if fc4 f = true then 1 else 0
def packedT (f : Fd) : Bool := f.rep && (numberT f.ty && !f.loose)
def hiddenT (f : Fd) : Bool := !f.rep && (decide (f.one = []) && decide (f.ty ≠ 15))
def ftextB (f : Fd) : List UInt8 := wordT f.ty ++ f.ref ++ [32] ++ f.name ++ [32, 61, 32] ++ digitsT f.num.toNat false ++ [59]
def ftextT (f : Fd) : List UInt8 :=
  if fcheckT f = 0 then (if f.loose = true then [108, 111, 111, 115, 101, 32] ++ ftextB f else if f.rep = true then [114, 101, 112, 101, 97, 116, 101, 100, 32] ++ ftextB f else ftextB f) else []

theorem not_both (f : Fd) : (packedT f && hiddenT f) = false := by
  unfold packedT hiddenT
  cases f.rep <;> simp
/-- What may be. -/
theorem fcheck_ok {f : Fd} (h : fcheckT f = 0) : nameB f.name = true ∧ (f.one = [] ∨ nameB f.one = true) ∧ ((f.ty = 14 ∨ f.ty = 15) ∧ nameB f.ref = true ∨ ¬ (f.ty = 14 ∨ f.ty = 15) ∧ f.ref = []) ∧
    fieldB f.num = true ∧ 1 ≤ f.ty ∧ f.ty ≤ 15 ∧ (f.rep = false ∨ f.one = []) ∧ (f.loose = false ∨ (f.rep = true ∧ numberT f.ty = true)) := by
  unfold fcheckT at h
  by_cases h1 : fc1 f = true
  · rw [if_pos h1] at h; exact absurd h (by decide)
  rw [if_neg h1] at h
  by_cases h2 : fc2 f = true
  · rw [if_pos h2] at h; exact absurd h (by decide)
  rw [if_neg h2] at h
  by_cases h3 : fc3 f = true
  · rw [if_pos h3] at h; exact absurd h (by decide)
  rw [if_neg h3] at h
  by_cases h4 : fc4 f = true
  · rw [if_pos h4] at h; exact absurd h (by decide)
  unfold fc1 at h1
  unfold fc2 at h2
  unfold fc3 at h3
  unfold fc4 at h4
  simp at h1 h3 h4
  refine ⟨h1.1, ?_, ?_, h3.1, by omega, by omega, ?_, ?_⟩
  · by_cases e : f.one = []
    · exact .inl e
    · exact .inr (h1.2 e)
  · by_cases e : f.ty = 14 ∨ f.ty = 15
    · rw [if_pos e] at h2; exact .inl ⟨e, by simpa using h2⟩
    · rw [if_neg e] at h2; exact .inr ⟨e, by simpa using h2⟩
  · cases hr : f.rep
    · exact .inl rfl
    · exact .inr (h3.2.2.2 hr)
  · cases hl : f.loose
    · exact .inl rfl
    · exact .inr (h4 hl)
theorem fcheck_of {f : Fd} (h1 : nameB f.name = true) (h2 : f.one = [] ∨ nameB f.one = true) (h3 : (f.ty = 14 ∨ f.ty = 15) ∧ nameB f.ref = true ∨ ¬ (f.ty = 14 ∨ f.ty = 15) ∧ f.ref = [])
    (h4 : fieldB f.num = true) (h5 : 1 ≤ f.ty) (h6 : f.ty ≤ 15) (h7 : f.rep = false ∨ f.one = []) (h8 : f.loose = false ∨ (f.rep = true ∧ numberT f.ty = true)) : fcheckT f = 0 := by
  unfold fcheckT fc1 fc2 fc3 fc4
  rw [if_neg (by rw [h1]; rcases h2 with e | e <;> simp [e]), if_neg, if_neg, if_neg]
  · rcases h8 with e | ⟨e1, e2⟩
    · simp [e]
    · simp [e1, e2]
  · rw [h4, decide_eq_false (by omega), decide_eq_false (by omega)]
    rcases h7 with e | e <;> simp [e]
  · rcases h3 with ⟨e1, e2⟩ | ⟨e1, e2⟩
    · rw [if_pos e1, e2]; decide
    · rw [if_neg e1, e2]; decide
def noOne (f : Fd) : Fd := { f with one := [] }
def looser (f : Fd) : Fd := { f with one := [], loose := true }
theorem noOne_ok {f : Fd} (h : fcheckT f = 0) : fcheckT (noOne f) = 0 := by
  obtain ⟨h1, h2, h3, h4, h5, h6, h7, h8⟩ := fcheck_ok h
  exact fcheck_of (f := noOne f) h1 (.inl rfl) h3 h4 h5 h6 (.inr rfl) h8
theorem noOne_text {f : Fd} (h : fcheckT f = 0) : ftextT (noOne f) = ftextT f := by
  unfold ftextT
  rw [if_pos h, if_pos (noOne_ok h)]
  rfl
theorem looser_ok {f : Fd} (h : fcheckT f = 0) (hp : packedT f = true) : fcheckT (looser f) = 0 := by
  obtain ⟨h1, h2, h3, h4, h5, h6, h7, h8⟩ := fcheck_ok h
  unfold packedT at hp
  simp at hp
  exact fcheck_of (f := looser f) h1 (.inl rfl) h3 h4 h5 h6 (.inr rfl) (.inr ⟨hp.1, hp.2.1⟩)
theorem looser_un (f : Fd) : packedT (looser f) = false := by unfold packedT looser; simp
end Go.Proofs.YtnbjpeefndcheaaDoor
