/- Several texts in one: ScMath. What each proves, and its conditions, stands at its own head. -/
import Derived.Test.YtpbhokmpbcmdcaaGreatDoorPke19
import Derived.Test.YtpbhokmpbcmdcaaGreatDoorPke0
/- Layers 11 and 12 in plain words (no program here): the types, their words and kinds, which values they may have, and what stands on the wire. -/
namespace Go.Proofs.YtpbhokmpbcmdcaaGreatDoor
open Go.RowKit
set_option linter.unusedVariables false

def Int64 (a : Int) : Prop := -9223372036854775808 ≤ a ∧ a < 9223372036854775808
def typesL : List (List UInt8) := [[], [105, 110, 116, 51, 50], [105, 110, 116, 54, 52], [117, 105, 110, 116, 51, 50], [117, 105, 110, 116, 54, 52], [115, 105, 110, 116, 51, 50], [115, 105, 110, 116, 54, 52], [98, 111, 111, 108], [102, 105, 120, 101, 100, 51, 50], [102, 105, 120, 101, 100, 54, 52], [115, 102, 105, 120, 101, 100, 51, 50], [115, 102, 105, 120, 101, 100, 54, 52], [115, 116, 114, 105, 110, 103], [98, 121, 116, 101, 115]]
def wordT (ty : Int) : List UInt8 := if 1 ≤ ty ∧ ty ≤ 13 then (typesL[ty.toNat]?).getD [] else []
def ofFrom : List (List UInt8) → Nat → List UInt8 → Nat
  | [], _, _ => 0
  | t :: r, k, s => if t = s then k else ofFrom r (k + 1) s
def ofT (s : List UInt8) : Nat := ofFrom (typesL.drop 1) 1 s
def wireT (ty : Int) : Int := if ty = 8 ∨ ty = 10 then 5 else if ty = 9 ∨ ty = 11 then 1 else if ty = 12 ∨ ty = 13 ∨ ty = 15 then 2 else 0
def wholeT (ty : Int) : Bool := decide ((1 ≤ ty ∧ ty ≤ 6) ∨ (8 ≤ ty ∧ ty ≤ 11))
def numberT (ty : Int) : Bool := wholeT ty || decide (ty = 7 ∨ ty = 14)
def signedT (ty : Int) : Bool := decide (ty = 1 ∨ ty = 2 ∨ ty = 5 ∨ ty = 6 ∨ ty = 10 ∨ ty = 11 ∨ ty = 14)
def wideT (ty : Int) : Bool := decide (ty = 2 ∨ ty = 4 ∨ ty = 6 ∨ ty = 9 ∨ ty = 11)
def mayT (ty : Int) (n : Nat) : Bool :=
  if ty < 1 ∨ 15 < ty then false else if wideT ty = true then true else if signedT ty = true then fitsB (wrap64 (n : Int)) else if ty = 3 ∨ ty = 8 then decide (n < 4294967296) else if ty = 7 then decide (n < 2) else decide (n = 0)
def u64of (a : Int) : Nat := (IntKind.u64.wrap a).toNat
theorem u64of_wrap (a : Int) : (u64of a : Int) = IntKind.u64.wrap a := by
  unfold u64of
  rw [IntKind.wrap_u64]
  omega
theorem u64of_lt (a : Int) : u64of a < 18446744073709551616 := by
  have h := u64of_wrap a
  rw [IntKind.wrap_u64] at h
  omega
def fromT (ty : Int) (n : Nat) : Nat :=
  if ty = 1 ∨ ty = 10 ∨ ty = 14 then u64of (wideI n) else if ty = 3 ∨ ty = 8 then n % 4294967296 else if ty = 5 then u64of (zagI (n % 4294967296)) else if ty = 6 then u64of (zagI n)
  else if ty = 7 then (if n = 0 then 0 else 1) else if numberT ty = true then n else 0
def toT (ty : Int) (n : Nat) : Nat :=
  if ty = 3 ∨ ty = 8 ∨ ty = 10 then n % 4294967296 else if ty = 5 ∨ ty = 6 then zigN (wrap64 (n : Int)) else if numberT ty = true then n else 0

theorem ty_cases (ty : Int) : ty = 1 ∨ ty = 2 ∨ ty = 3 ∨ ty = 4 ∨ ty = 5 ∨ ty = 6 ∨ ty = 7 ∨ ty = 8 ∨ ty = 9 ∨ ty = 10 ∨ ty = 11 ∨ ty = 12 ∨ ty = 13 ∨ ty = 14 ∨ ty = 15 ∨ ty < 1 ∨ 15 < ty := by omega
theorem out_word {ty : Int} (h : ty < 1 ∨ 15 < ty) : wordT ty = [] := by unfold wordT; rw [if_neg (by omega)]
theorem out_wire {ty : Int} (h : ty < 1 ∨ 15 < ty) : wireT ty = 0 := by unfold wireT; rw [if_neg (by omega), if_neg (by omega), if_neg (by omega)]
theorem out_whole {ty : Int} (h : ty < 1 ∨ 15 < ty) : wholeT ty = false := by unfold wholeT; exact decide_eq_false (by omega)
theorem out_number {ty : Int} (h : ty < 1 ∨ 15 < ty) : numberT ty = false := by unfold numberT; rw [out_whole h, Bool.false_or]; exact decide_eq_false (by omega)
theorem out_signed {ty : Int} (h : ty < 1 ∨ 15 < ty) : signedT ty = false := by unfold signedT; exact decide_eq_false (by omega)
theorem out_wide {ty : Int} (h : ty < 1 ∨ 15 < ty) : wideT ty = false := by unfold wideT; exact decide_eq_false (by omega)
theorem out_may {ty : Int} (n : Nat) (h : ty < 1 ∨ 15 < ty) : mayT ty n = false := by unfold mayT; rw [if_pos h]
theorem out_from {ty : Int} (n : Nat) (h : ty < 1 ∨ 15 < ty) : fromT ty n = 0 := by
  unfold fromT
  rw [if_neg (by omega), if_neg (by omega), if_neg (by omega), if_neg (by omega), if_neg (by omega), out_number h]; rfl
theorem out_to {ty : Int} (n : Nat) (h : ty < 1 ∨ 15 < ty) : toT ty n = 0 := by
  unfold toT
  rw [if_neg (by omega), if_neg (by omega), out_number h]; rfl

theorem ofFrom_spec (s : List UInt8) : ∀ (l : List (List UInt8)) (k : Nat), 0 < k → ofFrom l k s = 0 ∨ ∃ j, l[j]? = some s ∧ ofFrom l k s = k + j
  | [], k, _ => .inl rfl
  | t :: r, k, hk => by
    unfold ofFrom
    split
    · rename_i h; subst h; exact .inr ⟨0, rfl, rfl⟩
    · rcases ofFrom_spec s r (k + 1) (by omega) with h | ⟨j, h1, h2⟩
      · exact .inl h
      · exact .inr ⟨j + 1, h1, by rw [h2]; omega⟩
/-- A word's type has that word. -/
theorem of_word (s : List UInt8) (h : ofT s ≠ 0) : wordT (ofT s : Int) = s ∧ 1 ≤ ofT s ∧ ofT s ≤ 13 := by
  rcases ofFrom_spec s (typesL.drop 1) 1 (by omega) with h1 | ⟨j, h1, h2⟩
  · exact absurd h1 h
  · have e : ofT s = 1 + j := h2
    have hj := (List.getElem?_eq_some_iff.1 h1).1
    have hj2 : j < 13 := by simpa [typesL] using hj
    rw [e]
    refine ⟨?_, by omega, by omega⟩
    unfold wordT
    rw [if_pos (by omega), show ((1 + j : Nat) : Int).toNat = 1 + j by omega]
    rw [List.getElem?_drop] at h1
    rw [h1]; rfl
/-- What is read may be. -/
theorem from_lt (ty : Int) (n : Nat) (h : n < 18446744073709551616) : fromT ty n < 18446744073709551616 := by
  unfold fromT
  split
  · exact u64of_lt _
  · split
    · omega
    · split
      · exact u64of_lt _
      · split
        · exact u64of_lt _
        · split
          · split <;> omega
          · split <;> omega
end Go.Proofs.YtpbhokmpbcmdcaaGreatDoor
