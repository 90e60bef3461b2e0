/- Several texts in one: ScMath, NumMath. What each proves, and its conditions, stands at its own head. -/
import Derived.Test.YtpfdnggacpehdaaGreatDoorPkDU1
import Derived.Test.YtpfdnggacpehdaaGreatDoorPkDU0
/- Layers 11 and 12 in plain words (no program here): the types, their words and kinds, which values they may have, and what stands on the wire. -/
namespace Go.Proofs.YtpfdnggacpehdaaGreatDoor
open Go.RowKit
set_option linter.unusedVariables false

def Int64 (a : Int) : Prop := -9223372036854775808 ≤ a ∧ a < 9223372036854775808
def typesL : List (List UInt8) := [[], [105, 110, 116, 51, 50], [105, 110, 116, 54, 52], [117, 105, 110, 116, 51, 50], [117, 105, 110, 116, 54, 52], [115, 105, 110, 116, 51, 50], [115, 105, 110, 116, 54, 52], [98, 111, 111, 108], [102, 105, 120, 101, 100, 51, 50], [102, 105, 120, 101, 100, 54, 52], [115, 102, 105, 120, 101, 100, 51, 50], [115, 102, 105, 120, 101, 100, 54, 52], [115, 116, 114, 105, 110, 103], [98, 121, 116, 101, 115]]
def wireT (ty : Int) : Int := if ty = 8 ∨ ty = 10 then 5 else if ty = 9 ∨ ty = 11 then 1 else if ty = 12 ∨ ty = 13 ∨ ty = 15 then 2 else 0
def wholeT (ty : Int) : Bool := decide ((1 ≤ ty ∧ ty ≤ 6) ∨ (8 ≤ ty ∧ ty ≤ 11))
def numberT (ty : Int) : Bool := wholeT ty || decide (ty = 7 ∨ ty = 14)
def signedT (ty : Int) : Bool := decide (ty = 1 ∨ ty = 2 ∨ ty = 5 ∨ ty = 6 ∨ ty = 10 ∨ ty = 11 ∨ ty = 14)
def wideT (ty : Int) : Bool := decide (ty = 2 ∨ ty = 4 ∨ ty = 6 ∨ ty = 9 ∨ ty = 11)
def mayT (ty : Int) (n : Nat) : Bool :=
  if ty < 1 ∨ 15 < ty then false else if wideT ty = true then true else if signedT ty = true then fitsB (wrap64 (n : Int)) else if ty = 3 ∨ ty = 8 then decide (n < 4294967296) else if ty = 7 then decide (n < 2) else decide (n = 0)
def u64of (a : Int) : Nat := (IntKind.u64.wrap a).toNat
theorem u64of_wrap (a : Int) : (u64of a : Int) = IntKind.u64.wrap a := by
  unfold u64of
  rw [IntKind.wrap_u64]
  omega
theorem u64of_lt (a : Int) : u64of a < 18446744073709551616 := by
  have h := u64of_wrap a
  rw [IntKind.wrap_u64] at h
  omega
def fromT (ty : Int) (n : Nat) : Nat :=
  if ty = 1 ∨ ty = 10 ∨ ty = 14 then u64of (wideI n) else if ty = 3 ∨ ty = 8 then n % 4294967296 else if ty = 5 then u64of (zagI (n % 4294967296)) else if ty = 6 then u64of (zagI n)
  else if ty = 7 then (if n = 0 then 0 else 1) else if numberT ty = true then n else 0
theorem ty_cases (ty : Int) : ty = 1 ∨ ty = 2 ∨ ty = 3 ∨ ty = 4 ∨ ty = 5 ∨ ty = 6 ∨ ty = 7 ∨ ty = 8 ∨ ty = 9 ∨ ty = 10 ∨ ty = 11 ∨ ty = 12 ∨ ty = 13 ∨ ty = 14 ∨ ty = 15 ∨ ty < 1 ∨ 15 < ty := by omega
theorem out_wire {ty : Int} (h : ty < 1 ∨ 15 < ty) : wireT ty = 0 := by unfold wireT; rw [if_neg (by omega), if_neg (by omega), if_neg (by omega)]
theorem out_whole {ty : Int} (h : ty < 1 ∨ 15 < ty) : wholeT ty = false := by unfold wholeT; exact decide_eq_false (by omega)
theorem out_number {ty : Int} (h : ty < 1 ∨ 15 < ty) : numberT ty = false := by unfold numberT; rw [out_whole h, Bool.false_or]; exact decide_eq_false (by omega)
theorem out_from {ty : Int} (n : Nat) (h : ty < 1 ∨ 15 < ty) : fromT ty n = 0 := by
  unfold fromT
  rw [if_neg (by omega), if_neg (by omega), if_neg (by omega), if_neg (by omega), if_neg (by omega), out_number h]; rfl
/-- What is read may be. -/
theorem from_lt (ty : Int) (n : Nat) (h : n < 18446744073709551616) : fromT ty n < 18446744073709551616 := by
  unfold fromT
  split
  · exact u64of_lt _
  · split
    · omega
    · split
      · exact u64of_lt _
      · split
        · exact u64of_lt _
        · split
          · split <;> omega
          · split <;> omega
end Go.Proofs.YtpfdnggacpehdaaGreatDoor

/- Layer 12 in plain words (no program here): what is read may be; what may be is read as it was. -/
namespace Go.Proofs.YtpfdnggacpehdaaGreatDoor
open Go.RowKit
set_option linter.unusedVariables false

theorem wrap_u64of (a : Int) (h : -9223372036854775808 ≤ a ∧ a < 9223372036854775808) : wrap64 (u64of a : Int) = a := by
  rw [u64of_wrap, IntKind.wrap_u64]
  unfold wrap64
  omega
theorem wideI_fits (n : Nat) : -2147483648 ≤ wideI n ∧ wideI n ≤ 2147483647 := by unfold wideI; split <;> omega
theorem zagI_fits (m : Nat) (h : m < 4294967296) : -2147483648 ≤ zagI m ∧ zagI m ≤ 2147483647 := by unfold zagI; split <;> omega
theorem fits_iff (a : Int) : fitsB a = true ↔ -2147483648 ≤ a ∧ a ≤ 2147483647 := by unfold fitsB; exact decide_eq_true_iff

theorem may_wide {ty : Int} (n : Nat) (h : 1 ≤ ty ∧ ty ≤ 15) (hw : wideT ty = true) : mayT ty n = true := by rw [mayT, if_neg (by omega), if_pos hw]
theorem may_signed {ty : Int} (n : Nat) (h : 1 ≤ ty ∧ ty ≤ 15) (hw : wideT ty = false) (hs : signedT ty = true) : mayT ty n = fitsB (wrap64 (n : Int)) := by rw [mayT, if_neg (by omega), if_neg (by simp [hw]), if_pos hs]
theorem may_plain {ty : Int} (n : Nat) (h : 1 ≤ ty ∧ ty ≤ 15) (hw : wideT ty = false) (hs : signedT ty = false) : mayT ty n = if ty = 3 ∨ ty = 8 then decide (n < 4294967296) else if ty = 7 then decide (n < 2) else decide (n = 0) := by rw [mayT, if_neg (by omega), if_neg (by simp [hw]), if_neg (by simp [hs])]

/-- What is read may be. -/
theorem may_from (ty : Int) (n : Nat) (h : 1 ≤ ty ∧ ty ≤ 15) (hn : n < 18446744073709551616) : mayT ty (fromT ty n) = true := by
  have hc : ty = 1 ∨ ty = 2 ∨ ty = 3 ∨ ty = 4 ∨ ty = 5 ∨ ty = 6 ∨ ty = 7 ∨ ty = 8 ∨ ty = 9 ∨ ty = 10 ∨ ty = 11 ∨ ty = 12 ∨ ty = 13 ∨ ty = 14 ∨ ty = 15 := by omega
  rcases hc with rfl | rfl | rfl | rfl | rfl | rfl | rfl | rfl | rfl | rfl | rfl | rfl | rfl | rfl | rfl
  · rw [may_signed _ (by omega) (by decide) (by decide), fits_iff, fromT, if_pos (by omega), wrap_u64of _ (by have := wideI_fits n; omega)]; exact wideI_fits n
  · exact may_wide _ (by omega) (by decide)
  · rw [may_plain _ (by omega) (by decide) (by decide), if_pos (by omega), fromT, if_neg (by omega), if_pos (by omega)]; exact decide_eq_true (by omega)
  · exact may_wide _ (by omega) (by decide)
  · rw [may_signed _ (by omega) (by decide) (by decide), fits_iff, fromT, if_neg (by omega), if_neg (by omega), if_pos (by omega), wrap_u64of _ (by have := zagI_fits (n % 4294967296) (by omega); omega)]; exact zagI_fits _ (by omega)
  · exact may_wide _ (by omega) (by decide)
  · rw [may_plain _ (by omega) (by decide) (by decide), if_neg (by omega), if_pos (by omega), fromT, if_neg (by omega), if_neg (by omega), if_neg (by omega), if_neg (by omega), if_pos (by omega)]; exact decide_eq_true (by split <;> omega)
  · rw [may_plain _ (by omega) (by decide) (by decide), if_pos (by omega), fromT, if_neg (by omega), if_pos (by omega)]; exact decide_eq_true (by omega)
  · exact may_wide _ (by omega) (by decide)
  · rw [may_signed _ (by omega) (by decide) (by decide), fits_iff, fromT, if_pos (by omega), wrap_u64of _ (by have := wideI_fits n; omega)]; exact wideI_fits n
  · exact may_wide _ (by omega) (by decide)
  · rw [may_plain _ (by omega) (by decide) (by decide), if_neg (by omega), if_neg (by omega), fromT, if_neg (by omega), if_neg (by omega), if_neg (by omega), if_neg (by omega), if_neg (by omega), if_neg (by decide)]; rfl
  · rw [may_plain _ (by omega) (by decide) (by decide), if_neg (by omega), if_neg (by omega), fromT, if_neg (by omega), if_neg (by omega), if_neg (by omega), if_neg (by omega), if_neg (by omega), if_neg (by decide)]; rfl
  · rw [may_signed _ (by omega) (by decide) (by decide), fits_iff, fromT, if_pos (by omega), wrap_u64of _ (by have := wideI_fits n; omega)]; exact wideI_fits n
  · rw [may_plain _ (by omega) (by decide) (by decide), if_neg (by omega), if_neg (by omega), fromT, if_neg (by omega), if_neg (by omega), if_neg (by omega), if_neg (by omega), if_neg (by omega), if_neg (by decide)]; rfl
theorem from_zero (ty : Int) : fromT ty 0 = 0 := by
  unfold fromT
  split
  · decide +kernel
  · split
    · rfl
    · split
      · decide +kernel
      · split
        · decide +kernel
        · split
          · rfl
          · split <;> rfl
end Go.Proofs.YtpfdnggacpehdaaGreatDoor
