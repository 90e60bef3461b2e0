/- Several texts in one: ScMath. What each proves, and its conditions, stands at its own head. -/
import Derived.Test.YtmdekdmcnnbofaaDoorPkVD1
import Derived.Test.YtmdekdmcnnbofaaDoorPkVD0
/- Layers 11 and 12 in plain words (no program here): the types, their words and kinds, which values they may have, and what stands on the wire. -/
namespace Go.Proofs.YtmdekdmcnnbofaaDoor
open Go.RowKit
set_option linter.unusedVariables false

def Int64 (a : Int) : Prop := -9223372036854775808 ≤ a ∧ a < 9223372036854775808
def typesL : List (List UInt8) := [[], [105, 110, 116, 51, 50], [105, 110, 116, 54, 52], [117, 105, 110, 116, 51, 50], [117, 105, 110, 116, 54, 52], [115, 105, 110, 116, 51, 50], [115, 105, 110, 116, 54, 52], [98, 111, 111, 108], [102, 105, 120, 101, 100, 51, 50], [102, 105, 120, 101, 100, 54, 52], [115, 102, 105, 120, 101, 100, 51, 50], [115, 102, 105, 120, 101, 100, 54, 52], [115, 116, 114, 105, 110, 103], [98, 121, 116, 101, 115]]
def wholeT (ty : Int) : Bool := decide ((1 ≤ ty ∧ ty ≤ 6) ∨ (8 ≤ ty ∧ ty ≤ 11))
def numberT (ty : Int) : Bool := wholeT ty || decide (ty = 7 ∨ ty = 14)
def signedT (ty : Int) : Bool := decide (ty = 1 ∨ ty = 2 ∨ ty = 5 ∨ ty = 6 ∨ ty = 10 ∨ ty = 11 ∨ ty = 14)
def wideT (ty : Int) : Bool := decide (ty = 2 ∨ ty = 4 ∨ ty = 6 ∨ ty = 9 ∨ ty = 11)
def mayT (ty : Int) (n : Nat) : Bool :=
  if ty < 1 ∨ 15 < ty then false else if wideT ty = true then true else if signedT ty = true then fitsB (wrap64 (n : Int)) else if ty = 3 ∨ ty = 8 then decide (n < 4294967296) else if ty = 7 then decide (n < 2) else decide (n = 0)
theorem ty_cases (ty : Int) : ty = 1 ∨ ty = 2 ∨ ty = 3 ∨ ty = 4 ∨ ty = 5 ∨ ty = 6 ∨ ty = 7 ∨ ty = 8 ∨ ty = 9 ∨ ty = 10 ∨ ty = 11 ∨ ty = 12 ∨ ty = 13 ∨ ty = 14 ∨ ty = 15 ∨ ty < 1 ∨ 15 < ty := by omega
theorem out_whole {ty : Int} (h : ty < 1 ∨ 15 < ty) : wholeT ty = false := by unfold wholeT; exact decide_eq_false (by omega)
theorem out_number {ty : Int} (h : ty < 1 ∨ 15 < ty) : numberT ty = false := by unfold numberT; rw [out_whole h, Bool.false_or]; exact decide_eq_false (by omega)
theorem out_signed {ty : Int} (h : ty < 1 ∨ 15 < ty) : signedT ty = false := by unfold signedT; exact decide_eq_false (by omega)
theorem out_wide {ty : Int} (h : ty < 1 ∨ 15 < ty) : wideT ty = false := by unfold wideT; exact decide_eq_false (by omega)
theorem out_may {ty : Int} (n : Nat) (h : ty < 1 ∨ 15 < ty) : mayT ty n = false := by unfold mayT; rw [if_pos h]
end Go.Proofs.YtmdekdmcnnbofaaDoor
