/- The document's Rise and Once. Conditions: those that each theorem names. -/
import Derived.Test.YtnbjpeefndcheaaDoorChecked
import Derived.Test.YtnbjpeefndcheaaDoorIdMath
import Derived.Test.YtnbjpeefndcheaaDoorStrs
import Derived.Test.YtnbjpeefndcheaaDoorInts
import Derived.WalkKit
import Derived.OwnWalk
import Derived.RowKitTokens
import Derived.Lib.Hide
import Derived.BigQuiet
import Derived.Deep.QuietTactic
import Derived.IntWalk
import Derived.Laws.Cover1
import Derived.Deep.LoopGhost
namespace Go.Proofs.YtnbjpeefndcheaaDoor
open Go.RowKit
set_option linter.unusedVariables false
set_option maxRecDepth 100000

theorem less_ahead : ∀ a b : List UInt8, Op.bytesLess a b = ahead a b
  | [], [] => rfl
  | _ :: _, [] => rfl
  | [], _ :: _ => rfl
  | x :: a, y :: b => by
    rw [Op.bytesLess, ahead, less_ahead a b]
    by_cases h1 : x.toNat < y.toNat
    · rw [if_pos h1]
      have : x < y := h1
      simp [this]
    · rw [if_neg h1]
      have n1 : ¬ x < y := h1
      by_cases h2 : y.toNat < x.toNat
      · rw [if_pos h2]
        have : x ≠ y := fun e => by subst e; omega
        simp [n1, this]
      · rw [if_neg h2]
        have : x = y := UInt8.toNat_inj.mp (by omega)
        subst this
        simp
theorem str_list (a : List UInt8) : (strOf a).toList = a := by rw [ByteArray.toList_eq]; simp [strOf]
theorem run_geq_str (a b : List UInt8) (w : World) : (binOp .geq 9 (.string (strOf a)) (.string (strOf b))).run Tryd.prog w = .ok (.bool (!ahead a b)) w := by
  rw [binOp_string_geq, str_list, str_list, less_ahead]; rfl
theorem run_eql_str (a b : List UInt8) (w : World) : (binOp .eql 9 (.string (strOf a)) (.string (strOf b))).run Tryd.prog w = .ok (.bool (decide (a = b))) w := by
  rw [binOp_string_eql, strOf_beq]; rfl
end Go.Proofs.YtnbjpeefndcheaaDoor
