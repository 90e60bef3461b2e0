/- Several texts in one: ScMath, AggIn, RsA. What each proves, and its conditions, stands at its own head. -/
import Derived.Lib.BitFns
import Derived.Laws.BitsLemmas
import Derived.Lib.EndianBits
import Derived.RowKit
import Derived.Test.YtcjjphioeneiiaaGreatDoorPkSB0
import Derived.Test.YtcjjphioeneiiaaGreatDoorChecked
import Derived.OpenShut
import Derived.ProofKit
import Derived.WalkKit
import Derived.OwnWalk
import Derived.RowKitTokens
import Derived.Lib.Hide
/- Layers 11 and 12 in plain words (no program here): the types, their words and kinds, which values they may have, and what stands on the wire. -/
namespace Go.Proofs.YtcjjphioeneiiaaGreatDoor
open Go.RowKit
set_option linter.unusedVariables false

def Int64 (a : Int) : Prop := -9223372036854775808 ≤ a ∧ a < 9223372036854775808
def typesL : List (List UInt8) := [[], [105, 110, 116, 51, 50], [105, 110, 116, 54, 52], [117, 105, 110, 116, 51, 50], [117, 105, 110, 116, 54, 52], [115, 105, 110, 116, 51, 50], [115, 105, 110, 116, 54, 52], [98, 111, 111, 108], [102, 105, 120, 101, 100, 51, 50], [102, 105, 120, 101, 100, 54, 52], [115, 102, 105, 120, 101, 100, 51, 50], [115, 102, 105, 120, 101, 100, 54, 52], [115, 116, 114, 105, 110, 103], [98, 121, 116, 101, 115]]
def wordT (ty : Int) : List UInt8 := if 1 ≤ ty ∧ ty ≤ 13 then (typesL[ty.toNat]?).getD [] else []
def ofFrom : List (List UInt8) → Nat → List UInt8 → Nat
 | [], _, _ => 0
 | t :: r, k, s => if t = s then k else ofFrom r (k + 1) s
def ofT (s : List UInt8) : Nat := ofFrom (typesL.drop 1) 1 s
def wholeT (ty : Int) : Bool := decide ((1 ≤ ty ∧ ty ≤ 6) ∨ (8 ≤ ty ∧ ty ≤ 11))
def numberT (ty : Int) : Bool := wholeT ty || decide (ty = 7 ∨ ty = 14)
theorem ty_cases (ty : Int) : ty = 1 ∨ ty = 2 ∨ ty = 3 ∨ ty = 4 ∨ ty = 5 ∨ ty = 6 ∨ ty = 7 ∨ ty = 8 ∨ ty = 9 ∨ ty = 10 ∨ ty = 11 ∨ ty = 12 ∨ ty = 13 ∨ ty = 14 ∨ ty = 15 ∨ ty < 1 ∨ 15 < ty := by omega
theorem out_word {ty : Int} (h : ty < 1 ∨ 15 < ty) : wordT ty = [] := by unfold wordT; rw [if_neg (by omega)]
theorem out_whole {ty : Int} (h : ty < 1 ∨ 15 < ty) : wholeT ty = false := by unfold wholeT; exact decide_eq_false (by omega)
theorem out_number {ty : Int} (h : ty < 1 ∨ 15 < ty) : numberT ty = false := by unfold numberT; rw [out_whole h, Bool.false_or]; exact decide_eq_false (by omega)
theorem ofFrom_spec (s : List UInt8) : ∀ (l : List (List UInt8)) (k : Nat), 0 < k → ofFrom l k s = 0 ∨ ∃ j, l[j]? = some s ∧ ofFrom l k s = k + j
 | [], k, _ => .inl rfl
 | t :: r, k, hk => by
   unfold ofFrom
   split
   ·rename_i h; subst h; exact .inr ⟨0, rfl, rfl⟩
   ·rcases ofFrom_spec s r (k + 1) (by omega) with h | ⟨j, h1, h2⟩
    ·exact .inl h
    ·exact .inr ⟨j + 1, h1, by rw [h2]; omega⟩
/-- A word's type has that word. -/
theorem of_word (s : List UInt8) (h : ofT s ≠ 0) : wordT (ofT s : Int) = s ∧ 1 ≤ ofT s ∧ ofT s ≤ 13 := by
 rcases ofFrom_spec s (typesL.drop 1) 1 (by omega) with h1 | ⟨j, h1, h2⟩
 ·exact absurd h1 h
 ·have e : ofT s = 1 + j := h2
  have hj := (List.getElem?_eq_some_iff.1 h1).1
  have hj2 : j < 13 := by simpa [typesL] using hj
  rw [e]
  refine ⟨?_, by omega, by omega⟩
  unfold wordT
  rw [if_pos (by omega), show ((1 + j : Nat) : Int).toNat = 1 + j by omega]
  rw [List.getElem?_drop] at h1
  rw [h1]; rfl
end Go.Proofs.YtcjjphioeneiiaaGreatDoor

/- What came in by value as an array of three ints. Conditions: those that each theorem names. -/
namespace Go.Proofs.YtcjjphioeneiiaaGreatDoor
open Go.RowKit Go.ChangeShapes Go.WideShapes
set_option linter.unusedVariables false
set_option maxRecDepth 100000

theorem agg_struct {P : Program} {W : World} {r : Reach} {b : Nat} {k : TypeId} {fs : Array Field} {v : Value} (hu : P.underlying k = some (.struct fs)) (h : Value.okWide P W r b k v) : ∃ xs : Array Value, v = .agg xs ∧ xs.size = P.cellsOf k := by
 simp only [Value.okWide, hu] at h
 obtain ⟨cs, h1, h2, _⟩ := h
 exact ⟨cs, h1, h2⟩
end Go.Proofs.YtcjjphioeneiiaaGreatDoor

/- The document's kinds of types. Conditions: those that each theorem names. -/
namespace Go.Proofs.YtcjjphioeneiiaaGreatDoor
open Go.RowKit
set_option linter.unusedVariables false
set_option maxRecDepth 100000

theorem rswhole_any (ty : Int) (w : World) : Calls Tryz.prog 222 #[.int .i64 ty] w fun e w' => e = .returned (.bool (wholeT ty)) ∧ w = w' := by
 rcases ty_cases ty with rfl | rfl | rfl | rfl | rfl | rfl | rfl | rfl | rfl | rfl | rfl | rfl | rfl | rfl | rfl | h | h
 ·go_enter Tryz.func222, Tryz.ntmps222
  go_wp2
  go_ret
  exact ⟨rfl, rfl⟩
 ·go_enter Tryz.func222, Tryz.ntmps222
  go_wp2
  go_ret
  exact ⟨rfl, rfl⟩
 ·go_enter Tryz.func222, Tryz.ntmps222
  go_wp2
  go_ret
  exact ⟨rfl, rfl⟩
 ·go_enter Tryz.func222, Tryz.ntmps222
  go_wp2
  go_ret
  exact ⟨rfl, rfl⟩
 ·go_enter Tryz.func222, Tryz.ntmps222
  go_wp2
  go_ret
  exact ⟨rfl, rfl⟩
 ·go_enter Tryz.func222, Tryz.ntmps222
  go_wp2
  go_ret
  exact ⟨rfl, rfl⟩
 ·go_enter Tryz.func222, Tryz.ntmps222
  go_wp2
  go_ret
  exact ⟨rfl, rfl⟩
 ·go_enter Tryz.func222, Tryz.ntmps222
  go_wp2
  go_ret
  exact ⟨rfl, rfl⟩
 ·go_enter Tryz.func222, Tryz.ntmps222
  go_wp2
  go_ret
  exact ⟨rfl, rfl⟩
 ·go_enter Tryz.func222, Tryz.ntmps222
  go_wp2
  go_ret
  exact ⟨rfl, rfl⟩
 ·go_enter Tryz.func222, Tryz.ntmps222
  go_wp2
  go_ret
  exact ⟨rfl, rfl⟩
 ·go_enter Tryz.func222, Tryz.ntmps222
  go_wp2
  go_ret
  exact ⟨rfl, rfl⟩
 ·go_enter Tryz.func222, Tryz.ntmps222
  go_wp2
  go_ret
  exact ⟨rfl, rfl⟩
 ·go_enter Tryz.func222, Tryz.ntmps222
  go_wp2
  go_ret
  exact ⟨rfl, rfl⟩
 ·go_enter Tryz.func222, Tryz.ntmps222
  go_wp2
  go_ret
  exact ⟨rfl, rfl⟩
 ·rw [out_whole (by omega)]
  have n1 : ¬ ty = 1 := by omega
  have e1 : (ty == 1) = false := beq_false_of_ne n1
  have n2 : ¬ ty = 2 := by omega
  have e2 : (ty == 2) = false := beq_false_of_ne n2
  have n3 : ¬ ty = 3 := by omega
  have e3 : (ty == 3) = false := beq_false_of_ne n3
  have n4 : ¬ ty = 4 := by omega
  have e4 : (ty == 4) = false := beq_false_of_ne n4
  have n5 : ¬ ty = 5 := by omega
  have e5 : (ty == 5) = false := beq_false_of_ne n5
  have n6 : ¬ ty = 6 := by omega
  have e6 : (ty == 6) = false := beq_false_of_ne n6
  have n7 : ¬ ty = 7 := by omega
  have e7 : (ty == 7) = false := beq_false_of_ne n7
  have n8 : ¬ ty = 8 := by omega
  have e8 : (ty == 8) = false := beq_false_of_ne n8
  have n9 : ¬ ty = 9 := by omega
  have e9 : (ty == 9) = false := beq_false_of_ne n9
  have n10 : ¬ ty = 10 := by omega
  have e10 : (ty == 10) = false := beq_false_of_ne n10
  have n11 : ¬ ty = 11 := by omega
  have e11 : (ty == 11) = false := beq_false_of_ne n11
  have n12 : ¬ ty = 12 := by omega
  have e12 : (ty == 12) = false := beq_false_of_ne n12
  have n13 : ¬ ty = 13 := by omega
  have e13 : (ty == 13) = false := beq_false_of_ne n13
  have n14 : ¬ ty = 14 := by omega
  have e14 : (ty == 14) = false := beq_false_of_ne n14
  have n15 : ¬ ty = 15 := by omega
  have e15 : (ty == 15) = false := beq_false_of_ne n15
  have a1 : decide (1 ≤ ty) = false := decide_eq_false (by omega)
  have b1 : decide (ty ≤ 1) = true := decide_eq_true (by omega)
  have c1 : decide (ty < 1) = true := decide_eq_true (by omega)
  have d1 : decide (1 < ty) = false := decide_eq_false (by omega)
  have a6 : decide (6 ≤ ty) = false := decide_eq_false (by omega)
  have b6 : decide (ty ≤ 6) = true := decide_eq_true (by omega)
  have c6 : decide (ty < 6) = true := decide_eq_true (by omega)
  have d6 : decide (6 < ty) = false := decide_eq_false (by omega)
  have a7 : decide (7 ≤ ty) = false := decide_eq_false (by omega)
  have b7 : decide (ty ≤ 7) = true := decide_eq_true (by omega)
  have c7 : decide (ty < 7) = true := decide_eq_true (by omega)
  have d7 : decide (7 < ty) = false := decide_eq_false (by omega)
  have a8 : decide (8 ≤ ty) = false := decide_eq_false (by omega)
  have b8 : decide (ty ≤ 8) = true := decide_eq_true (by omega)
  have c8 : decide (ty < 8) = true := decide_eq_true (by omega)
  have d8 : decide (8 < ty) = false := decide_eq_false (by omega)
  have a11 : decide (11 ≤ ty) = false := decide_eq_false (by omega)
  have b11 : decide (ty ≤ 11) = true := decide_eq_true (by omega)
  have c11 : decide (ty < 11) = true := decide_eq_true (by omega)
  have d11 : decide (11 < ty) = false := decide_eq_false (by omega)
  have a13 : decide (13 ≤ ty) = false := decide_eq_false (by omega)
  have b13 : decide (ty ≤ 13) = true := decide_eq_true (by omega)
  have c13 : decide (ty < 13) = true := decide_eq_true (by omega)
  have d13 : decide (13 < ty) = false := decide_eq_false (by omega)
  have a15 : decide (15 ≤ ty) = false := decide_eq_false (by omega)
  have b15 : decide (ty ≤ 15) = true := decide_eq_true (by omega)
  have c15 : decide (ty < 15) = true := decide_eq_true (by omega)
  have d15 : decide (15 < ty) = false := decide_eq_false (by omega)
  go_enter Tryz.func222, Tryz.ntmps222
  go_wp2
  go_ret
  exact ⟨rfl, rfl⟩
 ·rw [out_whole (by omega)]
  have n1 : ¬ ty = 1 := by omega
  have e1 : (ty == 1) = false := beq_false_of_ne n1
  have n2 : ¬ ty = 2 := by omega
  have e2 : (ty == 2) = false := beq_false_of_ne n2
  have n3 : ¬ ty = 3 := by omega
  have e3 : (ty == 3) = false := beq_false_of_ne n3
  have n4 : ¬ ty = 4 := by omega
  have e4 : (ty == 4) = false := beq_false_of_ne n4
  have n5 : ¬ ty = 5 := by omega
  have e5 : (ty == 5) = false := beq_false_of_ne n5
  have n6 : ¬ ty = 6 := by omega
  have e6 : (ty == 6) = false := beq_false_of_ne n6
  have n7 : ¬ ty = 7 := by omega
  have e7 : (ty == 7) = false := beq_false_of_ne n7
  have n8 : ¬ ty = 8 := by omega
  have e8 : (ty == 8) = false := beq_false_of_ne n8
  have n9 : ¬ ty = 9 := by omega
  have e9 : (ty == 9) = false := beq_false_of_ne n9
  have n10 : ¬ ty = 10 := by omega
  have e10 : (ty == 10) = false := beq_false_of_ne n10
  have n11 : ¬ ty = 11 := by omega
  have e11 : (ty == 11) = false := beq_false_of_ne n11
  have n12 : ¬ ty = 12 := by omega
  have e12 : (ty == 12) = false := beq_false_of_ne n12
  have n13 : ¬ ty = 13 := by omega
  have e13 : (ty == 13) = false := beq_false_of_ne n13
  have n14 : ¬ ty = 14 := by omega
  have e14 : (ty == 14) = false := beq_false_of_ne n14
  have n15 : ¬ ty = 15 := by omega
  have e15 : (ty == 15) = false := beq_false_of_ne n15
  have a1 : decide (1 ≤ ty) = true := decide_eq_true (by omega)
  have b1 : decide (ty ≤ 1) = false := decide_eq_false (by omega)
  have c1 : decide (ty < 1) = false := decide_eq_false (by omega)
  have d1 : decide (1 < ty) = true := decide_eq_true (by omega)
  have a6 : decide (6 ≤ ty) = true := decide_eq_true (by omega)
  have b6 : decide (ty ≤ 6) = false := decide_eq_false (by omega)
  have c6 : decide (ty < 6) = false := decide_eq_false (by omega)
  have d6 : decide (6 < ty) = true := decide_eq_true (by omega)
  have a7 : decide (7 ≤ ty) = true := decide_eq_true (by omega)
  have b7 : decide (ty ≤ 7) = false := decide_eq_false (by omega)
  have c7 : decide (ty < 7) = false := decide_eq_false (by omega)
  have d7 : decide (7 < ty) = true := decide_eq_true (by omega)
  have a8 : decide (8 ≤ ty) = true := decide_eq_true (by omega)
  have b8 : decide (ty ≤ 8) = false := decide_eq_false (by omega)
  have c8 : decide (ty < 8) = false := decide_eq_false (by omega)
  have d8 : decide (8 < ty) = true := decide_eq_true (by omega)
  have a11 : decide (11 ≤ ty) = true := decide_eq_true (by omega)
  have b11 : decide (ty ≤ 11) = false := decide_eq_false (by omega)
  have c11 : decide (ty < 11) = false := decide_eq_false (by omega)
  have d11 : decide (11 < ty) = true := decide_eq_true (by omega)
  have a13 : decide (13 ≤ ty) = true := decide_eq_true (by omega)
  have b13 : decide (ty ≤ 13) = false := decide_eq_false (by omega)
  have c13 : decide (ty < 13) = false := decide_eq_false (by omega)
  have d13 : decide (13 < ty) = true := decide_eq_true (by omega)
  have a15 : decide (15 ≤ ty) = true := decide_eq_true (by omega)
  have b15 : decide (ty ≤ 15) = false := decide_eq_false (by omega)
  have c15 : decide (ty < 15) = false := decide_eq_false (by omega)
  have d15 : decide (15 < ty) = true := decide_eq_true (by omega)
  go_enter Tryz.func222, Tryz.ntmps222
  go_wp2
  go_ret
  exact ⟨rfl, rfl⟩
theorem rsnumber_any (ty : Int) (w : World) : Calls Tryz.prog 150 #[.int .i64 ty] w fun e w' => e = .returned (.bool (numberT ty)) ∧ w = w' := by
 rcases ty_cases ty with rfl | rfl | rfl | rfl | rfl | rfl | rfl | rfl | rfl | rfl | rfl | rfl | rfl | rfl | rfl | h | h
 ·go_enter Tryz.func150, Tryz.ntmps150
  go_wp2_with (first | (go_at_call 222; refine (rswhole_any _ _).mono ?_; rintro e w' ⟨rfl, rfl⟩; (try rw [out_whole (by omega)])))
  go_ret
  exact ⟨rfl, rfl⟩
 ·go_enter Tryz.func150, Tryz.ntmps150
  go_wp2_with (first | (go_at_call 222; refine (rswhole_any _ _).mono ?_; rintro e w' ⟨rfl, rfl⟩; (try rw [out_whole (by omega)])))
  go_ret
  exact ⟨rfl, rfl⟩
 ·go_enter Tryz.func150, Tryz.ntmps150
  go_wp2_with (first | (go_at_call 222; refine (rswhole_any _ _).mono ?_; rintro e w' ⟨rfl, rfl⟩; (try rw [out_whole (by omega)])))
  go_ret
  exact ⟨rfl, rfl⟩
 ·go_enter Tryz.func150, Tryz.ntmps150
  go_wp2_with (first | (go_at_call 222; refine (rswhole_any _ _).mono ?_; rintro e w' ⟨rfl, rfl⟩; (try rw [out_whole (by omega)])))
  go_ret
  exact ⟨rfl, rfl⟩
 ·go_enter Tryz.func150, Tryz.ntmps150
  go_wp2_with (first | (go_at_call 222; refine (rswhole_any _ _).mono ?_; rintro e w' ⟨rfl, rfl⟩; (try rw [out_whole (by omega)])))
  go_ret
  exact ⟨rfl, rfl⟩
 ·go_enter Tryz.func150, Tryz.ntmps150
  go_wp2_with (first | (go_at_call 222; refine (rswhole_any _ _).mono ?_; rintro e w' ⟨rfl, rfl⟩; (try rw [out_whole (by omega)])))
  go_ret
  exact ⟨rfl, rfl⟩
 ·go_enter Tryz.func150, Tryz.ntmps150
  go_wp2_with (first | (go_at_call 222; refine (rswhole_any _ _).mono ?_; rintro e w' ⟨rfl, rfl⟩; (try rw [out_whole (by omega)])))
  go_ret
  exact ⟨rfl, rfl⟩
 ·go_enter Tryz.func150, Tryz.ntmps150
  go_wp2_with (first | (go_at_call 222; refine (rswhole_any _ _).mono ?_; rintro e w' ⟨rfl, rfl⟩; (try rw [out_whole (by omega)])))
  go_ret
  exact ⟨rfl, rfl⟩
 ·go_enter Tryz.func150, Tryz.ntmps150
  go_wp2_with (first | (go_at_call 222; refine (rswhole_any _ _).mono ?_; rintro e w' ⟨rfl, rfl⟩; (try rw [out_whole (by omega)])))
  go_ret
  exact ⟨rfl, rfl⟩
 ·go_enter Tryz.func150, Tryz.ntmps150
  go_wp2_with (first | (go_at_call 222; refine (rswhole_any _ _).mono ?_; rintro e w' ⟨rfl, rfl⟩; (try rw [out_whole (by omega)])))
  go_ret
  exact ⟨rfl, rfl⟩
 ·go_enter Tryz.func150, Tryz.ntmps150
  go_wp2_with (first | (go_at_call 222; refine (rswhole_any _ _).mono ?_; rintro e w' ⟨rfl, rfl⟩; (try rw [out_whole (by omega)])))
  go_ret
  exact ⟨rfl, rfl⟩
 ·go_enter Tryz.func150, Tryz.ntmps150
  go_wp2_with (first | (go_at_call 222; refine (rswhole_any _ _).mono ?_; rintro e w' ⟨rfl, rfl⟩; (try rw [out_whole (by omega)])))
  go_ret
  exact ⟨rfl, rfl⟩
 ·go_enter Tryz.func150, Tryz.ntmps150
  go_wp2_with (first | (go_at_call 222; refine (rswhole_any _ _).mono ?_; rintro e w' ⟨rfl, rfl⟩; (try rw [out_whole (by omega)])))
  go_ret
  exact ⟨rfl, rfl⟩
 ·go_enter Tryz.func150, Tryz.ntmps150
  go_wp2_with (first | (go_at_call 222; refine (rswhole_any _ _).mono ?_; rintro e w' ⟨rfl, rfl⟩; (try rw [out_whole (by omega)])))
  go_ret
  exact ⟨rfl, rfl⟩
 ·go_enter Tryz.func150, Tryz.ntmps150
  go_wp2_with (first | (go_at_call 222; refine (rswhole_any _ _).mono ?_; rintro e w' ⟨rfl, rfl⟩; (try rw [out_whole (by omega)])))
  go_ret
  exact ⟨rfl, rfl⟩
 ·rw [out_number (by omega)]
  have n1 : ¬ ty = 1 := by omega
  have e1 : (ty == 1) = false := beq_false_of_ne n1
  have n2 : ¬ ty = 2 := by omega
  have e2 : (ty == 2) = false := beq_false_of_ne n2
  have n3 : ¬ ty = 3 := by omega
  have e3 : (ty == 3) = false := beq_false_of_ne n3
  have n4 : ¬ ty = 4 := by omega
  have e4 : (ty == 4) = false := beq_false_of_ne n4
  have n5 : ¬ ty = 5 := by omega
  have e5 : (ty == 5) = false := beq_false_of_ne n5
  have n6 : ¬ ty = 6 := by omega
  have e6 : (ty == 6) = false := beq_false_of_ne n6
  have n7 : ¬ ty = 7 := by omega
  have e7 : (ty == 7) = false := beq_false_of_ne n7
  have n8 : ¬ ty = 8 := by omega
  have e8 : (ty == 8) = false := beq_false_of_ne n8
  have n9 : ¬ ty = 9 := by omega
  have e9 : (ty == 9) = false := beq_false_of_ne n9
  have n10 : ¬ ty = 10 := by omega
  have e10 : (ty == 10) = false := beq_false_of_ne n10
  have n11 : ¬ ty = 11 := by omega
  have e11 : (ty == 11) = false := beq_false_of_ne n11
  have n12 : ¬ ty = 12 := by omega
  have e12 : (ty == 12) = false := beq_false_of_ne n12
  have n13 : ¬ ty = 13 := by omega
  have e13 : (ty == 13) = false := beq_false_of_ne n13
  have n14 : ¬ ty = 14 := by omega
  have e14 : (ty == 14) = false := beq_false_of_ne n14
  have n15 : ¬ ty = 15 := by omega
  have e15 : (ty == 15) = false := beq_false_of_ne n15
  have a1 : decide (1 ≤ ty) = false := decide_eq_false (by omega)
  have b1 : decide (ty ≤ 1) = true := decide_eq_true (by omega)
  have c1 : decide (ty < 1) = true := decide_eq_true (by omega)
  have d1 : decide (1 < ty) = false := decide_eq_false (by omega)
  have a6 : decide (6 ≤ ty) = false := decide_eq_false (by omega)
  have b6 : decide (ty ≤ 6) = true := decide_eq_true (by omega)
  have c6 : decide (ty < 6) = true := decide_eq_true (by omega)
  have d6 : decide (6 < ty) = false := decide_eq_false (by omega)
  have a7 : decide (7 ≤ ty) = false := decide_eq_false (by omega)
  have b7 : decide (ty ≤ 7) = true := decide_eq_true (by omega)
  have c7 : decide (ty < 7) = true := decide_eq_true (by omega)
  have d7 : decide (7 < ty) = false := decide_eq_false (by omega)
  have a8 : decide (8 ≤ ty) = false := decide_eq_false (by omega)
  have b8 : decide (ty ≤ 8) = true := decide_eq_true (by omega)
  have c8 : decide (ty < 8) = true := decide_eq_true (by omega)
  have d8 : decide (8 < ty) = false := decide_eq_false (by omega)
  have a11 : decide (11 ≤ ty) = false := decide_eq_false (by omega)
  have b11 : decide (ty ≤ 11) = true := decide_eq_true (by omega)
  have c11 : decide (ty < 11) = true := decide_eq_true (by omega)
  have d11 : decide (11 < ty) = false := decide_eq_false (by omega)
  have a13 : decide (13 ≤ ty) = false := decide_eq_false (by omega)
  have b13 : decide (ty ≤ 13) = true := decide_eq_true (by omega)
  have c13 : decide (ty < 13) = true := decide_eq_true (by omega)
  have d13 : decide (13 < ty) = false := decide_eq_false (by omega)
  have a15 : decide (15 ≤ ty) = false := decide_eq_false (by omega)
  have b15 : decide (ty ≤ 15) = true := decide_eq_true (by omega)
  have c15 : decide (ty < 15) = true := decide_eq_true (by omega)
  have d15 : decide (15 < ty) = false := decide_eq_false (by omega)
  go_enter Tryz.func150, Tryz.ntmps150
  go_wp2_with (first | (go_at_call 222; refine (rswhole_any _ _).mono ?_; rintro e w' ⟨rfl, rfl⟩; (try rw [out_whole (by omega)])))
  go_ret
  exact ⟨rfl, rfl⟩
 ·rw [out_number (by omega)]
  have n1 : ¬ ty = 1 := by omega
  have e1 : (ty == 1) = false := beq_false_of_ne n1
  have n2 : ¬ ty = 2 := by omega
  have e2 : (ty == 2) = false := beq_false_of_ne n2
  have n3 : ¬ ty = 3 := by omega
  have e3 : (ty == 3) = false := beq_false_of_ne n3
  have n4 : ¬ ty = 4 := by omega
  have e4 : (ty == 4) = false := beq_false_of_ne n4
  have n5 : ¬ ty = 5 := by omega
  have e5 : (ty == 5) = false := beq_false_of_ne n5
  have n6 : ¬ ty = 6 := by omega
  have e6 : (ty == 6) = false := beq_false_of_ne n6
  have n7 : ¬ ty = 7 := by omega
  have e7 : (ty == 7) = false := beq_false_of_ne n7
  have n8 : ¬ ty = 8 := by omega
  have e8 : (ty == 8) = false := beq_false_of_ne n8
  have n9 : ¬ ty = 9 := by omega
  have e9 : (ty == 9) = false := beq_false_of_ne n9
  have n10 : ¬ ty = 10 := by omega
  have e10 : (ty == 10) = false := beq_false_of_ne n10
  have n11 : ¬ ty = 11 := by omega
  have e11 : (ty == 11) = false := beq_false_of_ne n11
  have n12 : ¬ ty = 12 := by omega
  have e12 : (ty == 12) = false := beq_false_of_ne n12
  have n13 : ¬ ty = 13 := by omega
  have e13 : (ty == 13) = false := beq_false_of_ne n13
  have n14 : ¬ ty = 14 := by omega
  have e14 : (ty == 14) = false := beq_false_of_ne n14
  have n15 : ¬ ty = 15 := by omega
  have e15 : (ty == 15) = false := beq_false_of_ne n15
  have a1 : decide (1 ≤ ty) = true := decide_eq_true (by omega)
  have b1 : decide (ty ≤ 1) = false := decide_eq_false (by omega)
  have c1 : decide (ty < 1) = false := decide_eq_false (by omega)
  have d1 : decide (1 < ty) = true := decide_eq_true (by omega)
  have a6 : decide (6 ≤ ty) = true := decide_eq_true (by omega)
  have b6 : decide (ty ≤ 6) = false := decide_eq_false (by omega)
  have c6 : decide (ty < 6) = false := decide_eq_false (by omega)
  have d6 : decide (6 < ty) = true := decide_eq_true (by omega)
  have a7 : decide (7 ≤ ty) = true := decide_eq_true (by omega)
  have b7 : decide (ty ≤ 7) = false := decide_eq_false (by omega)
  have c7 : decide (ty < 7) = false := decide_eq_false (by omega)
  have d7 : decide (7 < ty) = true := decide_eq_true (by omega)
  have a8 : decide (8 ≤ ty) = true := decide_eq_true (by omega)
  have b8 : decide (ty ≤ 8) = false := decide_eq_false (by omega)
  have c8 : decide (ty < 8) = false := decide_eq_false (by omega)
  have d8 : decide (8 < ty) = true := decide_eq_true (by omega)
  have a11 : decide (11 ≤ ty) = true := decide_eq_true (by omega)
  have b11 : decide (ty ≤ 11) = false := decide_eq_false (by omega)
  have c11 : decide (ty < 11) = false := decide_eq_false (by omega)
  have d11 : decide (11 < ty) = true := decide_eq_true (by omega)
  have a13 : decide (13 ≤ ty) = true := decide_eq_true (by omega)
  have b13 : decide (ty ≤ 13) = false := decide_eq_false (by omega)
  have c13 : decide (ty < 13) = false := decide_eq_false (by omega)
  have d13 : decide (13 < ty) = true := decide_eq_true (by omega)
  have a15 : decide (15 ≤ ty) = true := decide_eq_true (by omega)
  have b15 : decide (ty ≤ 15) = false := decide_eq_false (by omega)
  have c15 : decide (ty < 15) = false := decide_eq_false (by omega)
  have d15 : decide (15 < ty) = true := decide_eq_true (by omega)
  go_enter Tryz.func150, Tryz.ntmps150
  go_wp2_with (first | (go_at_call 222; refine (rswhole_any _ _).mono ?_; rintro e w' ⟨rfl, rfl⟩; (try rw [out_whole (by omega)])))
  go_ret
  exact ⟨rfl, rfl⟩
end Go.Proofs.YtcjjphioeneiiaaGreatDoor
