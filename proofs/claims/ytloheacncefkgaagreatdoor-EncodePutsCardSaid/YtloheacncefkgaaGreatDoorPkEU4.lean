/- Several texts in one: ScMath, NumMath, RsA, ZigA, RnA, AggIn. What each proves, and its conditions, stands at its own head. -/
import Derived.Test.YtloheacncefkgaaGreatDoorPkEU1
import Derived.Test.YtloheacncefkgaaGreatDoorPkEU0
import Derived.Test.YtloheacncefkgaaGreatDoorChecked
import Derived.WalkKit
import Derived.OwnWalk
import Derived.RowKitTokens
import Derived.Lib.Hide
import Derived.OpenShut
import Derived.ProofKit
/- Layers 11 and 12 in plain words (no program here): the types, their words and kinds, which values they may have, and what stands on the wire. -/
namespace Go.Proofs.YtloheacncefkgaaGreatDoor
open Go.RowKit
set_option linter.unusedVariables false

def Int64 (a : Int) : Prop := -9223372036854775808 ≤ a ∧ a < 9223372036854775808
def typesL : List (List UInt8) := [[], [105, 110, 116, 51, 50], [105, 110, 116, 54, 52], [117, 105, 110, 116, 51, 50], [117, 105, 110, 116, 54, 52], [115, 105, 110, 116, 51, 50], [115, 105, 110, 116, 54, 52], [98, 111, 111, 108], [102, 105, 120, 101, 100, 51, 50], [102, 105, 120, 101, 100, 54, 52], [115, 102, 105, 120, 101, 100, 51, 50], [115, 102, 105, 120, 101, 100, 54, 52], [115, 116, 114, 105, 110, 103], [98, 121, 116, 101, 115]]
def wireT (ty : Int) : Int := if ty = 8 ∨ ty = 10 then 5 else if ty = 9 ∨ ty = 11 then 1 else if ty = 12 ∨ ty = 13 ∨ ty = 15 then 2 else 0
def wholeT (ty : Int) : Bool := decide ((1 ≤ ty ∧ ty ≤ 6) ∨ (8 ≤ ty ∧ ty ≤ 11))
def numberT (ty : Int) : Bool := wholeT ty || decide (ty = 7 ∨ ty = 14)
def signedT (ty : Int) : Bool := decide (ty = 1 ∨ ty = 2 ∨ ty = 5 ∨ ty = 6 ∨ ty = 10 ∨ ty = 11 ∨ ty = 14)
def wideT (ty : Int) : Bool := decide (ty = 2 ∨ ty = 4 ∨ ty = 6 ∨ ty = 9 ∨ ty = 11)
def mayT (ty : Int) (n : Nat) : Bool :=
 if ty < 1 ∨ 15 < ty then false else if wideT ty = true then true else if signedT ty = true then fitsB (wrap64 (n : Int)) else if ty = 3 ∨ ty = 8 then decide (n < 4294967296) else if ty = 7 then decide (n < 2) else decide (n = 0)
def toT (ty : Int) (n : Nat) : Nat :=
 if ty = 3 ∨ ty = 8 ∨ ty = 10 then n % 4294967296 else if ty = 5 ∨ ty = 6 then zigN (wrap64 (n : Int)) else if numberT ty = true then n else 0

theorem ty_cases (ty : Int) : ty = 1 ∨ ty = 2 ∨ ty = 3 ∨ ty = 4 ∨ ty = 5 ∨ ty = 6 ∨ ty = 7 ∨ ty = 8 ∨ ty = 9 ∨ ty = 10 ∨ ty = 11 ∨ ty = 12 ∨ ty = 13 ∨ ty = 14 ∨ ty = 15 ∨ ty < 1 ∨ 15 < ty := by omega
theorem out_wire {ty : Int} (h : ty < 1 ∨ 15 < ty) : wireT ty = 0 := by unfold wireT; rw [if_neg (by omega), if_neg (by omega), if_neg (by omega)]
theorem out_whole {ty : Int} (h : ty < 1 ∨ 15 < ty) : wholeT ty = false := by unfold wholeT; exact decide_eq_false (by omega)
theorem out_number {ty : Int} (h : ty < 1 ∨ 15 < ty) : numberT ty = false := by unfold numberT; rw [out_whole h, Bool.false_or]; exact decide_eq_false (by omega)
theorem out_signed {ty : Int} (h : ty < 1 ∨ 15 < ty) : signedT ty = false := by unfold signedT; exact decide_eq_false (by omega)
theorem out_wide {ty : Int} (h : ty < 1 ∨ 15 < ty) : wideT ty = false := by unfold wideT; exact decide_eq_false (by omega)
theorem out_may {ty : Int} (n : Nat) (h : ty < 1 ∨ 15 < ty) : mayT ty n = false := by unfold mayT; rw [if_pos h]
theorem out_to {ty : Int} (n : Nat) (h : ty < 1 ∨ 15 < ty) : toT ty n = 0 := by
 unfold toT
 rw [if_neg (by omega), if_neg (by omega), out_number h]; rfl

end Go.Proofs.YtloheacncefkgaaGreatDoor

/- Layer 12 in plain words (no program here): what is read may be; what may be is read as it was. -/
namespace Go.Proofs.YtloheacncefkgaaGreatDoor
open Go.RowKit
set_option linter.unusedVariables false

theorem to_lt (ty : Int) (n : Nat) (h : n < 18446744073709551616) : toT ty n < 18446744073709551616 := by
 unfold toT
 split
 ·omega
 ·split
  ·have : -9223372036854775808 ≤ wrap64 (n : Int) ∧ wrap64 (n : Int) < 9223372036854775808 := by unfold wrap64; omega
   unfold zigN; split <;> omega
  ·split <;> omega
end Go.Proofs.YtloheacncefkgaaGreatDoor

/- The document's kinds of types. Conditions: those that each theorem names. -/
namespace Go.Proofs.YtloheacncefkgaaGreatDoor
open Go.RowKit
set_option linter.unusedVariables false
set_option maxRecDepth 100000

theorem rswire_any (ty : Int) (w : World) : Calls Tryz.prog 42 #[.int .i64 ty] w fun e w' => e = .returned (.int .i64 (wireT ty)) ∧ w = w' := by
 rcases ty_cases ty with rfl | rfl | rfl | rfl | rfl | rfl | rfl | rfl | rfl | rfl | rfl | rfl | rfl | rfl | rfl | h | h
 ·go_enter Tryz.func42, Tryz.ntmps42
  go_wp2
  go_ret
  exact ⟨rfl, rfl⟩
 ·go_enter Tryz.func42, Tryz.ntmps42
  go_wp2
  go_ret
  exact ⟨rfl, rfl⟩
 ·go_enter Tryz.func42, Tryz.ntmps42
  go_wp2
  go_ret
  exact ⟨rfl, rfl⟩
 ·go_enter Tryz.func42, Tryz.ntmps42
  go_wp2
  go_ret
  exact ⟨rfl, rfl⟩
 ·go_enter Tryz.func42, Tryz.ntmps42
  go_wp2
  go_ret
  exact ⟨rfl, rfl⟩
 ·go_enter Tryz.func42, Tryz.ntmps42
  go_wp2
  go_ret
  exact ⟨rfl, rfl⟩
 ·go_enter Tryz.func42, Tryz.ntmps42
  go_wp2
  go_ret
  exact ⟨rfl, rfl⟩
 ·go_enter Tryz.func42, Tryz.ntmps42
  go_wp2
  go_ret
  exact ⟨rfl, rfl⟩
 ·go_enter Tryz.func42, Tryz.ntmps42
  go_wp2
  go_ret
  exact ⟨rfl, rfl⟩
 ·go_enter Tryz.func42, Tryz.ntmps42
  go_wp2
  go_ret
  exact ⟨rfl, rfl⟩
 ·go_enter Tryz.func42, Tryz.ntmps42
  go_wp2
  go_ret
  exact ⟨rfl, rfl⟩
 ·go_enter Tryz.func42, Tryz.ntmps42
  go_wp2
  go_ret
  exact ⟨rfl, rfl⟩
 ·go_enter Tryz.func42, Tryz.ntmps42
  go_wp2
  go_ret
  exact ⟨rfl, rfl⟩
 ·go_enter Tryz.func42, Tryz.ntmps42
  go_wp2
  go_ret
  exact ⟨rfl, rfl⟩
 ·go_enter Tryz.func42, Tryz.ntmps42
  go_wp2
  go_ret
  exact ⟨rfl, rfl⟩
 ·rw [out_wire (by omega)]
  have n1 : ¬ ty = 1 := by omega
  have e1 : (ty == 1) = false := beq_false_of_ne n1
  have n2 : ¬ ty = 2 := by omega
  have e2 : (ty == 2) = false := beq_false_of_ne n2
  have n3 : ¬ ty = 3 := by omega
  have e3 : (ty == 3) = false := beq_false_of_ne n3
  have n4 : ¬ ty = 4 := by omega
  have e4 : (ty == 4) = false := beq_false_of_ne n4
  have n5 : ¬ ty = 5 := by omega
  have e5 : (ty == 5) = false := beq_false_of_ne n5
  have n6 : ¬ ty = 6 := by omega
  have e6 : (ty == 6) = false := beq_false_of_ne n6
  have n7 : ¬ ty = 7 := by omega
  have e7 : (ty == 7) = false := beq_false_of_ne n7
  have n8 : ¬ ty = 8 := by omega
  have e8 : (ty == 8) = false := beq_false_of_ne n8
  have n9 : ¬ ty = 9 := by omega
  have e9 : (ty == 9) = false := beq_false_of_ne n9
  have n10 : ¬ ty = 10 := by omega
  have e10 : (ty == 10) = false := beq_false_of_ne n10
  have n11 : ¬ ty = 11 := by omega
  have e11 : (ty == 11) = false := beq_false_of_ne n11
  have n12 : ¬ ty = 12 := by omega
  have e12 : (ty == 12) = false := beq_false_of_ne n12
  have n13 : ¬ ty = 13 := by omega
  have e13 : (ty == 13) = false := beq_false_of_ne n13
  have n14 : ¬ ty = 14 := by omega
  have e14 : (ty == 14) = false := beq_false_of_ne n14
  have n15 : ¬ ty = 15 := by omega
  have e15 : (ty == 15) = false := beq_false_of_ne n15
  have a1 : decide (1 ≤ ty) = false := decide_eq_false (by omega)
  have b1 : decide (ty ≤ 1) = true := decide_eq_true (by omega)
  have c1 : decide (ty < 1) = true := decide_eq_true (by omega)
  have d1 : decide (1 < ty) = false := decide_eq_false (by omega)
  have a6 : decide (6 ≤ ty) = false := decide_eq_false (by omega)
  have b6 : decide (ty ≤ 6) = true := decide_eq_true (by omega)
  have c6 : decide (ty < 6) = true := decide_eq_true (by omega)
  have d6 : decide (6 < ty) = false := decide_eq_false (by omega)
  have a7 : decide (7 ≤ ty) = false := decide_eq_false (by omega)
  have b7 : decide (ty ≤ 7) = true := decide_eq_true (by omega)
  have c7 : decide (ty < 7) = true := decide_eq_true (by omega)
  have d7 : decide (7 < ty) = false := decide_eq_false (by omega)
  have a8 : decide (8 ≤ ty) = false := decide_eq_false (by omega)
  have b8 : decide (ty ≤ 8) = true := decide_eq_true (by omega)
  have c8 : decide (ty < 8) = true := decide_eq_true (by omega)
  have d8 : decide (8 < ty) = false := decide_eq_false (by omega)
  have a11 : decide (11 ≤ ty) = false := decide_eq_false (by omega)
  have b11 : decide (ty ≤ 11) = true := decide_eq_true (by omega)
  have c11 : decide (ty < 11) = true := decide_eq_true (by omega)
  have d11 : decide (11 < ty) = false := decide_eq_false (by omega)
  have a13 : decide (13 ≤ ty) = false := decide_eq_false (by omega)
  have b13 : decide (ty ≤ 13) = true := decide_eq_true (by omega)
  have c13 : decide (ty < 13) = true := decide_eq_true (by omega)
  have d13 : decide (13 < ty) = false := decide_eq_false (by omega)
  have a15 : decide (15 ≤ ty) = false := decide_eq_false (by omega)
  have b15 : decide (ty ≤ 15) = true := decide_eq_true (by omega)
  have c15 : decide (ty < 15) = true := decide_eq_true (by omega)
  have d15 : decide (15 < ty) = false := decide_eq_false (by omega)
  go_enter Tryz.func42, Tryz.ntmps42
  go_wp2
  go_ret
  exact ⟨rfl, rfl⟩
 ·rw [out_wire (by omega)]
  have n1 : ¬ ty = 1 := by omega
  have e1 : (ty == 1) = false := beq_false_of_ne n1
  have n2 : ¬ ty = 2 := by omega
  have e2 : (ty == 2) = false := beq_false_of_ne n2
  have n3 : ¬ ty = 3 := by omega
  have e3 : (ty == 3) = false := beq_false_of_ne n3
  have n4 : ¬ ty = 4 := by omega
  have e4 : (ty == 4) = false := beq_false_of_ne n4
  have n5 : ¬ ty = 5 := by omega
  have e5 : (ty == 5) = false := beq_false_of_ne n5
  have n6 : ¬ ty = 6 := by omega
  have e6 : (ty == 6) = false := beq_false_of_ne n6
  have n7 : ¬ ty = 7 := by omega
  have e7 : (ty == 7) = false := beq_false_of_ne n7
  have n8 : ¬ ty = 8 := by omega
  have e8 : (ty == 8) = false := beq_false_of_ne n8
  have n9 : ¬ ty = 9 := by omega
  have e9 : (ty == 9) = false := beq_false_of_ne n9
  have n10 : ¬ ty = 10 := by omega
  have e10 : (ty == 10) = false := beq_false_of_ne n10
  have n11 : ¬ ty = 11 := by omega
  have e11 : (ty == 11) = false := beq_false_of_ne n11
  have n12 : ¬ ty = 12 := by omega
  have e12 : (ty == 12) = false := beq_false_of_ne n12
  have n13 : ¬ ty = 13 := by omega
  have e13 : (ty == 13) = false := beq_false_of_ne n13
  have n14 : ¬ ty = 14 := by omega
  have e14 : (ty == 14) = false := beq_false_of_ne n14
  have n15 : ¬ ty = 15 := by omega
  have e15 : (ty == 15) = false := beq_false_of_ne n15
  have a1 : decide (1 ≤ ty) = true := decide_eq_true (by omega)
  have b1 : decide (ty ≤ 1) = false := decide_eq_false (by omega)
  have c1 : decide (ty < 1) = false := decide_eq_false (by omega)
  have d1 : decide (1 < ty) = true := decide_eq_true (by omega)
  have a6 : decide (6 ≤ ty) = true := decide_eq_true (by omega)
  have b6 : decide (ty ≤ 6) = false := decide_eq_false (by omega)
  have c6 : decide (ty < 6) = false := decide_eq_false (by omega)
  have d6 : decide (6 < ty) = true := decide_eq_true (by omega)
  have a7 : decide (7 ≤ ty) = true := decide_eq_true (by omega)
  have b7 : decide (ty ≤ 7) = false := decide_eq_false (by omega)
  have c7 : decide (ty < 7) = false := decide_eq_false (by omega)
  have d7 : decide (7 < ty) = true := decide_eq_true (by omega)
  have a8 : decide (8 ≤ ty) = true := decide_eq_true (by omega)
  have b8 : decide (ty ≤ 8) = false := decide_eq_false (by omega)
  have c8 : decide (ty < 8) = false := decide_eq_false (by omega)
  have d8 : decide (8 < ty) = true := decide_eq_true (by omega)
  have a11 : decide (11 ≤ ty) = true := decide_eq_true (by omega)
  have b11 : decide (ty ≤ 11) = false := decide_eq_false (by omega)
  have c11 : decide (ty < 11) = false := decide_eq_false (by omega)
  have d11 : decide (11 < ty) = true := decide_eq_true (by omega)
  have a13 : decide (13 ≤ ty) = true := decide_eq_true (by omega)
  have b13 : decide (ty ≤ 13) = false := decide_eq_false (by omega)
  have c13 : decide (ty < 13) = false := decide_eq_false (by omega)
  have d13 : decide (13 < ty) = true := decide_eq_true (by omega)
  have a15 : decide (15 ≤ ty) = true := decide_eq_true (by omega)
  have b15 : decide (ty ≤ 15) = false := decide_eq_false (by omega)
  have c15 : decide (ty < 15) = false := decide_eq_false (by omega)
  have d15 : decide (15 < ty) = true := decide_eq_true (by omega)
  go_enter Tryz.func42, Tryz.ntmps42
  go_wp2
  go_ret
  exact ⟨rfl, rfl⟩
theorem rswhole_any (ty : Int) (w : World) : Calls Tryz.prog 95 #[.int .i64 ty] w fun e w' => e = .returned (.bool (wholeT ty)) ∧ w = w' := by
 rcases ty_cases ty with rfl | rfl | rfl | rfl | rfl | rfl | rfl | rfl | rfl | rfl | rfl | rfl | rfl | rfl | rfl | h | h
 ·go_enter Tryz.func95, Tryz.ntmps95
  go_wp2
  go_ret
  exact ⟨rfl, rfl⟩
 ·go_enter Tryz.func95, Tryz.ntmps95
  go_wp2
  go_ret
  exact ⟨rfl, rfl⟩
 ·go_enter Tryz.func95, Tryz.ntmps95
  go_wp2
  go_ret
  exact ⟨rfl, rfl⟩
 ·go_enter Tryz.func95, Tryz.ntmps95
  go_wp2
  go_ret
  exact ⟨rfl, rfl⟩
 ·go_enter Tryz.func95, Tryz.ntmps95
  go_wp2
  go_ret
  exact ⟨rfl, rfl⟩
 ·go_enter Tryz.func95, Tryz.ntmps95
  go_wp2
  go_ret
  exact ⟨rfl, rfl⟩
 ·go_enter Tryz.func95, Tryz.ntmps95
  go_wp2
  go_ret
  exact ⟨rfl, rfl⟩
 ·go_enter Tryz.func95, Tryz.ntmps95
  go_wp2
  go_ret
  exact ⟨rfl, rfl⟩
 ·go_enter Tryz.func95, Tryz.ntmps95
  go_wp2
  go_ret
  exact ⟨rfl, rfl⟩
 ·go_enter Tryz.func95, Tryz.ntmps95
  go_wp2
  go_ret
  exact ⟨rfl, rfl⟩
 ·go_enter Tryz.func95, Tryz.ntmps95
  go_wp2
  go_ret
  exact ⟨rfl, rfl⟩
 ·go_enter Tryz.func95, Tryz.ntmps95
  go_wp2
  go_ret
  exact ⟨rfl, rfl⟩
 ·go_enter Tryz.func95, Tryz.ntmps95
  go_wp2
  go_ret
  exact ⟨rfl, rfl⟩
 ·go_enter Tryz.func95, Tryz.ntmps95
  go_wp2
  go_ret
  exact ⟨rfl, rfl⟩
 ·go_enter Tryz.func95, Tryz.ntmps95
  go_wp2
  go_ret
  exact ⟨rfl, rfl⟩
 ·rw [out_whole (by omega)]
  have n1 : ¬ ty = 1 := by omega
  have e1 : (ty == 1) = false := beq_false_of_ne n1
  have n2 : ¬ ty = 2 := by omega
  have e2 : (ty == 2) = false := beq_false_of_ne n2
  have n3 : ¬ ty = 3 := by omega
  have e3 : (ty == 3) = false := beq_false_of_ne n3
  have n4 : ¬ ty = 4 := by omega
  have e4 : (ty == 4) = false := beq_false_of_ne n4
  have n5 : ¬ ty = 5 := by omega
  have e5 : (ty == 5) = false := beq_false_of_ne n5
  have n6 : ¬ ty = 6 := by omega
  have e6 : (ty == 6) = false := beq_false_of_ne n6
  have n7 : ¬ ty = 7 := by omega
  have e7 : (ty == 7) = false := beq_false_of_ne n7
  have n8 : ¬ ty = 8 := by omega
  have e8 : (ty == 8) = false := beq_false_of_ne n8
  have n9 : ¬ ty = 9 := by omega
  have e9 : (ty == 9) = false := beq_false_of_ne n9
  have n10 : ¬ ty = 10 := by omega
  have e10 : (ty == 10) = false := beq_false_of_ne n10
  have n11 : ¬ ty = 11 := by omega
  have e11 : (ty == 11) = false := beq_false_of_ne n11
  have n12 : ¬ ty = 12 := by omega
  have e12 : (ty == 12) = false := beq_false_of_ne n12
  have n13 : ¬ ty = 13 := by omega
  have e13 : (ty == 13) = false := beq_false_of_ne n13
  have n14 : ¬ ty = 14 := by omega
  have e14 : (ty == 14) = false := beq_false_of_ne n14
  have n15 : ¬ ty = 15 := by omega
  have e15 : (ty == 15) = false := beq_false_of_ne n15
  have a1 : decide (1 ≤ ty) = false := decide_eq_false (by omega)
  have b1 : decide (ty ≤ 1) = true := decide_eq_true (by omega)
  have c1 : decide (ty < 1) = true := decide_eq_true (by omega)
  have d1 : decide (1 < ty) = false := decide_eq_false (by omega)
  have a6 : decide (6 ≤ ty) = false := decide_eq_false (by omega)
  have b6 : decide (ty ≤ 6) = true := decide_eq_true (by omega)
  have c6 : decide (ty < 6) = true := decide_eq_true (by omega)
  have d6 : decide (6 < ty) = false := decide_eq_false (by omega)
  have a7 : decide (7 ≤ ty) = false := decide_eq_false (by omega)
  have b7 : decide (ty ≤ 7) = true := decide_eq_true (by omega)
  have c7 : decide (ty < 7) = true := decide_eq_true (by omega)
  have d7 : decide (7 < ty) = false := decide_eq_false (by omega)
  have a8 : decide (8 ≤ ty) = false := decide_eq_false (by omega)
  have b8 : decide (ty ≤ 8) = true := decide_eq_true (by omega)
  have c8 : decide (ty < 8) = true := decide_eq_true (by omega)
  have d8 : decide (8 < ty) = false := decide_eq_false (by omega)
  have a11 : decide (11 ≤ ty) = false := decide_eq_false (by omega)
  have b11 : decide (ty ≤ 11) = true := decide_eq_true (by omega)
  have c11 : decide (ty < 11) = true := decide_eq_true (by omega)
  have d11 : decide (11 < ty) = false := decide_eq_false (by omega)
  have a13 : decide (13 ≤ ty) = false := decide_eq_false (by omega)
  have b13 : decide (ty ≤ 13) = true := decide_eq_true (by omega)
  have c13 : decide (ty < 13) = true := decide_eq_true (by omega)
  have d13 : decide (13 < ty) = false := decide_eq_false (by omega)
  have a15 : decide (15 ≤ ty) = false := decide_eq_false (by omega)
  have b15 : decide (ty ≤ 15) = true := decide_eq_true (by omega)
  have c15 : decide (ty < 15) = true := decide_eq_true (by omega)
  have d15 : decide (15 < ty) = false := decide_eq_false (by omega)
  go_enter Tryz.func95, Tryz.ntmps95
  go_wp2
  go_ret
  exact ⟨rfl, rfl⟩
 ·rw [out_whole (by omega)]
  have n1 : ¬ ty = 1 := by omega
  have e1 : (ty == 1) = false := beq_false_of_ne n1
  have n2 : ¬ ty = 2 := by omega
  have e2 : (ty == 2) = false := beq_false_of_ne n2
  have n3 : ¬ ty = 3 := by omega
  have e3 : (ty == 3) = false := beq_false_of_ne n3
  have n4 : ¬ ty = 4 := by omega
  have e4 : (ty == 4) = false := beq_false_of_ne n4
  have n5 : ¬ ty = 5 := by omega
  have e5 : (ty == 5) = false := beq_false_of_ne n5
  have n6 : ¬ ty = 6 := by omega
  have e6 : (ty == 6) = false := beq_false_of_ne n6
  have n7 : ¬ ty = 7 := by omega
  have e7 : (ty == 7) = false := beq_false_of_ne n7
  have n8 : ¬ ty = 8 := by omega
  have e8 : (ty == 8) = false := beq_false_of_ne n8
  have n9 : ¬ ty = 9 := by omega
  have e9 : (ty == 9) = false := beq_false_of_ne n9
  have n10 : ¬ ty = 10 := by omega
  have e10 : (ty == 10) = false := beq_false_of_ne n10
  have n11 : ¬ ty = 11 := by omega
  have e11 : (ty == 11) = false := beq_false_of_ne n11
  have n12 : ¬ ty = 12 := by omega
  have e12 : (ty == 12) = false := beq_false_of_ne n12
  have n13 : ¬ ty = 13 := by omega
  have e13 : (ty == 13) = false := beq_false_of_ne n13
  have n14 : ¬ ty = 14 := by omega
  have e14 : (ty == 14) = false := beq_false_of_ne n14
  have n15 : ¬ ty = 15 := by omega
  have e15 : (ty == 15) = false := beq_false_of_ne n15
  have a1 : decide (1 ≤ ty) = true := decide_eq_true (by omega)
  have b1 : decide (ty ≤ 1) = false := decide_eq_false (by omega)
  have c1 : decide (ty < 1) = false := decide_eq_false (by omega)
  have d1 : decide (1 < ty) = true := decide_eq_true (by omega)
  have a6 : decide (6 ≤ ty) = true := decide_eq_true (by omega)
  have b6 : decide (ty ≤ 6) = false := decide_eq_false (by omega)
  have c6 : decide (ty < 6) = false := decide_eq_false (by omega)
  have d6 : decide (6 < ty) = true := decide_eq_true (by omega)
  have a7 : decide (7 ≤ ty) = true := decide_eq_true (by omega)
  have b7 : decide (ty ≤ 7) = false := decide_eq_false (by omega)
  have c7 : decide (ty < 7) = false := decide_eq_false (by omega)
  have d7 : decide (7 < ty) = true := decide_eq_true (by omega)
  have a8 : decide (8 ≤ ty) = true := decide_eq_true (by omega)
  have b8 : decide (ty ≤ 8) = false := decide_eq_false (by omega)
  have c8 : decide (ty < 8) = false := decide_eq_false (by omega)
  have d8 : decide (8 < ty) = true := decide_eq_true (by omega)
  have a11 : decide (11 ≤ ty) = true := decide_eq_true (by omega)
  have b11 : decide (ty ≤ 11) = false := decide_eq_false (by omega)
  have c11 : decide (ty < 11) = false := decide_eq_false (by omega)
  have d11 : decide (11 < ty) = true := decide_eq_true (by omega)
  have a13 : decide (13 ≤ ty) = true := decide_eq_true (by omega)
  have b13 : decide (ty ≤ 13) = false := decide_eq_false (by omega)
  have c13 : decide (ty < 13) = false := decide_eq_false (by omega)
  have d13 : decide (13 < ty) = true := decide_eq_true (by omega)
  have a15 : decide (15 ≤ ty) = true := decide_eq_true (by omega)
  have b15 : decide (ty ≤ 15) = false := decide_eq_false (by omega)
  have c15 : decide (ty < 15) = false := decide_eq_false (by omega)
  have d15 : decide (15 < ty) = true := decide_eq_true (by omega)
  go_enter Tryz.func95, Tryz.ntmps95
  go_wp2
  go_ret
  exact ⟨rfl, rfl⟩
theorem rsnumber_any (ty : Int) (w : World) : Calls Tryz.prog 40 #[.int .i64 ty] w fun e w' => e = .returned (.bool (numberT ty)) ∧ w = w' := by
 rcases ty_cases ty with rfl | rfl | rfl | rfl | rfl | rfl | rfl | rfl | rfl | rfl | rfl | rfl | rfl | rfl | rfl | h | h
 ·go_enter Tryz.func40, Tryz.ntmps40
  go_wp2_with (first | (go_at_call 95; refine (rswhole_any _ _).mono ?_; rintro e w' ⟨rfl, rfl⟩; (try rw [out_whole (by omega)])))
  go_ret
  exact ⟨rfl, rfl⟩
 ·go_enter Tryz.func40, Tryz.ntmps40
  go_wp2_with (first | (go_at_call 95; refine (rswhole_any _ _).mono ?_; rintro e w' ⟨rfl, rfl⟩; (try rw [out_whole (by omega)])))
  go_ret
  exact ⟨rfl, rfl⟩
 ·go_enter Tryz.func40, Tryz.ntmps40
  go_wp2_with (first | (go_at_call 95; refine (rswhole_any _ _).mono ?_; rintro e w' ⟨rfl, rfl⟩; (try rw [out_whole (by omega)])))
  go_ret
  exact ⟨rfl, rfl⟩
 ·go_enter Tryz.func40, Tryz.ntmps40
  go_wp2_with (first | (go_at_call 95; refine (rswhole_any _ _).mono ?_; rintro e w' ⟨rfl, rfl⟩; (try rw [out_whole (by omega)])))
  go_ret
  exact ⟨rfl, rfl⟩
 ·go_enter Tryz.func40, Tryz.ntmps40
  go_wp2_with (first | (go_at_call 95; refine (rswhole_any _ _).mono ?_; rintro e w' ⟨rfl, rfl⟩; (try rw [out_whole (by omega)])))
  go_ret
  exact ⟨rfl, rfl⟩
 ·go_enter Tryz.func40, Tryz.ntmps40
  go_wp2_with (first | (go_at_call 95; refine (rswhole_any _ _).mono ?_; rintro e w' ⟨rfl, rfl⟩; (try rw [out_whole (by omega)])))
  go_ret
  exact ⟨rfl, rfl⟩
 ·go_enter Tryz.func40, Tryz.ntmps40
  go_wp2_with (first | (go_at_call 95; refine (rswhole_any _ _).mono ?_; rintro e w' ⟨rfl, rfl⟩; (try rw [out_whole (by omega)])))
  go_ret
  exact ⟨rfl, rfl⟩
 ·go_enter Tryz.func40, Tryz.ntmps40
  go_wp2_with (first | (go_at_call 95; refine (rswhole_any _ _).mono ?_; rintro e w' ⟨rfl, rfl⟩; (try rw [out_whole (by omega)])))
  go_ret
  exact ⟨rfl, rfl⟩
 ·go_enter Tryz.func40, Tryz.ntmps40
  go_wp2_with (first | (go_at_call 95; refine (rswhole_any _ _).mono ?_; rintro e w' ⟨rfl, rfl⟩; (try rw [out_whole (by omega)])))
  go_ret
  exact ⟨rfl, rfl⟩
 ·go_enter Tryz.func40, Tryz.ntmps40
  go_wp2_with (first | (go_at_call 95; refine (rswhole_any _ _).mono ?_; rintro e w' ⟨rfl, rfl⟩; (try rw [out_whole (by omega)])))
  go_ret
  exact ⟨rfl, rfl⟩
 ·go_enter Tryz.func40, Tryz.ntmps40
  go_wp2_with (first | (go_at_call 95; refine (rswhole_any _ _).mono ?_; rintro e w' ⟨rfl, rfl⟩; (try rw [out_whole (by omega)])))
  go_ret
  exact ⟨rfl, rfl⟩
 ·go_enter Tryz.func40, Tryz.ntmps40
  go_wp2_with (first | (go_at_call 95; refine (rswhole_any _ _).mono ?_; rintro e w' ⟨rfl, rfl⟩; (try rw [out_whole (by omega)])))
  go_ret
  exact ⟨rfl, rfl⟩
 ·go_enter Tryz.func40, Tryz.ntmps40
  go_wp2_with (first | (go_at_call 95; refine (rswhole_any _ _).mono ?_; rintro e w' ⟨rfl, rfl⟩; (try rw [out_whole (by omega)])))
  go_ret
  exact ⟨rfl, rfl⟩
 ·go_enter Tryz.func40, Tryz.ntmps40
  go_wp2_with (first | (go_at_call 95; refine (rswhole_any _ _).mono ?_; rintro e w' ⟨rfl, rfl⟩; (try rw [out_whole (by omega)])))
  go_ret
  exact ⟨rfl, rfl⟩
 ·go_enter Tryz.func40, Tryz.ntmps40
  go_wp2_with (first | (go_at_call 95; refine (rswhole_any _ _).mono ?_; rintro e w' ⟨rfl, rfl⟩; (try rw [out_whole (by omega)])))
  go_ret
  exact ⟨rfl, rfl⟩
 ·rw [out_number (by omega)]
  have n1 : ¬ ty = 1 := by omega
  have e1 : (ty == 1) = false := beq_false_of_ne n1
  have n2 : ¬ ty = 2 := by omega
  have e2 : (ty == 2) = false := beq_false_of_ne n2
  have n3 : ¬ ty = 3 := by omega
  have e3 : (ty == 3) = false := beq_false_of_ne n3
  have n4 : ¬ ty = 4 := by omega
  have e4 : (ty == 4) = false := beq_false_of_ne n4
  have n5 : ¬ ty = 5 := by omega
  have e5 : (ty == 5) = false := beq_false_of_ne n5
  have n6 : ¬ ty = 6 := by omega
  have e6 : (ty == 6) = false := beq_false_of_ne n6
  have n7 : ¬ ty = 7 := by omega
  have e7 : (ty == 7) = false := beq_false_of_ne n7
  have n8 : ¬ ty = 8 := by omega
  have e8 : (ty == 8) = false := beq_false_of_ne n8
  have n9 : ¬ ty = 9 := by omega
  have e9 : (ty == 9) = false := beq_false_of_ne n9
  have n10 : ¬ ty = 10 := by omega
  have e10 : (ty == 10) = false := beq_false_of_ne n10
  have n11 : ¬ ty = 11 := by omega
  have e11 : (ty == 11) = false := beq_false_of_ne n11
  have n12 : ¬ ty = 12 := by omega
  have e12 : (ty == 12) = false := beq_false_of_ne n12
  have n13 : ¬ ty = 13 := by omega
  have e13 : (ty == 13) = false := beq_false_of_ne n13
  have n14 : ¬ ty = 14 := by omega
  have e14 : (ty == 14) = false := beq_false_of_ne n14
  have n15 : ¬ ty = 15 := by omega
  have e15 : (ty == 15) = false := beq_false_of_ne n15
  have a1 : decide (1 ≤ ty) = false := decide_eq_false (by omega)
  have b1 : decide (ty ≤ 1) = true := decide_eq_true (by omega)
  have c1 : decide (ty < 1) = true := decide_eq_true (by omega)
  have d1 : decide (1 < ty) = false := decide_eq_false (by omega)
  have a6 : decide (6 ≤ ty) = false := decide_eq_false (by omega)
  have b6 : decide (ty ≤ 6) = true := decide_eq_true (by omega)
  have c6 : decide (ty < 6) = true := decide_eq_true (by omega)
  have d6 : decide (6 < ty) = false := decide_eq_false (by omega)
  have a7 : decide (7 ≤ ty) = false := decide_eq_false (by omega)
  have b7 : decide (ty ≤ 7) = true := decide_eq_true (by omega)
  have c7 : decide (ty < 7) = true := decide_eq_true (by omega)
  have d7 : decide (7 < ty) = false := decide_eq_false (by omega)
  have a8 : decide (8 ≤ ty) = false := decide_eq_false (by omega)
  have b8 : decide (ty ≤ 8) = true := decide_eq_true (by omega)
  have c8 : decide (ty < 8) = true := decide_eq_true (by omega)
  have d8 : decide (8 < ty) = false := decide_eq_false (by omega)
  have a11 : decide (11 ≤ ty) = false := decide_eq_false (by omega)
  have b11 : decide (ty ≤ 11) = true := decide_eq_true (by omega)
  have c11 : decide (ty < 11) = true := decide_eq_true (by omega)
  have d11 : decide (11 < ty) = false := decide_eq_false (by omega)
  have a13 : decide (13 ≤ ty) = false := decide_eq_false (by omega)
  have b13 : decide (ty ≤ 13) = true := decide_eq_true (by omega)
  have c13 : decide (ty < 13) = true := decide_eq_true (by omega)
  have d13 : decide (13 < ty) = false := decide_eq_false (by omega)
  have a15 : decide (15 ≤ ty) = false := decide_eq_false (by omega)
  have b15 : decide (ty ≤ 15) = true := decide_eq_true (by omega)
  have c15 : decide (ty < 15) = true := decide_eq_true (by omega)
  have d15 : decide (15 < ty) = false := decide_eq_false (by omega)
  go_enter Tryz.func40, Tryz.ntmps40
  go_wp2_with (first | (go_at_call 95; refine (rswhole_any _ _).mono ?_; rintro e w' ⟨rfl, rfl⟩; (try rw [out_whole (by omega)])))
  go_ret
  exact ⟨rfl, rfl⟩
 ·rw [out_number (by omega)]
  have n1 : ¬ ty = 1 := by omega
  have e1 : (ty == 1) = false := beq_false_of_ne n1
  have n2 : ¬ ty = 2 := by omega
  have e2 : (ty == 2) = false := beq_false_of_ne n2
  have n3 : ¬ ty = 3 := by omega
  have e3 : (ty == 3) = false := beq_false_of_ne n3
  have n4 : ¬ ty = 4 := by omega
  have e4 : (ty == 4) = false := beq_false_of_ne n4
  have n5 : ¬ ty = 5 := by omega
  have e5 : (ty == 5) = false := beq_false_of_ne n5
  have n6 : ¬ ty = 6 := by omega
  have e6 : (ty == 6) = false := beq_false_of_ne n6
  have n7 : ¬ ty = 7 := by omega
  have e7 : (ty == 7) = false := beq_false_of_ne n7
  have n8 : ¬ ty = 8 := by omega
  have e8 : (ty == 8) = false := beq_false_of_ne n8
  have n9 : ¬ ty = 9 := by omega
  have e9 : (ty == 9) = false := beq_false_of_ne n9
  have n10 : ¬ ty = 10 := by omega
  have e10 : (ty == 10) = false := beq_false_of_ne n10
  have n11 : ¬ ty = 11 := by omega
  have e11 : (ty == 11) = false := beq_false_of_ne n11
  have n12 : ¬ ty = 12 := by omega
  have e12 : (ty == 12) = false := beq_false_of_ne n12
  have n13 : ¬ ty = 13 := by omega
  have e13 : (ty == 13) = false := beq_false_of_ne n13
  have n14 : ¬ ty = 14 := by omega
  have e14 : (ty == 14) = false := beq_false_of_ne n14
  have n15 : ¬ ty = 15 := by omega
  have e15 : (ty == 15) = false := beq_false_of_ne n15
  have a1 : decide (1 ≤ ty) = true := decide_eq_true (by omega)
  have b1 : decide (ty ≤ 1) = false := decide_eq_false (by omega)
  have c1 : decide (ty < 1) = false := decide_eq_false (by omega)
  have d1 : decide (1 < ty) = true := decide_eq_true (by omega)
  have a6 : decide (6 ≤ ty) = true := decide_eq_true (by omega)
  have b6 : decide (ty ≤ 6) = false := decide_eq_false (by omega)
  have c6 : decide (ty < 6) = false := decide_eq_false (by omega)
  have d6 : decide (6 < ty) = true := decide_eq_true (by omega)
  have a7 : decide (7 ≤ ty) = true := decide_eq_true (by omega)
  have b7 : decide (ty ≤ 7) = false := decide_eq_false (by omega)
  have c7 : decide (ty < 7) = false := decide_eq_false (by omega)
  have d7 : decide (7 < ty) = true := decide_eq_true (by omega)
  have a8 : decide (8 ≤ ty) = true := decide_eq_true (by omega)
  have b8 : decide (ty ≤ 8) = false := decide_eq_false (by omega)
  have c8 : decide (ty < 8) = false := decide_eq_false (by omega)
  have d8 : decide (8 < ty) = true := decide_eq_true (by omega)
  have a11 : decide (11 ≤ ty) = true := decide_eq_true (by omega)
  have b11 : decide (ty ≤ 11) = false := decide_eq_false (by omega)
  have c11 : decide (ty < 11) = false := decide_eq_false (by omega)
  have d11 : decide (11 < ty) = true := decide_eq_true (by omega)
  have a13 : decide (13 ≤ ty) = true := decide_eq_true (by omega)
  have b13 : decide (ty ≤ 13) = false := decide_eq_false (by omega)
  have c13 : decide (ty < 13) = false := decide_eq_false (by omega)
  have d13 : decide (13 < ty) = true := decide_eq_true (by omega)
  have a15 : decide (15 ≤ ty) = true := decide_eq_true (by omega)
  have b15 : decide (ty ≤ 15) = false := decide_eq_false (by omega)
  have c15 : decide (ty < 15) = false := decide_eq_false (by omega)
  have d15 : decide (15 < ty) = true := decide_eq_true (by omega)
  go_enter Tryz.func40, Tryz.ntmps40
  go_wp2_with (first | (go_at_call 95; refine (rswhole_any _ _).mono ?_; rintro e w' ⟨rfl, rfl⟩; (try rw [out_whole (by omega)])))
  go_ret
  exact ⟨rfl, rfl⟩
theorem rssigned_any (ty : Int) (w : World) : Calls Tryz.prog 161 #[.int .i64 ty] w fun e w' => e = .returned (.bool (signedT ty)) ∧ w = w' := by
 rcases ty_cases ty with rfl | rfl | rfl | rfl | rfl | rfl | rfl | rfl | rfl | rfl | rfl | rfl | rfl | rfl | rfl | h | h
 ·go_enter Tryz.func161, Tryz.ntmps161
  go_wp2
  go_ret
  exact ⟨rfl, rfl⟩
 ·go_enter Tryz.func161, Tryz.ntmps161
  go_wp2
  go_ret
  exact ⟨rfl, rfl⟩
 ·go_enter Tryz.func161, Tryz.ntmps161
  go_wp2
  go_ret
  exact ⟨rfl, rfl⟩
 ·go_enter Tryz.func161, Tryz.ntmps161
  go_wp2
  go_ret
  exact ⟨rfl, rfl⟩
 ·go_enter Tryz.func161, Tryz.ntmps161
  go_wp2
  go_ret
  exact ⟨rfl, rfl⟩
 ·go_enter Tryz.func161, Tryz.ntmps161
  go_wp2
  go_ret
  exact ⟨rfl, rfl⟩
 ·go_enter Tryz.func161, Tryz.ntmps161
  go_wp2
  go_ret
  exact ⟨rfl, rfl⟩
 ·go_enter Tryz.func161, Tryz.ntmps161
  go_wp2
  go_ret
  exact ⟨rfl, rfl⟩
 ·go_enter Tryz.func161, Tryz.ntmps161
  go_wp2
  go_ret
  exact ⟨rfl, rfl⟩
 ·go_enter Tryz.func161, Tryz.ntmps161
  go_wp2
  go_ret
  exact ⟨rfl, rfl⟩
 ·go_enter Tryz.func161, Tryz.ntmps161
  go_wp2
  go_ret
  exact ⟨rfl, rfl⟩
 ·go_enter Tryz.func161, Tryz.ntmps161
  go_wp2
  go_ret
  exact ⟨rfl, rfl⟩
 ·go_enter Tryz.func161, Tryz.ntmps161
  go_wp2
  go_ret
  exact ⟨rfl, rfl⟩
 ·go_enter Tryz.func161, Tryz.ntmps161
  go_wp2
  go_ret
  exact ⟨rfl, rfl⟩
 ·go_enter Tryz.func161, Tryz.ntmps161
  go_wp2
  go_ret
  exact ⟨rfl, rfl⟩
 ·rw [out_signed (by omega)]
  have n1 : ¬ ty = 1 := by omega
  have e1 : (ty == 1) = false := beq_false_of_ne n1
  have n2 : ¬ ty = 2 := by omega
  have e2 : (ty == 2) = false := beq_false_of_ne n2
  have n3 : ¬ ty = 3 := by omega
  have e3 : (ty == 3) = false := beq_false_of_ne n3
  have n4 : ¬ ty = 4 := by omega
  have e4 : (ty == 4) = false := beq_false_of_ne n4
  have n5 : ¬ ty = 5 := by omega
  have e5 : (ty == 5) = false := beq_false_of_ne n5
  have n6 : ¬ ty = 6 := by omega
  have e6 : (ty == 6) = false := beq_false_of_ne n6
  have n7 : ¬ ty = 7 := by omega
  have e7 : (ty == 7) = false := beq_false_of_ne n7
  have n8 : ¬ ty = 8 := by omega
  have e8 : (ty == 8) = false := beq_false_of_ne n8
  have n9 : ¬ ty = 9 := by omega
  have e9 : (ty == 9) = false := beq_false_of_ne n9
  have n10 : ¬ ty = 10 := by omega
  have e10 : (ty == 10) = false := beq_false_of_ne n10
  have n11 : ¬ ty = 11 := by omega
  have e11 : (ty == 11) = false := beq_false_of_ne n11
  have n12 : ¬ ty = 12 := by omega
  have e12 : (ty == 12) = false := beq_false_of_ne n12
  have n13 : ¬ ty = 13 := by omega
  have e13 : (ty == 13) = false := beq_false_of_ne n13
  have n14 : ¬ ty = 14 := by omega
  have e14 : (ty == 14) = false := beq_false_of_ne n14
  have n15 : ¬ ty = 15 := by omega
  have e15 : (ty == 15) = false := beq_false_of_ne n15
  have a1 : decide (1 ≤ ty) = false := decide_eq_false (by omega)
  have b1 : decide (ty ≤ 1) = true := decide_eq_true (by omega)
  have c1 : decide (ty < 1) = true := decide_eq_true (by omega)
  have d1 : decide (1 < ty) = false := decide_eq_false (by omega)
  have a6 : decide (6 ≤ ty) = false := decide_eq_false (by omega)
  have b6 : decide (ty ≤ 6) = true := decide_eq_true (by omega)
  have c6 : decide (ty < 6) = true := decide_eq_true (by omega)
  have d6 : decide (6 < ty) = false := decide_eq_false (by omega)
  have a7 : decide (7 ≤ ty) = false := decide_eq_false (by omega)
  have b7 : decide (ty ≤ 7) = true := decide_eq_true (by omega)
  have c7 : decide (ty < 7) = true := decide_eq_true (by omega)
  have d7 : decide (7 < ty) = false := decide_eq_false (by omega)
  have a8 : decide (8 ≤ ty) = false := decide_eq_false (by omega)
  have b8 : decide (ty ≤ 8) = true := decide_eq_true (by omega)
  have c8 : decide (ty < 8) = true := decide_eq_true (by omega)
  have d8 : decide (8 < ty) = false := decide_eq_false (by omega)
  have a11 : decide (11 ≤ ty) = false := decide_eq_false (by omega)
  have b11 : decide (ty ≤ 11) = true := decide_eq_true (by omega)
  have c11 : decide (ty < 11) = true := decide_eq_true (by omega)
  have d11 : decide (11 < ty) = false := decide_eq_false (by omega)
  have a13 : decide (13 ≤ ty) = false := decide_eq_false (by omega)
  have b13 : decide (ty ≤ 13) = true := decide_eq_true (by omega)
  have c13 : decide (ty < 13) = true := decide_eq_true (by omega)
  have d13 : decide (13 < ty) = false := decide_eq_false (by omega)
  have a15 : decide (15 ≤ ty) = false := decide_eq_false (by omega)
  have b15 : decide (ty ≤ 15) = true := decide_eq_true (by omega)
  have c15 : decide (ty < 15) = true := decide_eq_true (by omega)
  have d15 : decide (15 < ty) = false := decide_eq_false (by omega)
  go_enter Tryz.func161, Tryz.ntmps161
  go_wp2
  go_ret
  exact ⟨rfl, rfl⟩
 ·rw [out_signed (by omega)]
  have n1 : ¬ ty = 1 := by omega
  have e1 : (ty == 1) = false := beq_false_of_ne n1
  have n2 : ¬ ty = 2 := by omega
  have e2 : (ty == 2) = false := beq_false_of_ne n2
  have n3 : ¬ ty = 3 := by omega
  have e3 : (ty == 3) = false := beq_false_of_ne n3
  have n4 : ¬ ty = 4 := by omega
  have e4 : (ty == 4) = false := beq_false_of_ne n4
  have n5 : ¬ ty = 5 := by omega
  have e5 : (ty == 5) = false := beq_false_of_ne n5
  have n6 : ¬ ty = 6 := by omega
  have e6 : (ty == 6) = false := beq_false_of_ne n6
  have n7 : ¬ ty = 7 := by omega
  have e7 : (ty == 7) = false := beq_false_of_ne n7
  have n8 : ¬ ty = 8 := by omega
  have e8 : (ty == 8) = false := beq_false_of_ne n8
  have n9 : ¬ ty = 9 := by omega
  have e9 : (ty == 9) = false := beq_false_of_ne n9
  have n10 : ¬ ty = 10 := by omega
  have e10 : (ty == 10) = false := beq_false_of_ne n10
  have n11 : ¬ ty = 11 := by omega
  have e11 : (ty == 11) = false := beq_false_of_ne n11
  have n12 : ¬ ty = 12 := by omega
  have e12 : (ty == 12) = false := beq_false_of_ne n12
  have n13 : ¬ ty = 13 := by omega
  have e13 : (ty == 13) = false := beq_false_of_ne n13
  have n14 : ¬ ty = 14 := by omega
  have e14 : (ty == 14) = false := beq_false_of_ne n14
  have n15 : ¬ ty = 15 := by omega
  have e15 : (ty == 15) = false := beq_false_of_ne n15
  have a1 : decide (1 ≤ ty) = true := decide_eq_true (by omega)
  have b1 : decide (ty ≤ 1) = false := decide_eq_false (by omega)
  have c1 : decide (ty < 1) = false := decide_eq_false (by omega)
  have d1 : decide (1 < ty) = true := decide_eq_true (by omega)
  have a6 : decide (6 ≤ ty) = true := decide_eq_true (by omega)
  have b6 : decide (ty ≤ 6) = false := decide_eq_false (by omega)
  have c6 : decide (ty < 6) = false := decide_eq_false (by omega)
  have d6 : decide (6 < ty) = true := decide_eq_true (by omega)
  have a7 : decide (7 ≤ ty) = true := decide_eq_true (by omega)
  have b7 : decide (ty ≤ 7) = false := decide_eq_false (by omega)
  have c7 : decide (ty < 7) = false := decide_eq_false (by omega)
  have d7 : decide (7 < ty) = true := decide_eq_true (by omega)
  have a8 : decide (8 ≤ ty) = true := decide_eq_true (by omega)
  have b8 : decide (ty ≤ 8) = false := decide_eq_false (by omega)
  have c8 : decide (ty < 8) = false := decide_eq_false (by omega)
  have d8 : decide (8 < ty) = true := decide_eq_true (by omega)
  have a11 : decide (11 ≤ ty) = true := decide_eq_true (by omega)
  have b11 : decide (ty ≤ 11) = false := decide_eq_false (by omega)
  have c11 : decide (ty < 11) = false := decide_eq_false (by omega)
  have d11 : decide (11 < ty) = true := decide_eq_true (by omega)
  have a13 : decide (13 ≤ ty) = true := decide_eq_true (by omega)
  have b13 : decide (ty ≤ 13) = false := decide_eq_false (by omega)
  have c13 : decide (ty < 13) = false := decide_eq_false (by omega)
  have d13 : decide (13 < ty) = true := decide_eq_true (by omega)
  have a15 : decide (15 ≤ ty) = true := decide_eq_true (by omega)
  have b15 : decide (ty ≤ 15) = false := decide_eq_false (by omega)
  have c15 : decide (ty < 15) = false := decide_eq_false (by omega)
  have d15 : decide (15 < ty) = true := decide_eq_true (by omega)
  go_enter Tryz.func161, Tryz.ntmps161
  go_wp2
  go_ret
  exact ⟨rfl, rfl⟩
theorem rswide2_any (ty : Int) (w : World) : Calls Tryz.prog 160 #[.int .i64 ty] w fun e w' => e = .returned (.bool (wideT ty)) ∧ w = w' := by
 rcases ty_cases ty with rfl | rfl | rfl | rfl | rfl | rfl | rfl | rfl | rfl | rfl | rfl | rfl | rfl | rfl | rfl | h | h
 ·go_enter Tryz.func160, Tryz.ntmps160
  go_wp2
  go_ret
  exact ⟨rfl, rfl⟩
 ·go_enter Tryz.func160, Tryz.ntmps160
  go_wp2
  go_ret
  exact ⟨rfl, rfl⟩
 ·go_enter Tryz.func160, Tryz.ntmps160
  go_wp2
  go_ret
  exact ⟨rfl, rfl⟩
 ·go_enter Tryz.func160, Tryz.ntmps160
  go_wp2
  go_ret
  exact ⟨rfl, rfl⟩
 ·go_enter Tryz.func160, Tryz.ntmps160
  go_wp2
  go_ret
  exact ⟨rfl, rfl⟩
 ·go_enter Tryz.func160, Tryz.ntmps160
  go_wp2
  go_ret
  exact ⟨rfl, rfl⟩
 ·go_enter Tryz.func160, Tryz.ntmps160
  go_wp2
  go_ret
  exact ⟨rfl, rfl⟩
 ·go_enter Tryz.func160, Tryz.ntmps160
  go_wp2
  go_ret
  exact ⟨rfl, rfl⟩
 ·go_enter Tryz.func160, Tryz.ntmps160
  go_wp2
  go_ret
  exact ⟨rfl, rfl⟩
 ·go_enter Tryz.func160, Tryz.ntmps160
  go_wp2
  go_ret
  exact ⟨rfl, rfl⟩
 ·go_enter Tryz.func160, Tryz.ntmps160
  go_wp2
  go_ret
  exact ⟨rfl, rfl⟩
 ·go_enter Tryz.func160, Tryz.ntmps160
  go_wp2
  go_ret
  exact ⟨rfl, rfl⟩
 ·go_enter Tryz.func160, Tryz.ntmps160
  go_wp2
  go_ret
  exact ⟨rfl, rfl⟩
 ·go_enter Tryz.func160, Tryz.ntmps160
  go_wp2
  go_ret
  exact ⟨rfl, rfl⟩
 ·go_enter Tryz.func160, Tryz.ntmps160
  go_wp2
  go_ret
  exact ⟨rfl, rfl⟩
 ·rw [out_wide (by omega)]
  have n1 : ¬ ty = 1 := by omega
  have e1 : (ty == 1) = false := beq_false_of_ne n1
  have n2 : ¬ ty = 2 := by omega
  have e2 : (ty == 2) = false := beq_false_of_ne n2
  have n3 : ¬ ty = 3 := by omega
  have e3 : (ty == 3) = false := beq_false_of_ne n3
  have n4 : ¬ ty = 4 := by omega
  have e4 : (ty == 4) = false := beq_false_of_ne n4
  have n5 : ¬ ty = 5 := by omega
  have e5 : (ty == 5) = false := beq_false_of_ne n5
  have n6 : ¬ ty = 6 := by omega
  have e6 : (ty == 6) = false := beq_false_of_ne n6
  have n7 : ¬ ty = 7 := by omega
  have e7 : (ty == 7) = false := beq_false_of_ne n7
  have n8 : ¬ ty = 8 := by omega
  have e8 : (ty == 8) = false := beq_false_of_ne n8
  have n9 : ¬ ty = 9 := by omega
  have e9 : (ty == 9) = false := beq_false_of_ne n9
  have n10 : ¬ ty = 10 := by omega
  have e10 : (ty == 10) = false := beq_false_of_ne n10
  have n11 : ¬ ty = 11 := by omega
  have e11 : (ty == 11) = false := beq_false_of_ne n11
  have n12 : ¬ ty = 12 := by omega
  have e12 : (ty == 12) = false := beq_false_of_ne n12
  have n13 : ¬ ty = 13 := by omega
  have e13 : (ty == 13) = false := beq_false_of_ne n13
  have n14 : ¬ ty = 14 := by omega
  have e14 : (ty == 14) = false := beq_false_of_ne n14
  have n15 : ¬ ty = 15 := by omega
  have e15 : (ty == 15) = false := beq_false_of_ne n15
  have a1 : decide (1 ≤ ty) = false := decide_eq_false (by omega)
  have b1 : decide (ty ≤ 1) = true := decide_eq_true (by omega)
  have c1 : decide (ty < 1) = true := decide_eq_true (by omega)
  have d1 : decide (1 < ty) = false := decide_eq_false (by omega)
  have a6 : decide (6 ≤ ty) = false := decide_eq_false (by omega)
  have b6 : decide (ty ≤ 6) = true := decide_eq_true (by omega)
  have c6 : decide (ty < 6) = true := decide_eq_true (by omega)
  have d6 : decide (6 < ty) = false := decide_eq_false (by omega)
  have a7 : decide (7 ≤ ty) = false := decide_eq_false (by omega)
  have b7 : decide (ty ≤ 7) = true := decide_eq_true (by omega)
  have c7 : decide (ty < 7) = true := decide_eq_true (by omega)
  have d7 : decide (7 < ty) = false := decide_eq_false (by omega)
  have a8 : decide (8 ≤ ty) = false := decide_eq_false (by omega)
  have b8 : decide (ty ≤ 8) = true := decide_eq_true (by omega)
  have c8 : decide (ty < 8) = true := decide_eq_true (by omega)
  have d8 : decide (8 < ty) = false := decide_eq_false (by omega)
  have a11 : decide (11 ≤ ty) = false := decide_eq_false (by omega)
  have b11 : decide (ty ≤ 11) = true := decide_eq_true (by omega)
  have c11 : decide (ty < 11) = true := decide_eq_true (by omega)
  have d11 : decide (11 < ty) = false := decide_eq_false (by omega)
  have a13 : decide (13 ≤ ty) = false := decide_eq_false (by omega)
  have b13 : decide (ty ≤ 13) = true := decide_eq_true (by omega)
  have c13 : decide (ty < 13) = true := decide_eq_true (by omega)
  have d13 : decide (13 < ty) = false := decide_eq_false (by omega)
  have a15 : decide (15 ≤ ty) = false := decide_eq_false (by omega)
  have b15 : decide (ty ≤ 15) = true := decide_eq_true (by omega)
  have c15 : decide (ty < 15) = true := decide_eq_true (by omega)
  have d15 : decide (15 < ty) = false := decide_eq_false (by omega)
  go_enter Tryz.func160, Tryz.ntmps160
  go_wp2
  go_ret
  exact ⟨rfl, rfl⟩
 ·rw [out_wide (by omega)]
  have n1 : ¬ ty = 1 := by omega
  have e1 : (ty == 1) = false := beq_false_of_ne n1
  have n2 : ¬ ty = 2 := by omega
  have e2 : (ty == 2) = false := beq_false_of_ne n2
  have n3 : ¬ ty = 3 := by omega
  have e3 : (ty == 3) = false := beq_false_of_ne n3
  have n4 : ¬ ty = 4 := by omega
  have e4 : (ty == 4) = false := beq_false_of_ne n4
  have n5 : ¬ ty = 5 := by omega
  have e5 : (ty == 5) = false := beq_false_of_ne n5
  have n6 : ¬ ty = 6 := by omega
  have e6 : (ty == 6) = false := beq_false_of_ne n6
  have n7 : ¬ ty = 7 := by omega
  have e7 : (ty == 7) = false := beq_false_of_ne n7
  have n8 : ¬ ty = 8 := by omega
  have e8 : (ty == 8) = false := beq_false_of_ne n8
  have n9 : ¬ ty = 9 := by omega
  have e9 : (ty == 9) = false := beq_false_of_ne n9
  have n10 : ¬ ty = 10 := by omega
  have e10 : (ty == 10) = false := beq_false_of_ne n10
  have n11 : ¬ ty = 11 := by omega
  have e11 : (ty == 11) = false := beq_false_of_ne n11
  have n12 : ¬ ty = 12 := by omega
  have e12 : (ty == 12) = false := beq_false_of_ne n12
  have n13 : ¬ ty = 13 := by omega
  have e13 : (ty == 13) = false := beq_false_of_ne n13
  have n14 : ¬ ty = 14 := by omega
  have e14 : (ty == 14) = false := beq_false_of_ne n14
  have n15 : ¬ ty = 15 := by omega
  have e15 : (ty == 15) = false := beq_false_of_ne n15
  have a1 : decide (1 ≤ ty) = true := decide_eq_true (by omega)
  have b1 : decide (ty ≤ 1) = false := decide_eq_false (by omega)
  have c1 : decide (ty < 1) = false := decide_eq_false (by omega)
  have d1 : decide (1 < ty) = true := decide_eq_true (by omega)
  have a6 : decide (6 ≤ ty) = true := decide_eq_true (by omega)
  have b6 : decide (ty ≤ 6) = false := decide_eq_false (by omega)
  have c6 : decide (ty < 6) = false := decide_eq_false (by omega)
  have d6 : decide (6 < ty) = true := decide_eq_true (by omega)
  have a7 : decide (7 ≤ ty) = true := decide_eq_true (by omega)
  have b7 : decide (ty ≤ 7) = false := decide_eq_false (by omega)
  have c7 : decide (ty < 7) = false := decide_eq_false (by omega)
  have d7 : decide (7 < ty) = true := decide_eq_true (by omega)
  have a8 : decide (8 ≤ ty) = true := decide_eq_true (by omega)
  have b8 : decide (ty ≤ 8) = false := decide_eq_false (by omega)
  have c8 : decide (ty < 8) = false := decide_eq_false (by omega)
  have d8 : decide (8 < ty) = true := decide_eq_true (by omega)
  have a11 : decide (11 ≤ ty) = true := decide_eq_true (by omega)
  have b11 : decide (ty ≤ 11) = false := decide_eq_false (by omega)
  have c11 : decide (ty < 11) = false := decide_eq_false (by omega)
  have d11 : decide (11 < ty) = true := decide_eq_true (by omega)
  have a13 : decide (13 ≤ ty) = true := decide_eq_true (by omega)
  have b13 : decide (ty ≤ 13) = false := decide_eq_false (by omega)
  have c13 : decide (ty < 13) = false := decide_eq_false (by omega)
  have d13 : decide (13 < ty) = true := decide_eq_true (by omega)
  have a15 : decide (15 ≤ ty) = true := decide_eq_true (by omega)
  have b15 : decide (ty ≤ 15) = false := decide_eq_false (by omega)
  have c15 : decide (ty < 15) = false := decide_eq_false (by omega)
  have d15 : decide (15 < ty) = true := decide_eq_true (by omega)
  go_enter Tryz.func160, Tryz.ntmps160
  go_wp2
  go_ret
  exact ⟨rfl, rfl⟩
end Go.Proofs.YtloheacncefkgaaGreatDoor

/- The calls of package zig, and of the document's answer, each with what it returns, for every input; the world is as it was. -/
namespace Go.Proofs.YtloheacncefkgaaGreatDoor
open Go.RowKit
set_option linter.unusedVariables false
set_option maxRecDepth 100000

theorem out_any (n : Nat) (w : World) (h : n < 18446744073709551616) :
 Calls Tryz.prog 149 #[.int .u64 (n : Int)] w fun e w' => e = .returned (.int .u64 (outN n : Int)) ∧ w = w' := by
 go_enter Tryz.func149, Tryz.ntmps149
 go_wp2
 go_ret
 exact ⟨ret_int' (out_bits n h), rfl⟩
theorem moved_out (n : Nat) (w : World) (h : n < 18446744073709551616) :
 Calls Tryz.prog 148 #[.int .u64 (n : Int), .func (.func 149) #[] #[]] w fun e w' => e = .returned (.int .u64 (outN n : Int)) ∧ w = w' := by
 have hb := outN_lt n h
 go_enter Tryz.func148, Tryz.ntmps148
 go_wp2_with (refine (out_any n _ h).mono ?_; rintro e w' ⟨rfl, rfl⟩)
 go_ret
 exact ⟨rfl, rfl⟩
theorem zig_any (a : Int) (w : World) (h0 : -9223372036854775808 ≤ a) (h : a < 9223372036854775808) :
 Calls Tryz.prog 128 #[.int .i64 a] w fun e w' => e = .returned (.int .u64 (zigN a : Int)) ∧ w = w' := by
 have HZ := Lib.hid (zig_out a h0 h)
 have HU := Lib.hid (u64_nat a)
 go_enter Tryz.func128, Tryz.ntmps128
 go_wp2_with (rw [HU.out.1]; refine (moved_out _ _ HU.out.2).mono ?_; rintro e w' ⟨rfl, rfl⟩)
 go_ret
 exact ⟨ret_int' (by rw [HZ.out]), rfl⟩
theorem rzig_any (a : Int) (w : World) (h0 : -9223372036854775808 ≤ a) (h : a < 9223372036854775808) :
 Calls Tryz.prog 96 #[.int .i64 a] w fun e w' => e = .returned (.int .u64 (zigN a : Int)) ∧ w = w' := by
 go_enter Tryz.func96, Tryz.ntmps96
 go_wp2
 all_goals go_ret
 ·rename_i hc; exact ⟨ret_int' (by unfold zigN; rw [if_pos hc]; omega), rfl⟩
 ·rename_i hc; exact ⟨ret_int' (by unfold zigN; rw [if_neg (by omega)]; omega), rfl⟩
theorem wide_any (n : Nat) (w : World) (h : n < 18446744073709551616) :
 Calls Tryz.prog 164 #[.int .u64 (n : Int)] w fun e w' => e = .returned (.int .i64 (wideI n)) ∧ w = w' := by
 go_enter Tryz.func164, Tryz.ntmps164
 go_wp2
 go_ret
 exact ⟨ret_int' (wide_wraps n), rfl⟩
theorem low_any (a : Int) (w : World) (h0 : -9223372036854775808 ≤ a) (h : a < 9223372036854775808) :
 Calls Tryz.prog 150 #[.int .i64 a] w fun e w' => e = .returned (.int .u32 ((a % 4294967296).toNat : Int)) ∧ w = w' := by
 go_enter Tryz.func150, Tryz.ntmps150
 go_wp2
 go_ret
 exact ⟨ret_int' (by simp; omega), rfl⟩
theorem fits_any (a : Int) (w : World) (h0 : -9223372036854775808 ≤ a) (h : a < 9223372036854775808) :
 Calls Tryz.prog 152 #[.int .i64 a] w fun e w' => e = .returned (.bool (fitsB a)) ∧ w = w' := by
 have HW := Lib.hid (wide_low a h0 h)
 obtain ⟨m, hm⟩ : ∃ m, m = (a % 4294967296).toNat := ⟨_, rfl⟩
 have HL : Hid (∀ w, Calls Tryz.prog 150 #[.int .i64 a] w fun e w' => e = .returned (.int .u32 (m : Int)) ∧ w = w') := by show ∀ w, _; intro w; rw [hm]; exact low_any a w h0 h
 have hm2 : m < 4294967296 := by omega
 rw [← hm] at HW
 clear hm
 go_enter Tryz.func152, Tryz.ntmps152
 go_wp2_with (first
  | (go_at_call 150; refine (HL.out _).mono ?_; rintro e w' ⟨rfl, rfl⟩)
  | (go_at_call 164; refine (wide_any m _ (by omega)).mono ?_; rintro e w' ⟨rfl, rfl⟩))
 go_ret
 exact ⟨ret_bool' HW.out, rfl⟩
theorem rfits_any (a : Int) (w : World) :
 Calls Tryz.prog 162 #[.int .i64 a] w fun e w' => e = .returned (.bool (fitsB a)) ∧ w = w' := by
 by_cases h1 : -2147483648 ≤ a
 ·have HF : Hid (decide (a ≤ 2147483647) = fitsB a) := by show _ = _; simp [fitsB, h1]
  have g1 : decide (-2147483648 ≤ a) = true := decide_eq_true h1
  go_enter Tryz.func162, Tryz.ntmps162
  go_wp2
  go_ret
  exact ⟨ret_bool' HF.out, rfl⟩
 ·have HF : Hid (false = fitsB a) := by show _ = _; simp [fitsB, h1]
  have g1 : decide (-2147483648 ≤ a) = false := decide_eq_false h1
  go_enter Tryz.func162, Tryz.ntmps162
  go_wp2
  go_ret
  exact ⟨ret_bool' HF.out, rfl⟩
end Go.Proofs.YtloheacncefkgaaGreatDoor

/- The document's From and To of numbers. Conditions: those that each theorem names. -/
namespace Go.Proofs.YtloheacncefkgaaGreatDoor
open Go.RowKit
set_option linter.unusedVariables false
set_option maxRecDepth 100000

theorem wrap64_ge (a : Int) : -9223372036854775808 ≤ wrap64 a := by unfold wrap64; omega
theorem wrap64_lt (a : Int) : wrap64 a < 9223372036854775808 := by unfold wrap64; omega
set_option maxHeartbeats 4000000 in
theorem rnto_any (ty : Int) (n : Nat) (w : World) (hn : n < 18446744073709551616) : Calls Tryz.prog 41 #[.int .i64 ty, .int .u64 (n : Int)] w fun e w' => e = .returned (.int .u64 (toT ty n : Int)) ∧ w = w' := by
 rcases ty_cases ty with rfl | rfl | rfl | rfl | rfl | rfl | rfl | rfl | rfl | rfl | rfl | rfl | rfl | rfl | rfl | h | h
 ·have HM : Hid ((toT 1 n : Int) = (n : Int)) := by
   show _ = _
   rw [toT, if_neg (by omega), if_neg (by omega), if_pos (by decide)]
  rw [HM.out]
  clear HM
  go_enter Tryz.func41, Tryz.ntmps41
  go_wp2_with (first | (go_at_call 40; refine (rsnumber_any _ _).mono ?_; rintro e w' ⟨rfl, rfl⟩))
  go_ret
  exact ⟨rfl, rfl⟩
 ·have HM : Hid ((toT 2 n : Int) = (n : Int)) := by
   show _ = _
   rw [toT, if_neg (by omega), if_neg (by omega), if_pos (by decide)]
  rw [HM.out]
  clear HM
  go_enter Tryz.func41, Tryz.ntmps41
  go_wp2_with (first | (go_at_call 40; refine (rsnumber_any _ _).mono ?_; rintro e w' ⟨rfl, rfl⟩))
  go_ret
  exact ⟨rfl, rfl⟩
 ·have HM : Hid ((toT 3 n : Int) = (n : Int) % 4294967296) := by
   show _ = _
   rw [toT, if_pos (by omega)]
   omega
  rw [HM.out]
  clear HM
  go_enter Tryz.func41, Tryz.ntmps41
  go_wp2
  go_ret
  exact ⟨rfl, rfl⟩
 ·have HM : Hid ((toT 4 n : Int) = (n : Int)) := by
   show _ = _
   rw [toT, if_neg (by omega), if_neg (by omega), if_pos (by decide)]
  rw [HM.out]
  clear HM
  go_enter Tryz.func41, Tryz.ntmps41
  go_wp2_with (first | (go_at_call 40; refine (rsnumber_any _ _).mono ?_; rintro e w' ⟨rfl, rfl⟩))
  go_ret
  exact ⟨rfl, rfl⟩
 ·have HW := Lib.hid (fun w => rzig_any (wrap64 (n : Int)) w (wrap64_ge _) (wrap64_lt _))
  have HM : Hid ((toT 5 n : Int) = (zigN (wrap64 (n : Int)) : Int)) := by
   show _ = _
   rw [toT, if_neg (by omega), if_pos (by omega)]
  rw [HM.out]
  clear HM
  go_enter Tryz.func41, Tryz.ntmps41
  go_wp2_with (first | (go_at_call 96; refine (HW.out _).mono ?_; rintro e w' ⟨rfl, rfl⟩))
  go_ret
  exact ⟨rfl, rfl⟩
 ·have HW := Lib.hid (fun w => rzig_any (wrap64 (n : Int)) w (wrap64_ge _) (wrap64_lt _))
  have HM : Hid ((toT 6 n : Int) = (zigN (wrap64 (n : Int)) : Int)) := by
   show _ = _
   rw [toT, if_neg (by omega), if_pos (by omega)]
  rw [HM.out]
  clear HM
  go_enter Tryz.func41, Tryz.ntmps41
  go_wp2_with (first | (go_at_call 96; refine (HW.out _).mono ?_; rintro e w' ⟨rfl, rfl⟩))
  go_ret
  exact ⟨rfl, rfl⟩
 ·have HM : Hid ((toT 7 n : Int) = (n : Int)) := by
   show _ = _
   rw [toT, if_neg (by omega), if_neg (by omega), if_pos (by decide)]
  rw [HM.out]
  clear HM
  go_enter Tryz.func41, Tryz.ntmps41
  go_wp2_with (first | (go_at_call 40; refine (rsnumber_any _ _).mono ?_; rintro e w' ⟨rfl, rfl⟩))
  go_ret
  exact ⟨rfl, rfl⟩
 ·have HM : Hid ((toT 8 n : Int) = (n : Int) % 4294967296) := by
   show _ = _
   rw [toT, if_pos (by omega)]
   omega
  rw [HM.out]
  clear HM
  go_enter Tryz.func41, Tryz.ntmps41
  go_wp2
  go_ret
  exact ⟨rfl, rfl⟩
 ·have HM : Hid ((toT 9 n : Int) = (n : Int)) := by
   show _ = _
   rw [toT, if_neg (by omega), if_neg (by omega), if_pos (by decide)]
  rw [HM.out]
  clear HM
  go_enter Tryz.func41, Tryz.ntmps41
  go_wp2_with (first | (go_at_call 40; refine (rsnumber_any _ _).mono ?_; rintro e w' ⟨rfl, rfl⟩))
  go_ret
  exact ⟨rfl, rfl⟩
 ·have HM : Hid ((toT 10 n : Int) = (n : Int) % 4294967296) := by
   show _ = _
   rw [toT, if_pos (by omega)]
   omega
  rw [HM.out]
  clear HM
  go_enter Tryz.func41, Tryz.ntmps41
  go_wp2
  go_ret
  exact ⟨rfl, rfl⟩
 ·have HM : Hid ((toT 11 n : Int) = (n : Int)) := by
   show _ = _
   rw [toT, if_neg (by omega), if_neg (by omega), if_pos (by decide)]
  rw [HM.out]
  clear HM
  go_enter Tryz.func41, Tryz.ntmps41
  go_wp2_with (first | (go_at_call 40; refine (rsnumber_any _ _).mono ?_; rintro e w' ⟨rfl, rfl⟩))
  go_ret
  exact ⟨rfl, rfl⟩
 ·have HM : Hid ((toT 12 n : Int) = 0) := by
   show _ = _
   rw [toT, if_neg (by omega), if_neg (by omega), if_neg (by decide)]
   rfl
  rw [HM.out]
  clear HM
  go_enter Tryz.func41, Tryz.ntmps41
  go_wp2_with (first | (go_at_call 40; refine (rsnumber_any _ _).mono ?_; rintro e w' ⟨rfl, rfl⟩))
  go_ret
  exact ⟨rfl, rfl⟩
 ·have HM : Hid ((toT 13 n : Int) = 0) := by
   show _ = _
   rw [toT, if_neg (by omega), if_neg (by omega), if_neg (by decide)]
   rfl
  rw [HM.out]
  clear HM
  go_enter Tryz.func41, Tryz.ntmps41
  go_wp2_with (first | (go_at_call 40; refine (rsnumber_any _ _).mono ?_; rintro e w' ⟨rfl, rfl⟩))
  go_ret
  exact ⟨rfl, rfl⟩
 ·have HM : Hid ((toT 14 n : Int) = (n : Int)) := by
   show _ = _
   rw [toT, if_neg (by omega), if_neg (by omega), if_pos (by decide)]
  rw [HM.out]
  clear HM
  go_enter Tryz.func41, Tryz.ntmps41
  go_wp2_with (first | (go_at_call 40; refine (rsnumber_any _ _).mono ?_; rintro e w' ⟨rfl, rfl⟩))
  go_ret
  exact ⟨rfl, rfl⟩
 ·have HM : Hid ((toT 15 n : Int) = 0) := by
   show _ = _
   rw [toT, if_neg (by omega), if_neg (by omega), if_neg (by decide)]
   rfl
  rw [HM.out]
  clear HM
  go_enter Tryz.func41, Tryz.ntmps41
  go_wp2_with (first | (go_at_call 40; refine (rsnumber_any _ _).mono ?_; rintro e w' ⟨rfl, rfl⟩))
  go_ret
  exact ⟨rfl, rfl⟩
 ·rw [out_to _ (by omega)]
  have n1 : ¬ ty = 1 := by omega
  have e1 : (ty == 1) = false := beq_false_of_ne n1
  have n2 : ¬ ty = 2 := by omega
  have e2 : (ty == 2) = false := beq_false_of_ne n2
  have n3 : ¬ ty = 3 := by omega
  have e3 : (ty == 3) = false := beq_false_of_ne n3
  have n4 : ¬ ty = 4 := by omega
  have e4 : (ty == 4) = false := beq_false_of_ne n4
  have n5 : ¬ ty = 5 := by omega
  have e5 : (ty == 5) = false := beq_false_of_ne n5
  have n6 : ¬ ty = 6 := by omega
  have e6 : (ty == 6) = false := beq_false_of_ne n6
  have n7 : ¬ ty = 7 := by omega
  have e7 : (ty == 7) = false := beq_false_of_ne n7
  have n8 : ¬ ty = 8 := by omega
  have e8 : (ty == 8) = false := beq_false_of_ne n8
  have n9 : ¬ ty = 9 := by omega
  have e9 : (ty == 9) = false := beq_false_of_ne n9
  have n10 : ¬ ty = 10 := by omega
  have e10 : (ty == 10) = false := beq_false_of_ne n10
  have n11 : ¬ ty = 11 := by omega
  have e11 : (ty == 11) = false := beq_false_of_ne n11
  have n12 : ¬ ty = 12 := by omega
  have e12 : (ty == 12) = false := beq_false_of_ne n12
  have n13 : ¬ ty = 13 := by omega
  have e13 : (ty == 13) = false := beq_false_of_ne n13
  have n14 : ¬ ty = 14 := by omega
  have e14 : (ty == 14) = false := beq_false_of_ne n14
  have n15 : ¬ ty = 15 := by omega
  have e15 : (ty == 15) = false := beq_false_of_ne n15
  have a1 : decide (1 ≤ ty) = false := decide_eq_false (by omega)
  have b1 : decide (ty ≤ 1) = true := decide_eq_true (by omega)
  have c1 : decide (ty < 1) = true := decide_eq_true (by omega)
  have d1 : decide (1 < ty) = false := decide_eq_false (by omega)
  have a6 : decide (6 ≤ ty) = false := decide_eq_false (by omega)
  have b6 : decide (ty ≤ 6) = true := decide_eq_true (by omega)
  have c6 : decide (ty < 6) = true := decide_eq_true (by omega)
  have d6 : decide (6 < ty) = false := decide_eq_false (by omega)
  have a7 : decide (7 ≤ ty) = false := decide_eq_false (by omega)
  have b7 : decide (ty ≤ 7) = true := decide_eq_true (by omega)
  have c7 : decide (ty < 7) = true := decide_eq_true (by omega)
  have d7 : decide (7 < ty) = false := decide_eq_false (by omega)
  have a8 : decide (8 ≤ ty) = false := decide_eq_false (by omega)
  have b8 : decide (ty ≤ 8) = true := decide_eq_true (by omega)
  have c8 : decide (ty < 8) = true := decide_eq_true (by omega)
  have d8 : decide (8 < ty) = false := decide_eq_false (by omega)
  have a11 : decide (11 ≤ ty) = false := decide_eq_false (by omega)
  have b11 : decide (ty ≤ 11) = true := decide_eq_true (by omega)
  have c11 : decide (ty < 11) = true := decide_eq_true (by omega)
  have d11 : decide (11 < ty) = false := decide_eq_false (by omega)
  have a13 : decide (13 ≤ ty) = false := decide_eq_false (by omega)
  have b13 : decide (ty ≤ 13) = true := decide_eq_true (by omega)
  have c13 : decide (ty < 13) = true := decide_eq_true (by omega)
  have d13 : decide (13 < ty) = false := decide_eq_false (by omega)
  have a15 : decide (15 ≤ ty) = false := decide_eq_false (by omega)
  have b15 : decide (ty ≤ 15) = true := decide_eq_true (by omega)
  have c15 : decide (ty < 15) = true := decide_eq_true (by omega)
  have d15 : decide (15 < ty) = false := decide_eq_false (by omega)
  have HNU := Lib.hid (fun w => rsnumber_any ty w)
  rw [out_number (by omega)] at HNU
  go_enter Tryz.func41, Tryz.ntmps41
  go_wp2_with (go_at_call 40; refine (HNU.out _).mono ?_; rintro e w' ⟨rfl, rfl⟩)
  go_ret
  exact ⟨rfl, rfl⟩
 ·rw [out_to _ (by omega)]
  have n1 : ¬ ty = 1 := by omega
  have e1 : (ty == 1) = false := beq_false_of_ne n1
  have n2 : ¬ ty = 2 := by omega
  have e2 : (ty == 2) = false := beq_false_of_ne n2
  have n3 : ¬ ty = 3 := by omega
  have e3 : (ty == 3) = false := beq_false_of_ne n3
  have n4 : ¬ ty = 4 := by omega
  have e4 : (ty == 4) = false := beq_false_of_ne n4
  have n5 : ¬ ty = 5 := by omega
  have e5 : (ty == 5) = false := beq_false_of_ne n5
  have n6 : ¬ ty = 6 := by omega
  have e6 : (ty == 6) = false := beq_false_of_ne n6
  have n7 : ¬ ty = 7 := by omega
  have e7 : (ty == 7) = false := beq_false_of_ne n7
  have n8 : ¬ ty = 8 := by omega
  have e8 : (ty == 8) = false := beq_false_of_ne n8
  have n9 : ¬ ty = 9 := by omega
  have e9 : (ty == 9) = false := beq_false_of_ne n9
  have n10 : ¬ ty = 10 := by omega
  have e10 : (ty == 10) = false := beq_false_of_ne n10
  have n11 : ¬ ty = 11 := by omega
  have e11 : (ty == 11) = false := beq_false_of_ne n11
  have n12 : ¬ ty = 12 := by omega
  have e12 : (ty == 12) = false := beq_false_of_ne n12
  have n13 : ¬ ty = 13 := by omega
  have e13 : (ty == 13) = false := beq_false_of_ne n13
  have n14 : ¬ ty = 14 := by omega
  have e14 : (ty == 14) = false := beq_false_of_ne n14
  have n15 : ¬ ty = 15 := by omega
  have e15 : (ty == 15) = false := beq_false_of_ne n15
  have a1 : decide (1 ≤ ty) = true := decide_eq_true (by omega)
  have b1 : decide (ty ≤ 1) = false := decide_eq_false (by omega)
  have c1 : decide (ty < 1) = false := decide_eq_false (by omega)
  have d1 : decide (1 < ty) = true := decide_eq_true (by omega)
  have a6 : decide (6 ≤ ty) = true := decide_eq_true (by omega)
  have b6 : decide (ty ≤ 6) = false := decide_eq_false (by omega)
  have c6 : decide (ty < 6) = false := decide_eq_false (by omega)
  have d6 : decide (6 < ty) = true := decide_eq_true (by omega)
  have a7 : decide (7 ≤ ty) = true := decide_eq_true (by omega)
  have b7 : decide (ty ≤ 7) = false := decide_eq_false (by omega)
  have c7 : decide (ty < 7) = false := decide_eq_false (by omega)
  have d7 : decide (7 < ty) = true := decide_eq_true (by omega)
  have a8 : decide (8 ≤ ty) = true := decide_eq_true (by omega)
  have b8 : decide (ty ≤ 8) = false := decide_eq_false (by omega)
  have c8 : decide (ty < 8) = false := decide_eq_false (by omega)
  have d8 : decide (8 < ty) = true := decide_eq_true (by omega)
  have a11 : decide (11 ≤ ty) = true := decide_eq_true (by omega)
  have b11 : decide (ty ≤ 11) = false := decide_eq_false (by omega)
  have c11 : decide (ty < 11) = false := decide_eq_false (by omega)
  have d11 : decide (11 < ty) = true := decide_eq_true (by omega)
  have a13 : decide (13 ≤ ty) = true := decide_eq_true (by omega)
  have b13 : decide (ty ≤ 13) = false := decide_eq_false (by omega)
  have c13 : decide (ty < 13) = false := decide_eq_false (by omega)
  have d13 : decide (13 < ty) = true := decide_eq_true (by omega)
  have a15 : decide (15 ≤ ty) = true := decide_eq_true (by omega)
  have b15 : decide (ty ≤ 15) = false := decide_eq_false (by omega)
  have c15 : decide (ty < 15) = false := decide_eq_false (by omega)
  have d15 : decide (15 < ty) = true := decide_eq_true (by omega)
  have HNU := Lib.hid (fun w => rsnumber_any ty w)
  rw [out_number (by omega)] at HNU
  go_enter Tryz.func41, Tryz.ntmps41
  go_wp2_with (go_at_call 40; refine (HNU.out _).mono ?_; rintro e w' ⟨rfl, rfl⟩)
  go_ret
  exact ⟨rfl, rfl⟩
end Go.Proofs.YtloheacncefkgaaGreatDoor

/- What came in by value as an array of three ints. Conditions: those that each theorem names. -/
namespace Go.Proofs.YtloheacncefkgaaGreatDoor
open Go.RowKit Go.ChangeShapes Go.WideShapes
set_option linter.unusedVariables false
set_option maxRecDepth 100000

theorem agg_struct {P : Program} {W : World} {r : Reach} {b : Nat} {k : TypeId} {fs : Array Field} {v : Value} (hu : P.underlying k = some (.struct fs)) (h : Value.okWide P W r b k v) : ∃ xs : Array Value, v = .agg xs ∧ xs.size = P.cellsOf k := by
 simp only [Value.okWide, hu] at h
 obtain ⟨cs, h1, h2, _⟩ := h
 exact ⟨cs, h1, h2⟩
end Go.Proofs.YtloheacncefkgaaGreatDoor
