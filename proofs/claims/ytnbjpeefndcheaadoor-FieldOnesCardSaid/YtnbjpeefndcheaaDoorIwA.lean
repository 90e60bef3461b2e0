/- The program's layer 9: letter, digit. Conditions: those that each theorem names. -/
import Derived.Test.YtnbjpeefndcheaaDoorRiC
namespace Go.Proofs.YtnbjpeefndcheaaDoor
open Go.RowKit
set_option linter.unusedVariables false
set_option maxRecDepth 100000

def letterN (n : Nat) : Bool := (decide (97 ≤ n) && decide (n ≤ 122)) || (decide (65 ≤ n) && decide (n ≤ 90))
def digitN (n : Nat) : Bool := decide (48 ≤ n) && decide (n ≤ 57)
theorem pletter_any (n : Nat) (hr : n ≤ 2147483647) (w : World) : Calls Tryd.prog 31 #[.int .i32 (n : Int)] w fun e w' => e = .returned (.bool (letterN n)) ∧ w = w' := by
  have HL : Hid (letterN n = ((decide (97 ≤ n) && decide (n ≤ 122)) || (decide (65 ≤ n) && decide (n ≤ 90)))) := Lib.hid rfl
  by_cases h1 : 97 ≤ n <;> by_cases h2 : n ≤ 122 <;> by_cases h3 : 65 ≤ n <;> by_cases h4 : n ≤ 90
  all_goals first
    | omega
    | (have g1 : decide ((97 : Int) ≤ (n : Int)) = decide (97 ≤ n) := decide_eq_decide.mpr (by omega)
       have g2 : decide ((n : Int) ≤ 122) = decide (n ≤ 122) := decide_eq_decide.mpr (by omega)
       have g3 : decide ((65 : Int) ≤ (n : Int)) = decide (65 ≤ n) := decide_eq_decide.mpr (by omega)
       have g4 : decide ((n : Int) ≤ 90) = decide (n ≤ 90) := decide_eq_decide.mpr (by omega)
       simp only [h1, h2, h3, h4, decide_true, decide_false] at g1 g2 g3 g4 HL
       clear hr
       go_enter Tryd.func31, Tryd.ntmps31
       go_wp2
       go_ret
       exact ⟨ret_bool' HL.out.symm, rfl⟩)
theorem pdigit_any (n : Nat) (hr : n ≤ 2147483647) (w : World) : Calls Tryd.prog 32 #[.int .i32 (n : Int)] w fun e w' => e = .returned (.bool (digitN n)) ∧ w = w' := by
  have HL : Hid (digitN n = (decide (48 ≤ n) && decide (n ≤ 57))) := Lib.hid rfl
  by_cases h1 : 48 ≤ n <;> by_cases h2 : n ≤ 57
  all_goals first
    | omega
    | (have g1 : decide ((48 : Int) ≤ (n : Int)) = decide (48 ≤ n) := decide_eq_decide.mpr (by omega)
       have g2 : decide ((n : Int) ≤ 57) = decide (n ≤ 57) := decide_eq_decide.mpr (by omega)
       simp only [h1, h2, decide_true, decide_false] at g1 g2 HL
       clear hr
       go_enter Tryd.func32, Tryd.ntmps32
       go_wp2
       go_ret
       exact ⟨ret_bool' HL.out.symm, rfl⟩)
end Go.Proofs.YtnbjpeefndcheaaDoor
