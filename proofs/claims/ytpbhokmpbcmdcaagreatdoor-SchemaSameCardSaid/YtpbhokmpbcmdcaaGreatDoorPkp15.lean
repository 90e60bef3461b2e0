/- Several texts in one: RiC, IdLaw, IwA, IwB, LexMath, LexNum, RlF. What each proves, and its conditions, stands at its own head. -/
import Derived.Test.YtpbhokmpbcmdcaaGreatDoorPkp3
import Derived.Test.YtpbhokmpbcmdcaaGreatDoorPkp14
import Derived.Test.YtpbhokmpbcmdcaaGreatDoorPkp2
import Derived.Test.YtpbhokmpbcmdcaaGreatDoorPkp0
import Derived.Test.YtpbhokmpbcmdcaaGreatDoorChecked
import Derived.WalkKit
import Derived.RowKitTokens
import Derived.OwnWalk
import Derived.IntWalk
import Derived.Deep.LoopGhost
/- The document's names: Letter, words, Right. Conditions: those that each theorem names. -/
namespace Go.Proofs.YtpbhokmpbcmdcaaGreatDoor
open Go.RowKit
set_option linter.unusedVariables false
set_option maxRecDepth 100000

def letterB (c : UInt8) : Bool := (decide (97 ≤ c.toNat) && decide (c.toNat ≤ 122)) || (decide (65 ≤ c.toNat) && decide (c.toNat ≤ 90))
def charB (c : UInt8) : Bool := letterB c || (decide (48 ≤ c.toNat) && decide (c.toNat ≤ 57)) || decide (c.toNat = 95)
/-- The words that are no names. -/
def wordsL : List (List UInt8) := [[101, 110, 117, 109], [109, 101, 115, 115, 97, 103, 101], [111, 110, 101, 111, 102], [114, 101, 112, 101, 97, 116, 101, 100], [114, 101, 115, 101, 114, 118, 101, 100], [108, 111, 111, 115, 101], [105, 110, 116, 51, 50], [105, 110, 116, 54, 52], [117, 105, 110, 116, 51, 50], [117, 105, 110, 116, 54, 52], [115, 105, 110, 116, 51, 50], [115, 105, 110, 116, 54, 52], [98, 111, 111, 108], [102, 105, 120, 101, 100, 51, 50], [102, 105, 120, 101, 100, 54, 52], [115, 102, 105, 120, 101, 100, 51, 50], [115, 102, 105, 120, 101, 100, 54, 52], [115, 116, 114, 105, 110, 103], [98, 121, 116, 101, 115], [114, 101, 110, 97, 109, 101], [114, 101, 110, 117, 109, 98, 101, 114], [114, 101, 116, 121, 112, 101], [115, 112, 108, 105, 116], [106, 111, 105, 110], [119, 114, 97, 112], [117, 110, 119, 114, 97, 112], [97, 100, 100], [100, 114, 111, 112], [116, 111], [105, 110, 116, 111], [97, 115], [111, 102], [100, 101, 102, 97, 117, 108, 116], [116, 114, 117, 101], [102, 97, 108, 115, 101]]
def nameB (t : List UInt8) : Bool := decide (1 ≤ t.length) && decide (t.length ≤ 12) && (match t with | [] => false | c :: _ => letterB c) && t.all charB && !(wordsL.contains t)

end Go.Proofs.YtpbhokmpbcmdcaaGreatDoor

/- What is asked of the program's layer 9, and the walks of IdentRight and IdentLists. Conditions: those that each theorem names. -/
namespace Go.Proofs.YtpbhokmpbcmdcaaGreatDoor
open Go.RowKit
set_option linter.unusedVariables false
set_option maxRecDepth 100000

/-- What is asked of layer 9. -/
structure IdOk : Prop where
  right : ∀ w t, Calls Tryz.prog 53 #[.string (strOf t)] w fun e w' => e = .returned (.bool (nameB t)) ∧ Below w.heap.size w w'
  rise : ∀ w A cap n ts, Sl w A cap (txts ts) → n = ts.length → Calls Tryz.prog 58 #[.slice A n cap] w fun e w' => e = .returned (.bool (riseB ts)) ∧ Below w.heap.size w w'
  once : ∀ w A cap n ts, Sl w A cap (txts ts) → n = ts.length → n ≤ 1000000 → Calls Tryz.prog 55 #[.slice A n cap] w fun e w' => e = .returned (.bool (onceB ts)) ∧ Below w.heap.size w w'
theorem below_drewN {B : Nat} {a w : World} (h : Below B a w) (k : Nat) : Below B a (w.drewN k) :=
  ⟨h.os, h.tape, h.output, h.size, h.block⟩
end Go.Proofs.YtpbhokmpbcmdcaaGreatDoor

/- The program's layer 9: letter, digit. Conditions: those that each theorem names. -/
namespace Go.Proofs.YtpbhokmpbcmdcaaGreatDoor
open Go.RowKit
set_option linter.unusedVariables false
set_option maxRecDepth 100000

def letterN (n : Nat) : Bool := (decide (97 ≤ n) && decide (n ≤ 122)) || (decide (65 ≤ n) && decide (n ≤ 90))
def digitN (n : Nat) : Bool := decide (48 ≤ n) && decide (n ≤ 57)
theorem pletter_any (n : Nat) (hr : n ≤ 2147483647) (w : World) : Calls Tryz.prog 97 #[.int .i32 (n : Int)] w fun e w' => e = .returned (.bool (letterN n)) ∧ w = w' := by
  have HL : Hid (letterN n = ((decide (97 ≤ n) && decide (n ≤ 122)) || (decide (65 ≤ n) && decide (n ≤ 90)))) := Lib.hid rfl
  by_cases h1 : 97 ≤ n <;> by_cases h2 : n ≤ 122 <;> by_cases h3 : 65 ≤ n <;> by_cases h4 : n ≤ 90
  all_goals first
    | omega
    | (have g1 : decide ((97 : Int) ≤ (n : Int)) = decide (97 ≤ n) := decide_eq_decide.mpr (by omega)
       have g2 : decide ((n : Int) ≤ 122) = decide (n ≤ 122) := decide_eq_decide.mpr (by omega)
       have g3 : decide ((65 : Int) ≤ (n : Int)) = decide (65 ≤ n) := decide_eq_decide.mpr (by omega)
       have g4 : decide ((n : Int) ≤ 90) = decide (n ≤ 90) := decide_eq_decide.mpr (by omega)
       simp only [h1, h2, h3, h4, decide_true, decide_false] at g1 g2 g3 g4 HL
       clear hr
       go_enter Tryz.func97, Tryz.ntmps97
       go_wp2
       go_ret
       exact ⟨ret_bool' HL.out.symm, rfl⟩)
theorem pdigit_any (n : Nat) (hr : n ≤ 2147483647) (w : World) : Calls Tryz.prog 98 #[.int .i32 (n : Int)] w fun e w' => e = .returned (.bool (digitN n)) ∧ w = w' := by
  have HL : Hid (digitN n = (decide (48 ≤ n) && decide (n ≤ 57))) := Lib.hid rfl
  by_cases h1 : 48 ≤ n <;> by_cases h2 : n ≤ 57
  all_goals first
    | omega
    | (have g1 : decide ((48 : Int) ≤ (n : Int)) = decide (48 ≤ n) := decide_eq_decide.mpr (by omega)
       have g2 : decide ((n : Int) ≤ 57) = decide (n ≤ 57) := decide_eq_decide.mpr (by omega)
       simp only [h1, h2, decide_true, decide_false] at g1 g2 HL
       clear hr
       go_enter Tryz.func98, Tryz.ntmps98
       go_wp2
       go_ret
       exact ⟨ret_bool' HL.out.symm, rfl⟩)
end Go.Proofs.YtpbhokmpbcmdcaaGreatDoor

/- The program's layer 9: word. Conditions: those that each theorem names. -/
namespace Go.Proofs.YtpbhokmpbcmdcaaGreatDoor
open Go.RowKit
set_option linter.unusedVariables false
set_option maxRecDepth 100000

theorem pword_0 (w : World) : Calls Tryz.prog 96 #[.string (strOf [101, 110, 117, 109])] w fun e w' => e = .returned (.bool true) ∧ w = w' := by
  obtain ⟨str, hstr⟩ : ∃ str, str = strOf [101, 110, 117, 109] := ⟨_, rfl⟩
  have hl : str.toList = [101, 110, 117, 109] := by rw [hstr, str_list]
  rw [← hstr]
  have b0 : (str.toList == [101, 110, 117, 109]) = true := by rw [hl]; decide
  clear hl hstr
  go_enter Tryz.func96, Tryz.ntmps96
  go_wp2
  go_ret
  exact ⟨rfl, rfl⟩
theorem pword_1 (w : World) : Calls Tryz.prog 96 #[.string (strOf [109, 101, 115, 115, 97, 103, 101])] w fun e w' => e = .returned (.bool true) ∧ w = w' := by
  obtain ⟨str, hstr⟩ : ∃ str, str = strOf [109, 101, 115, 115, 97, 103, 101] := ⟨_, rfl⟩
  have hl : str.toList = [109, 101, 115, 115, 97, 103, 101] := by rw [hstr, str_list]
  rw [← hstr]
  have b0 : (str.toList == [101, 110, 117, 109]) = false := by rw [hl]; decide
  have b1 : (str.toList == [109, 101, 115, 115, 97, 103, 101]) = true := by rw [hl]; decide
  clear hl hstr
  go_enter Tryz.func96, Tryz.ntmps96
  go_wp2
  go_ret
  exact ⟨rfl, rfl⟩
theorem pword_2 (w : World) : Calls Tryz.prog 96 #[.string (strOf [111, 110, 101, 111, 102])] w fun e w' => e = .returned (.bool true) ∧ w = w' := by
  obtain ⟨str, hstr⟩ : ∃ str, str = strOf [111, 110, 101, 111, 102] := ⟨_, rfl⟩
  have hl : str.toList = [111, 110, 101, 111, 102] := by rw [hstr, str_list]
  rw [← hstr]
  have b0 : (str.toList == [101, 110, 117, 109]) = false := by rw [hl]; decide
  have b1 : (str.toList == [109, 101, 115, 115, 97, 103, 101]) = false := by rw [hl]; decide
  have b2 : (str.toList == [111, 110, 101, 111, 102]) = true := by rw [hl]; decide
  clear hl hstr
  go_enter Tryz.func96, Tryz.ntmps96
  go_wp2
  go_ret
  exact ⟨rfl, rfl⟩
theorem pword_3 (w : World) : Calls Tryz.prog 96 #[.string (strOf [114, 101, 112, 101, 97, 116, 101, 100])] w fun e w' => e = .returned (.bool true) ∧ w = w' := by
  obtain ⟨str, hstr⟩ : ∃ str, str = strOf [114, 101, 112, 101, 97, 116, 101, 100] := ⟨_, rfl⟩
  have hl : str.toList = [114, 101, 112, 101, 97, 116, 101, 100] := by rw [hstr, str_list]
  rw [← hstr]
  have b0 : (str.toList == [101, 110, 117, 109]) = false := by rw [hl]; decide
  have b1 : (str.toList == [109, 101, 115, 115, 97, 103, 101]) = false := by rw [hl]; decide
  have b2 : (str.toList == [111, 110, 101, 111, 102]) = false := by rw [hl]; decide
  have b3 : (str.toList == [114, 101, 112, 101, 97, 116, 101, 100]) = true := by rw [hl]; decide
  clear hl hstr
  go_enter Tryz.func96, Tryz.ntmps96
  go_wp2
  go_ret
  exact ⟨rfl, rfl⟩
theorem pword_4 (w : World) : Calls Tryz.prog 96 #[.string (strOf [114, 101, 115, 101, 114, 118, 101, 100])] w fun e w' => e = .returned (.bool true) ∧ w = w' := by
  obtain ⟨str, hstr⟩ : ∃ str, str = strOf [114, 101, 115, 101, 114, 118, 101, 100] := ⟨_, rfl⟩
  have hl : str.toList = [114, 101, 115, 101, 114, 118, 101, 100] := by rw [hstr, str_list]
  rw [← hstr]
  have b0 : (str.toList == [101, 110, 117, 109]) = false := by rw [hl]; decide
  have b1 : (str.toList == [109, 101, 115, 115, 97, 103, 101]) = false := by rw [hl]; decide
  have b2 : (str.toList == [111, 110, 101, 111, 102]) = false := by rw [hl]; decide
  have b3 : (str.toList == [114, 101, 112, 101, 97, 116, 101, 100]) = false := by rw [hl]; decide
  have b4 : (str.toList == [114, 101, 115, 101, 114, 118, 101, 100]) = true := by rw [hl]; decide
  clear hl hstr
  go_enter Tryz.func96, Tryz.ntmps96
  go_wp2
  go_ret
  exact ⟨rfl, rfl⟩
theorem pword_5 (w : World) : Calls Tryz.prog 96 #[.string (strOf [108, 111, 111, 115, 101])] w fun e w' => e = .returned (.bool true) ∧ w = w' := by
  obtain ⟨str, hstr⟩ : ∃ str, str = strOf [108, 111, 111, 115, 101] := ⟨_, rfl⟩
  have hl : str.toList = [108, 111, 111, 115, 101] := by rw [hstr, str_list]
  rw [← hstr]
  have b0 : (str.toList == [101, 110, 117, 109]) = false := by rw [hl]; decide
  have b1 : (str.toList == [109, 101, 115, 115, 97, 103, 101]) = false := by rw [hl]; decide
  have b2 : (str.toList == [111, 110, 101, 111, 102]) = false := by rw [hl]; decide
  have b3 : (str.toList == [114, 101, 112, 101, 97, 116, 101, 100]) = false := by rw [hl]; decide
  have b4 : (str.toList == [114, 101, 115, 101, 114, 118, 101, 100]) = false := by rw [hl]; decide
  have b5 : (str.toList == [108, 111, 111, 115, 101]) = true := by rw [hl]; decide
  clear hl hstr
  go_enter Tryz.func96, Tryz.ntmps96
  go_wp2
  go_ret
  exact ⟨rfl, rfl⟩
theorem pword_6 (w : World) : Calls Tryz.prog 96 #[.string (strOf [105, 110, 116, 51, 50])] w fun e w' => e = .returned (.bool true) ∧ w = w' := by
  obtain ⟨str, hstr⟩ : ∃ str, str = strOf [105, 110, 116, 51, 50] := ⟨_, rfl⟩
  have hl : str.toList = [105, 110, 116, 51, 50] := by rw [hstr, str_list]
  rw [← hstr]
  have b0 : (str.toList == [101, 110, 117, 109]) = false := by rw [hl]; decide
  have b1 : (str.toList == [109, 101, 115, 115, 97, 103, 101]) = false := by rw [hl]; decide
  have b2 : (str.toList == [111, 110, 101, 111, 102]) = false := by rw [hl]; decide
  have b3 : (str.toList == [114, 101, 112, 101, 97, 116, 101, 100]) = false := by rw [hl]; decide
  have b4 : (str.toList == [114, 101, 115, 101, 114, 118, 101, 100]) = false := by rw [hl]; decide
  have b5 : (str.toList == [108, 111, 111, 115, 101]) = false := by rw [hl]; decide
  have b6 : (str.toList == [105, 110, 116, 51, 50]) = true := by rw [hl]; decide
  clear hl hstr
  go_enter Tryz.func96, Tryz.ntmps96
  go_wp2
  go_ret
  exact ⟨rfl, rfl⟩
theorem pword_7 (w : World) : Calls Tryz.prog 96 #[.string (strOf [105, 110, 116, 54, 52])] w fun e w' => e = .returned (.bool true) ∧ w = w' := by
  obtain ⟨str, hstr⟩ : ∃ str, str = strOf [105, 110, 116, 54, 52] := ⟨_, rfl⟩
  have hl : str.toList = [105, 110, 116, 54, 52] := by rw [hstr, str_list]
  rw [← hstr]
  have b0 : (str.toList == [101, 110, 117, 109]) = false := by rw [hl]; decide
  have b1 : (str.toList == [109, 101, 115, 115, 97, 103, 101]) = false := by rw [hl]; decide
  have b2 : (str.toList == [111, 110, 101, 111, 102]) = false := by rw [hl]; decide
  have b3 : (str.toList == [114, 101, 112, 101, 97, 116, 101, 100]) = false := by rw [hl]; decide
  have b4 : (str.toList == [114, 101, 115, 101, 114, 118, 101, 100]) = false := by rw [hl]; decide
  have b5 : (str.toList == [108, 111, 111, 115, 101]) = false := by rw [hl]; decide
  have b6 : (str.toList == [105, 110, 116, 51, 50]) = false := by rw [hl]; decide
  have b7 : (str.toList == [105, 110, 116, 54, 52]) = true := by rw [hl]; decide
  clear hl hstr
  go_enter Tryz.func96, Tryz.ntmps96
  go_wp2
  go_ret
  exact ⟨rfl, rfl⟩
theorem pword_8 (w : World) : Calls Tryz.prog 96 #[.string (strOf [117, 105, 110, 116, 51, 50])] w fun e w' => e = .returned (.bool true) ∧ w = w' := by
  obtain ⟨str, hstr⟩ : ∃ str, str = strOf [117, 105, 110, 116, 51, 50] := ⟨_, rfl⟩
  have hl : str.toList = [117, 105, 110, 116, 51, 50] := by rw [hstr, str_list]
  rw [← hstr]
  have b0 : (str.toList == [101, 110, 117, 109]) = false := by rw [hl]; decide
  have b1 : (str.toList == [109, 101, 115, 115, 97, 103, 101]) = false := by rw [hl]; decide
  have b2 : (str.toList == [111, 110, 101, 111, 102]) = false := by rw [hl]; decide
  have b3 : (str.toList == [114, 101, 112, 101, 97, 116, 101, 100]) = false := by rw [hl]; decide
  have b4 : (str.toList == [114, 101, 115, 101, 114, 118, 101, 100]) = false := by rw [hl]; decide
  have b5 : (str.toList == [108, 111, 111, 115, 101]) = false := by rw [hl]; decide
  have b6 : (str.toList == [105, 110, 116, 51, 50]) = false := by rw [hl]; decide
  have b7 : (str.toList == [105, 110, 116, 54, 52]) = false := by rw [hl]; decide
  have b8 : (str.toList == [117, 105, 110, 116, 51, 50]) = true := by rw [hl]; decide
  clear hl hstr
  go_enter Tryz.func96, Tryz.ntmps96
  go_wp2
  go_ret
  exact ⟨rfl, rfl⟩
theorem pword_9 (w : World) : Calls Tryz.prog 96 #[.string (strOf [117, 105, 110, 116, 54, 52])] w fun e w' => e = .returned (.bool true) ∧ w = w' := by
  obtain ⟨str, hstr⟩ : ∃ str, str = strOf [117, 105, 110, 116, 54, 52] := ⟨_, rfl⟩
  have hl : str.toList = [117, 105, 110, 116, 54, 52] := by rw [hstr, str_list]
  rw [← hstr]
  have b0 : (str.toList == [101, 110, 117, 109]) = false := by rw [hl]; decide
  have b1 : (str.toList == [109, 101, 115, 115, 97, 103, 101]) = false := by rw [hl]; decide
  have b2 : (str.toList == [111, 110, 101, 111, 102]) = false := by rw [hl]; decide
  have b3 : (str.toList == [114, 101, 112, 101, 97, 116, 101, 100]) = false := by rw [hl]; decide
  have b4 : (str.toList == [114, 101, 115, 101, 114, 118, 101, 100]) = false := by rw [hl]; decide
  have b5 : (str.toList == [108, 111, 111, 115, 101]) = false := by rw [hl]; decide
  have b6 : (str.toList == [105, 110, 116, 51, 50]) = false := by rw [hl]; decide
  have b7 : (str.toList == [105, 110, 116, 54, 52]) = false := by rw [hl]; decide
  have b8 : (str.toList == [117, 105, 110, 116, 51, 50]) = false := by rw [hl]; decide
  have b9 : (str.toList == [117, 105, 110, 116, 54, 52]) = true := by rw [hl]; decide
  clear hl hstr
  go_enter Tryz.func96, Tryz.ntmps96
  go_wp2
  go_ret
  exact ⟨rfl, rfl⟩
theorem pword_10 (w : World) : Calls Tryz.prog 96 #[.string (strOf [115, 105, 110, 116, 51, 50])] w fun e w' => e = .returned (.bool true) ∧ w = w' := by
  obtain ⟨str, hstr⟩ : ∃ str, str = strOf [115, 105, 110, 116, 51, 50] := ⟨_, rfl⟩
  have hl : str.toList = [115, 105, 110, 116, 51, 50] := by rw [hstr, str_list]
  rw [← hstr]
  have b0 : (str.toList == [101, 110, 117, 109]) = false := by rw [hl]; decide
  have b1 : (str.toList == [109, 101, 115, 115, 97, 103, 101]) = false := by rw [hl]; decide
  have b2 : (str.toList == [111, 110, 101, 111, 102]) = false := by rw [hl]; decide
  have b3 : (str.toList == [114, 101, 112, 101, 97, 116, 101, 100]) = false := by rw [hl]; decide
  have b4 : (str.toList == [114, 101, 115, 101, 114, 118, 101, 100]) = false := by rw [hl]; decide
  have b5 : (str.toList == [108, 111, 111, 115, 101]) = false := by rw [hl]; decide
  have b6 : (str.toList == [105, 110, 116, 51, 50]) = false := by rw [hl]; decide
  have b7 : (str.toList == [105, 110, 116, 54, 52]) = false := by rw [hl]; decide
  have b8 : (str.toList == [117, 105, 110, 116, 51, 50]) = false := by rw [hl]; decide
  have b9 : (str.toList == [117, 105, 110, 116, 54, 52]) = false := by rw [hl]; decide
  have b10 : (str.toList == [115, 105, 110, 116, 51, 50]) = true := by rw [hl]; decide
  clear hl hstr
  go_enter Tryz.func96, Tryz.ntmps96
  go_wp2
  go_ret
  exact ⟨rfl, rfl⟩
theorem pword_11 (w : World) : Calls Tryz.prog 96 #[.string (strOf [115, 105, 110, 116, 54, 52])] w fun e w' => e = .returned (.bool true) ∧ w = w' := by
  obtain ⟨str, hstr⟩ : ∃ str, str = strOf [115, 105, 110, 116, 54, 52] := ⟨_, rfl⟩
  have hl : str.toList = [115, 105, 110, 116, 54, 52] := by rw [hstr, str_list]
  rw [← hstr]
  have b0 : (str.toList == [101, 110, 117, 109]) = false := by rw [hl]; decide
  have b1 : (str.toList == [109, 101, 115, 115, 97, 103, 101]) = false := by rw [hl]; decide
  have b2 : (str.toList == [111, 110, 101, 111, 102]) = false := by rw [hl]; decide
  have b3 : (str.toList == [114, 101, 112, 101, 97, 116, 101, 100]) = false := by rw [hl]; decide
  have b4 : (str.toList == [114, 101, 115, 101, 114, 118, 101, 100]) = false := by rw [hl]; decide
  have b5 : (str.toList == [108, 111, 111, 115, 101]) = false := by rw [hl]; decide
  have b6 : (str.toList == [105, 110, 116, 51, 50]) = false := by rw [hl]; decide
  have b7 : (str.toList == [105, 110, 116, 54, 52]) = false := by rw [hl]; decide
  have b8 : (str.toList == [117, 105, 110, 116, 51, 50]) = false := by rw [hl]; decide
  have b9 : (str.toList == [117, 105, 110, 116, 54, 52]) = false := by rw [hl]; decide
  have b10 : (str.toList == [115, 105, 110, 116, 51, 50]) = false := by rw [hl]; decide
  have b11 : (str.toList == [115, 105, 110, 116, 54, 52]) = true := by rw [hl]; decide
  clear hl hstr
  go_enter Tryz.func96, Tryz.ntmps96
  go_wp2
  go_ret
  exact ⟨rfl, rfl⟩
theorem pword_12 (w : World) : Calls Tryz.prog 96 #[.string (strOf [98, 111, 111, 108])] w fun e w' => e = .returned (.bool true) ∧ w = w' := by
  obtain ⟨str, hstr⟩ : ∃ str, str = strOf [98, 111, 111, 108] := ⟨_, rfl⟩
  have hl : str.toList = [98, 111, 111, 108] := by rw [hstr, str_list]
  rw [← hstr]
  have b0 : (str.toList == [101, 110, 117, 109]) = false := by rw [hl]; decide
  have b1 : (str.toList == [109, 101, 115, 115, 97, 103, 101]) = false := by rw [hl]; decide
  have b2 : (str.toList == [111, 110, 101, 111, 102]) = false := by rw [hl]; decide
  have b3 : (str.toList == [114, 101, 112, 101, 97, 116, 101, 100]) = false := by rw [hl]; decide
  have b4 : (str.toList == [114, 101, 115, 101, 114, 118, 101, 100]) = false := by rw [hl]; decide
  have b5 : (str.toList == [108, 111, 111, 115, 101]) = false := by rw [hl]; decide
  have b6 : (str.toList == [105, 110, 116, 51, 50]) = false := by rw [hl]; decide
  have b7 : (str.toList == [105, 110, 116, 54, 52]) = false := by rw [hl]; decide
  have b8 : (str.toList == [117, 105, 110, 116, 51, 50]) = false := by rw [hl]; decide
  have b9 : (str.toList == [117, 105, 110, 116, 54, 52]) = false := by rw [hl]; decide
  have b10 : (str.toList == [115, 105, 110, 116, 51, 50]) = false := by rw [hl]; decide
  have b11 : (str.toList == [115, 105, 110, 116, 54, 52]) = false := by rw [hl]; decide
  have b12 : (str.toList == [98, 111, 111, 108]) = true := by rw [hl]; decide
  clear hl hstr
  go_enter Tryz.func96, Tryz.ntmps96
  go_wp2
  go_ret
  exact ⟨rfl, rfl⟩
theorem pword_13 (w : World) : Calls Tryz.prog 96 #[.string (strOf [102, 105, 120, 101, 100, 51, 50])] w fun e w' => e = .returned (.bool true) ∧ w = w' := by
  obtain ⟨str, hstr⟩ : ∃ str, str = strOf [102, 105, 120, 101, 100, 51, 50] := ⟨_, rfl⟩
  have hl : str.toList = [102, 105, 120, 101, 100, 51, 50] := by rw [hstr, str_list]
  rw [← hstr]
  have b0 : (str.toList == [101, 110, 117, 109]) = false := by rw [hl]; decide
  have b1 : (str.toList == [109, 101, 115, 115, 97, 103, 101]) = false := by rw [hl]; decide
  have b2 : (str.toList == [111, 110, 101, 111, 102]) = false := by rw [hl]; decide
  have b3 : (str.toList == [114, 101, 112, 101, 97, 116, 101, 100]) = false := by rw [hl]; decide
  have b4 : (str.toList == [114, 101, 115, 101, 114, 118, 101, 100]) = false := by rw [hl]; decide
  have b5 : (str.toList == [108, 111, 111, 115, 101]) = false := by rw [hl]; decide
  have b6 : (str.toList == [105, 110, 116, 51, 50]) = false := by rw [hl]; decide
  have b7 : (str.toList == [105, 110, 116, 54, 52]) = false := by rw [hl]; decide
  have b8 : (str.toList == [117, 105, 110, 116, 51, 50]) = false := by rw [hl]; decide
  have b9 : (str.toList == [117, 105, 110, 116, 54, 52]) = false := by rw [hl]; decide
  have b10 : (str.toList == [115, 105, 110, 116, 51, 50]) = false := by rw [hl]; decide
  have b11 : (str.toList == [115, 105, 110, 116, 54, 52]) = false := by rw [hl]; decide
  have b12 : (str.toList == [98, 111, 111, 108]) = false := by rw [hl]; decide
  have b13 : (str.toList == [102, 105, 120, 101, 100, 51, 50]) = true := by rw [hl]; decide
  clear hl hstr
  go_enter Tryz.func96, Tryz.ntmps96
  go_wp2
  go_ret
  exact ⟨rfl, rfl⟩
theorem pword_14 (w : World) : Calls Tryz.prog 96 #[.string (strOf [102, 105, 120, 101, 100, 54, 52])] w fun e w' => e = .returned (.bool true) ∧ w = w' := by
  obtain ⟨str, hstr⟩ : ∃ str, str = strOf [102, 105, 120, 101, 100, 54, 52] := ⟨_, rfl⟩
  have hl : str.toList = [102, 105, 120, 101, 100, 54, 52] := by rw [hstr, str_list]
  rw [← hstr]
  have b0 : (str.toList == [101, 110, 117, 109]) = false := by rw [hl]; decide
  have b1 : (str.toList == [109, 101, 115, 115, 97, 103, 101]) = false := by rw [hl]; decide
  have b2 : (str.toList == [111, 110, 101, 111, 102]) = false := by rw [hl]; decide
  have b3 : (str.toList == [114, 101, 112, 101, 97, 116, 101, 100]) = false := by rw [hl]; decide
  have b4 : (str.toList == [114, 101, 115, 101, 114, 118, 101, 100]) = false := by rw [hl]; decide
  have b5 : (str.toList == [108, 111, 111, 115, 101]) = false := by rw [hl]; decide
  have b6 : (str.toList == [105, 110, 116, 51, 50]) = false := by rw [hl]; decide
  have b7 : (str.toList == [105, 110, 116, 54, 52]) = false := by rw [hl]; decide
  have b8 : (str.toList == [117, 105, 110, 116, 51, 50]) = false := by rw [hl]; decide
  have b9 : (str.toList == [117, 105, 110, 116, 54, 52]) = false := by rw [hl]; decide
  have b10 : (str.toList == [115, 105, 110, 116, 51, 50]) = false := by rw [hl]; decide
  have b11 : (str.toList == [115, 105, 110, 116, 54, 52]) = false := by rw [hl]; decide
  have b12 : (str.toList == [98, 111, 111, 108]) = false := by rw [hl]; decide
  have b13 : (str.toList == [102, 105, 120, 101, 100, 51, 50]) = false := by rw [hl]; decide
  have b14 : (str.toList == [102, 105, 120, 101, 100, 54, 52]) = true := by rw [hl]; decide
  clear hl hstr
  go_enter Tryz.func96, Tryz.ntmps96
  go_wp2
  go_ret
  exact ⟨rfl, rfl⟩
theorem pword_15 (w : World) : Calls Tryz.prog 96 #[.string (strOf [115, 102, 105, 120, 101, 100, 51, 50])] w fun e w' => e = .returned (.bool true) ∧ w = w' := by
  obtain ⟨str, hstr⟩ : ∃ str, str = strOf [115, 102, 105, 120, 101, 100, 51, 50] := ⟨_, rfl⟩
  have hl : str.toList = [115, 102, 105, 120, 101, 100, 51, 50] := by rw [hstr, str_list]
  rw [← hstr]
  have b0 : (str.toList == [101, 110, 117, 109]) = false := by rw [hl]; decide
  have b1 : (str.toList == [109, 101, 115, 115, 97, 103, 101]) = false := by rw [hl]; decide
  have b2 : (str.toList == [111, 110, 101, 111, 102]) = false := by rw [hl]; decide
  have b3 : (str.toList == [114, 101, 112, 101, 97, 116, 101, 100]) = false := by rw [hl]; decide
  have b4 : (str.toList == [114, 101, 115, 101, 114, 118, 101, 100]) = false := by rw [hl]; decide
  have b5 : (str.toList == [108, 111, 111, 115, 101]) = false := by rw [hl]; decide
  have b6 : (str.toList == [105, 110, 116, 51, 50]) = false := by rw [hl]; decide
  have b7 : (str.toList == [105, 110, 116, 54, 52]) = false := by rw [hl]; decide
  have b8 : (str.toList == [117, 105, 110, 116, 51, 50]) = false := by rw [hl]; decide
  have b9 : (str.toList == [117, 105, 110, 116, 54, 52]) = false := by rw [hl]; decide
  have b10 : (str.toList == [115, 105, 110, 116, 51, 50]) = false := by rw [hl]; decide
  have b11 : (str.toList == [115, 105, 110, 116, 54, 52]) = false := by rw [hl]; decide
  have b12 : (str.toList == [98, 111, 111, 108]) = false := by rw [hl]; decide
  have b13 : (str.toList == [102, 105, 120, 101, 100, 51, 50]) = false := by rw [hl]; decide
  have b14 : (str.toList == [102, 105, 120, 101, 100, 54, 52]) = false := by rw [hl]; decide
  have b15 : (str.toList == [115, 102, 105, 120, 101, 100, 51, 50]) = true := by rw [hl]; decide
  clear hl hstr
  go_enter Tryz.func96, Tryz.ntmps96
  go_wp2
  go_ret
  exact ⟨rfl, rfl⟩
theorem pword_16 (w : World) : Calls Tryz.prog 96 #[.string (strOf [115, 102, 105, 120, 101, 100, 54, 52])] w fun e w' => e = .returned (.bool true) ∧ w = w' := by
  obtain ⟨str, hstr⟩ : ∃ str, str = strOf [115, 102, 105, 120, 101, 100, 54, 52] := ⟨_, rfl⟩
  have hl : str.toList = [115, 102, 105, 120, 101, 100, 54, 52] := by rw [hstr, str_list]
  rw [← hstr]
  have b0 : (str.toList == [101, 110, 117, 109]) = false := by rw [hl]; decide
  have b1 : (str.toList == [109, 101, 115, 115, 97, 103, 101]) = false := by rw [hl]; decide
  have b2 : (str.toList == [111, 110, 101, 111, 102]) = false := by rw [hl]; decide
  have b3 : (str.toList == [114, 101, 112, 101, 97, 116, 101, 100]) = false := by rw [hl]; decide
  have b4 : (str.toList == [114, 101, 115, 101, 114, 118, 101, 100]) = false := by rw [hl]; decide
  have b5 : (str.toList == [108, 111, 111, 115, 101]) = false := by rw [hl]; decide
  have b6 : (str.toList == [105, 110, 116, 51, 50]) = false := by rw [hl]; decide
  have b7 : (str.toList == [105, 110, 116, 54, 52]) = false := by rw [hl]; decide
  have b8 : (str.toList == [117, 105, 110, 116, 51, 50]) = false := by rw [hl]; decide
  have b9 : (str.toList == [117, 105, 110, 116, 54, 52]) = false := by rw [hl]; decide
  have b10 : (str.toList == [115, 105, 110, 116, 51, 50]) = false := by rw [hl]; decide
  have b11 : (str.toList == [115, 105, 110, 116, 54, 52]) = false := by rw [hl]; decide
  have b12 : (str.toList == [98, 111, 111, 108]) = false := by rw [hl]; decide
  have b13 : (str.toList == [102, 105, 120, 101, 100, 51, 50]) = false := by rw [hl]; decide
  have b14 : (str.toList == [102, 105, 120, 101, 100, 54, 52]) = false := by rw [hl]; decide
  have b15 : (str.toList == [115, 102, 105, 120, 101, 100, 51, 50]) = false := by rw [hl]; decide
  have b16 : (str.toList == [115, 102, 105, 120, 101, 100, 54, 52]) = true := by rw [hl]; decide
  clear hl hstr
  go_enter Tryz.func96, Tryz.ntmps96
  go_wp2
  go_ret
  exact ⟨rfl, rfl⟩
theorem pword_17 (w : World) : Calls Tryz.prog 96 #[.string (strOf [115, 116, 114, 105, 110, 103])] w fun e w' => e = .returned (.bool true) ∧ w = w' := by
  obtain ⟨str, hstr⟩ : ∃ str, str = strOf [115, 116, 114, 105, 110, 103] := ⟨_, rfl⟩
  have hl : str.toList = [115, 116, 114, 105, 110, 103] := by rw [hstr, str_list]
  rw [← hstr]
  have b0 : (str.toList == [101, 110, 117, 109]) = false := by rw [hl]; decide
  have b1 : (str.toList == [109, 101, 115, 115, 97, 103, 101]) = false := by rw [hl]; decide
  have b2 : (str.toList == [111, 110, 101, 111, 102]) = false := by rw [hl]; decide
  have b3 : (str.toList == [114, 101, 112, 101, 97, 116, 101, 100]) = false := by rw [hl]; decide
  have b4 : (str.toList == [114, 101, 115, 101, 114, 118, 101, 100]) = false := by rw [hl]; decide
  have b5 : (str.toList == [108, 111, 111, 115, 101]) = false := by rw [hl]; decide
  have b6 : (str.toList == [105, 110, 116, 51, 50]) = false := by rw [hl]; decide
  have b7 : (str.toList == [105, 110, 116, 54, 52]) = false := by rw [hl]; decide
  have b8 : (str.toList == [117, 105, 110, 116, 51, 50]) = false := by rw [hl]; decide
  have b9 : (str.toList == [117, 105, 110, 116, 54, 52]) = false := by rw [hl]; decide
  have b10 : (str.toList == [115, 105, 110, 116, 51, 50]) = false := by rw [hl]; decide
  have b11 : (str.toList == [115, 105, 110, 116, 54, 52]) = false := by rw [hl]; decide
  have b12 : (str.toList == [98, 111, 111, 108]) = false := by rw [hl]; decide
  have b13 : (str.toList == [102, 105, 120, 101, 100, 51, 50]) = false := by rw [hl]; decide
  have b14 : (str.toList == [102, 105, 120, 101, 100, 54, 52]) = false := by rw [hl]; decide
  have b15 : (str.toList == [115, 102, 105, 120, 101, 100, 51, 50]) = false := by rw [hl]; decide
  have b16 : (str.toList == [115, 102, 105, 120, 101, 100, 54, 52]) = false := by rw [hl]; decide
  have b17 : (str.toList == [115, 116, 114, 105, 110, 103]) = true := by rw [hl]; decide
  clear hl hstr
  go_enter Tryz.func96, Tryz.ntmps96
  go_wp2
  go_ret
  exact ⟨rfl, rfl⟩
theorem pword_18 (w : World) : Calls Tryz.prog 96 #[.string (strOf [98, 121, 116, 101, 115])] w fun e w' => e = .returned (.bool true) ∧ w = w' := by
  obtain ⟨str, hstr⟩ : ∃ str, str = strOf [98, 121, 116, 101, 115] := ⟨_, rfl⟩
  have hl : str.toList = [98, 121, 116, 101, 115] := by rw [hstr, str_list]
  rw [← hstr]
  have b0 : (str.toList == [101, 110, 117, 109]) = false := by rw [hl]; decide
  have b1 : (str.toList == [109, 101, 115, 115, 97, 103, 101]) = false := by rw [hl]; decide
  have b2 : (str.toList == [111, 110, 101, 111, 102]) = false := by rw [hl]; decide
  have b3 : (str.toList == [114, 101, 112, 101, 97, 116, 101, 100]) = false := by rw [hl]; decide
  have b4 : (str.toList == [114, 101, 115, 101, 114, 118, 101, 100]) = false := by rw [hl]; decide
  have b5 : (str.toList == [108, 111, 111, 115, 101]) = false := by rw [hl]; decide
  have b6 : (str.toList == [105, 110, 116, 51, 50]) = false := by rw [hl]; decide
  have b7 : (str.toList == [105, 110, 116, 54, 52]) = false := by rw [hl]; decide
  have b8 : (str.toList == [117, 105, 110, 116, 51, 50]) = false := by rw [hl]; decide
  have b9 : (str.toList == [117, 105, 110, 116, 54, 52]) = false := by rw [hl]; decide
  have b10 : (str.toList == [115, 105, 110, 116, 51, 50]) = false := by rw [hl]; decide
  have b11 : (str.toList == [115, 105, 110, 116, 54, 52]) = false := by rw [hl]; decide
  have b12 : (str.toList == [98, 111, 111, 108]) = false := by rw [hl]; decide
  have b13 : (str.toList == [102, 105, 120, 101, 100, 51, 50]) = false := by rw [hl]; decide
  have b14 : (str.toList == [102, 105, 120, 101, 100, 54, 52]) = false := by rw [hl]; decide
  have b15 : (str.toList == [115, 102, 105, 120, 101, 100, 51, 50]) = false := by rw [hl]; decide
  have b16 : (str.toList == [115, 102, 105, 120, 101, 100, 54, 52]) = false := by rw [hl]; decide
  have b17 : (str.toList == [115, 116, 114, 105, 110, 103]) = false := by rw [hl]; decide
  have b18 : (str.toList == [98, 121, 116, 101, 115]) = true := by rw [hl]; decide
  clear hl hstr
  go_enter Tryz.func96, Tryz.ntmps96
  go_wp2
  go_ret
  exact ⟨rfl, rfl⟩
theorem pword_19 (w : World) : Calls Tryz.prog 96 #[.string (strOf [114, 101, 110, 97, 109, 101])] w fun e w' => e = .returned (.bool true) ∧ w = w' := by
  obtain ⟨str, hstr⟩ : ∃ str, str = strOf [114, 101, 110, 97, 109, 101] := ⟨_, rfl⟩
  have hl : str.toList = [114, 101, 110, 97, 109, 101] := by rw [hstr, str_list]
  rw [← hstr]
  have b0 : (str.toList == [101, 110, 117, 109]) = false := by rw [hl]; decide
  have b1 : (str.toList == [109, 101, 115, 115, 97, 103, 101]) = false := by rw [hl]; decide
  have b2 : (str.toList == [111, 110, 101, 111, 102]) = false := by rw [hl]; decide
  have b3 : (str.toList == [114, 101, 112, 101, 97, 116, 101, 100]) = false := by rw [hl]; decide
  have b4 : (str.toList == [114, 101, 115, 101, 114, 118, 101, 100]) = false := by rw [hl]; decide
  have b5 : (str.toList == [108, 111, 111, 115, 101]) = false := by rw [hl]; decide
  have b6 : (str.toList == [105, 110, 116, 51, 50]) = false := by rw [hl]; decide
  have b7 : (str.toList == [105, 110, 116, 54, 52]) = false := by rw [hl]; decide
  have b8 : (str.toList == [117, 105, 110, 116, 51, 50]) = false := by rw [hl]; decide
  have b9 : (str.toList == [117, 105, 110, 116, 54, 52]) = false := by rw [hl]; decide
  have b10 : (str.toList == [115, 105, 110, 116, 51, 50]) = false := by rw [hl]; decide
  have b11 : (str.toList == [115, 105, 110, 116, 54, 52]) = false := by rw [hl]; decide
  have b12 : (str.toList == [98, 111, 111, 108]) = false := by rw [hl]; decide
  have b13 : (str.toList == [102, 105, 120, 101, 100, 51, 50]) = false := by rw [hl]; decide
  have b14 : (str.toList == [102, 105, 120, 101, 100, 54, 52]) = false := by rw [hl]; decide
  have b15 : (str.toList == [115, 102, 105, 120, 101, 100, 51, 50]) = false := by rw [hl]; decide
  have b16 : (str.toList == [115, 102, 105, 120, 101, 100, 54, 52]) = false := by rw [hl]; decide
  have b17 : (str.toList == [115, 116, 114, 105, 110, 103]) = false := by rw [hl]; decide
  have b18 : (str.toList == [98, 121, 116, 101, 115]) = false := by rw [hl]; decide
  have b19 : (str.toList == [114, 101, 110, 97, 109, 101]) = true := by rw [hl]; decide
  clear hl hstr
  go_enter Tryz.func96, Tryz.ntmps96
  go_wp2
  go_ret
  exact ⟨rfl, rfl⟩
theorem pword_20 (w : World) : Calls Tryz.prog 96 #[.string (strOf [114, 101, 110, 117, 109, 98, 101, 114])] w fun e w' => e = .returned (.bool true) ∧ w = w' := by
  obtain ⟨str, hstr⟩ : ∃ str, str = strOf [114, 101, 110, 117, 109, 98, 101, 114] := ⟨_, rfl⟩
  have hl : str.toList = [114, 101, 110, 117, 109, 98, 101, 114] := by rw [hstr, str_list]
  rw [← hstr]
  have b0 : (str.toList == [101, 110, 117, 109]) = false := by rw [hl]; decide
  have b1 : (str.toList == [109, 101, 115, 115, 97, 103, 101]) = false := by rw [hl]; decide
  have b2 : (str.toList == [111, 110, 101, 111, 102]) = false := by rw [hl]; decide
  have b3 : (str.toList == [114, 101, 112, 101, 97, 116, 101, 100]) = false := by rw [hl]; decide
  have b4 : (str.toList == [114, 101, 115, 101, 114, 118, 101, 100]) = false := by rw [hl]; decide
  have b5 : (str.toList == [108, 111, 111, 115, 101]) = false := by rw [hl]; decide
  have b6 : (str.toList == [105, 110, 116, 51, 50]) = false := by rw [hl]; decide
  have b7 : (str.toList == [105, 110, 116, 54, 52]) = false := by rw [hl]; decide
  have b8 : (str.toList == [117, 105, 110, 116, 51, 50]) = false := by rw [hl]; decide
  have b9 : (str.toList == [117, 105, 110, 116, 54, 52]) = false := by rw [hl]; decide
  have b10 : (str.toList == [115, 105, 110, 116, 51, 50]) = false := by rw [hl]; decide
  have b11 : (str.toList == [115, 105, 110, 116, 54, 52]) = false := by rw [hl]; decide
  have b12 : (str.toList == [98, 111, 111, 108]) = false := by rw [hl]; decide
  have b13 : (str.toList == [102, 105, 120, 101, 100, 51, 50]) = false := by rw [hl]; decide
  have b14 : (str.toList == [102, 105, 120, 101, 100, 54, 52]) = false := by rw [hl]; decide
  have b15 : (str.toList == [115, 102, 105, 120, 101, 100, 51, 50]) = false := by rw [hl]; decide
  have b16 : (str.toList == [115, 102, 105, 120, 101, 100, 54, 52]) = false := by rw [hl]; decide
  have b17 : (str.toList == [115, 116, 114, 105, 110, 103]) = false := by rw [hl]; decide
  have b18 : (str.toList == [98, 121, 116, 101, 115]) = false := by rw [hl]; decide
  have b19 : (str.toList == [114, 101, 110, 97, 109, 101]) = false := by rw [hl]; decide
  have b20 : (str.toList == [114, 101, 110, 117, 109, 98, 101, 114]) = true := by rw [hl]; decide
  clear hl hstr
  go_enter Tryz.func96, Tryz.ntmps96
  go_wp2
  go_ret
  exact ⟨rfl, rfl⟩
theorem pword_21 (w : World) : Calls Tryz.prog 96 #[.string (strOf [114, 101, 116, 121, 112, 101])] w fun e w' => e = .returned (.bool true) ∧ w = w' := by
  obtain ⟨str, hstr⟩ : ∃ str, str = strOf [114, 101, 116, 121, 112, 101] := ⟨_, rfl⟩
  have hl : str.toList = [114, 101, 116, 121, 112, 101] := by rw [hstr, str_list]
  rw [← hstr]
  have b0 : (str.toList == [101, 110, 117, 109]) = false := by rw [hl]; decide
  have b1 : (str.toList == [109, 101, 115, 115, 97, 103, 101]) = false := by rw [hl]; decide
  have b2 : (str.toList == [111, 110, 101, 111, 102]) = false := by rw [hl]; decide
  have b3 : (str.toList == [114, 101, 112, 101, 97, 116, 101, 100]) = false := by rw [hl]; decide
  have b4 : (str.toList == [114, 101, 115, 101, 114, 118, 101, 100]) = false := by rw [hl]; decide
  have b5 : (str.toList == [108, 111, 111, 115, 101]) = false := by rw [hl]; decide
  have b6 : (str.toList == [105, 110, 116, 51, 50]) = false := by rw [hl]; decide
  have b7 : (str.toList == [105, 110, 116, 54, 52]) = false := by rw [hl]; decide
  have b8 : (str.toList == [117, 105, 110, 116, 51, 50]) = false := by rw [hl]; decide
  have b9 : (str.toList == [117, 105, 110, 116, 54, 52]) = false := by rw [hl]; decide
  have b10 : (str.toList == [115, 105, 110, 116, 51, 50]) = false := by rw [hl]; decide
  have b11 : (str.toList == [115, 105, 110, 116, 54, 52]) = false := by rw [hl]; decide
  have b12 : (str.toList == [98, 111, 111, 108]) = false := by rw [hl]; decide
  have b13 : (str.toList == [102, 105, 120, 101, 100, 51, 50]) = false := by rw [hl]; decide
  have b14 : (str.toList == [102, 105, 120, 101, 100, 54, 52]) = false := by rw [hl]; decide
  have b15 : (str.toList == [115, 102, 105, 120, 101, 100, 51, 50]) = false := by rw [hl]; decide
  have b16 : (str.toList == [115, 102, 105, 120, 101, 100, 54, 52]) = false := by rw [hl]; decide
  have b17 : (str.toList == [115, 116, 114, 105, 110, 103]) = false := by rw [hl]; decide
  have b18 : (str.toList == [98, 121, 116, 101, 115]) = false := by rw [hl]; decide
  have b19 : (str.toList == [114, 101, 110, 97, 109, 101]) = false := by rw [hl]; decide
  have b20 : (str.toList == [114, 101, 110, 117, 109, 98, 101, 114]) = false := by rw [hl]; decide
  have b21 : (str.toList == [114, 101, 116, 121, 112, 101]) = true := by rw [hl]; decide
  clear hl hstr
  go_enter Tryz.func96, Tryz.ntmps96
  go_wp2
  go_ret
  exact ⟨rfl, rfl⟩
theorem pword_22 (w : World) : Calls Tryz.prog 96 #[.string (strOf [115, 112, 108, 105, 116])] w fun e w' => e = .returned (.bool true) ∧ w = w' := by
  obtain ⟨str, hstr⟩ : ∃ str, str = strOf [115, 112, 108, 105, 116] := ⟨_, rfl⟩
  have hl : str.toList = [115, 112, 108, 105, 116] := by rw [hstr, str_list]
  rw [← hstr]
  have b0 : (str.toList == [101, 110, 117, 109]) = false := by rw [hl]; decide
  have b1 : (str.toList == [109, 101, 115, 115, 97, 103, 101]) = false := by rw [hl]; decide
  have b2 : (str.toList == [111, 110, 101, 111, 102]) = false := by rw [hl]; decide
  have b3 : (str.toList == [114, 101, 112, 101, 97, 116, 101, 100]) = false := by rw [hl]; decide
  have b4 : (str.toList == [114, 101, 115, 101, 114, 118, 101, 100]) = false := by rw [hl]; decide
  have b5 : (str.toList == [108, 111, 111, 115, 101]) = false := by rw [hl]; decide
  have b6 : (str.toList == [105, 110, 116, 51, 50]) = false := by rw [hl]; decide
  have b7 : (str.toList == [105, 110, 116, 54, 52]) = false := by rw [hl]; decide
  have b8 : (str.toList == [117, 105, 110, 116, 51, 50]) = false := by rw [hl]; decide
  have b9 : (str.toList == [117, 105, 110, 116, 54, 52]) = false := by rw [hl]; decide
  have b10 : (str.toList == [115, 105, 110, 116, 51, 50]) = false := by rw [hl]; decide
  have b11 : (str.toList == [115, 105, 110, 116, 54, 52]) = false := by rw [hl]; decide
  have b12 : (str.toList == [98, 111, 111, 108]) = false := by rw [hl]; decide
  have b13 : (str.toList == [102, 105, 120, 101, 100, 51, 50]) = false := by rw [hl]; decide
  have b14 : (str.toList == [102, 105, 120, 101, 100, 54, 52]) = false := by rw [hl]; decide
  have b15 : (str.toList == [115, 102, 105, 120, 101, 100, 51, 50]) = false := by rw [hl]; decide
  have b16 : (str.toList == [115, 102, 105, 120, 101, 100, 54, 52]) = false := by rw [hl]; decide
  have b17 : (str.toList == [115, 116, 114, 105, 110, 103]) = false := by rw [hl]; decide
  have b18 : (str.toList == [98, 121, 116, 101, 115]) = false := by rw [hl]; decide
  have b19 : (str.toList == [114, 101, 110, 97, 109, 101]) = false := by rw [hl]; decide
  have b20 : (str.toList == [114, 101, 110, 117, 109, 98, 101, 114]) = false := by rw [hl]; decide
  have b21 : (str.toList == [114, 101, 116, 121, 112, 101]) = false := by rw [hl]; decide
  have b22 : (str.toList == [115, 112, 108, 105, 116]) = true := by rw [hl]; decide
  clear hl hstr
  go_enter Tryz.func96, Tryz.ntmps96
  go_wp2
  go_ret
  exact ⟨rfl, rfl⟩
theorem pword_23 (w : World) : Calls Tryz.prog 96 #[.string (strOf [106, 111, 105, 110])] w fun e w' => e = .returned (.bool true) ∧ w = w' := by
  obtain ⟨str, hstr⟩ : ∃ str, str = strOf [106, 111, 105, 110] := ⟨_, rfl⟩
  have hl : str.toList = [106, 111, 105, 110] := by rw [hstr, str_list]
  rw [← hstr]
  have b0 : (str.toList == [101, 110, 117, 109]) = false := by rw [hl]; decide
  have b1 : (str.toList == [109, 101, 115, 115, 97, 103, 101]) = false := by rw [hl]; decide
  have b2 : (str.toList == [111, 110, 101, 111, 102]) = false := by rw [hl]; decide
  have b3 : (str.toList == [114, 101, 112, 101, 97, 116, 101, 100]) = false := by rw [hl]; decide
  have b4 : (str.toList == [114, 101, 115, 101, 114, 118, 101, 100]) = false := by rw [hl]; decide
  have b5 : (str.toList == [108, 111, 111, 115, 101]) = false := by rw [hl]; decide
  have b6 : (str.toList == [105, 110, 116, 51, 50]) = false := by rw [hl]; decide
  have b7 : (str.toList == [105, 110, 116, 54, 52]) = false := by rw [hl]; decide
  have b8 : (str.toList == [117, 105, 110, 116, 51, 50]) = false := by rw [hl]; decide
  have b9 : (str.toList == [117, 105, 110, 116, 54, 52]) = false := by rw [hl]; decide
  have b10 : (str.toList == [115, 105, 110, 116, 51, 50]) = false := by rw [hl]; decide
  have b11 : (str.toList == [115, 105, 110, 116, 54, 52]) = false := by rw [hl]; decide
  have b12 : (str.toList == [98, 111, 111, 108]) = false := by rw [hl]; decide
  have b13 : (str.toList == [102, 105, 120, 101, 100, 51, 50]) = false := by rw [hl]; decide
  have b14 : (str.toList == [102, 105, 120, 101, 100, 54, 52]) = false := by rw [hl]; decide
  have b15 : (str.toList == [115, 102, 105, 120, 101, 100, 51, 50]) = false := by rw [hl]; decide
  have b16 : (str.toList == [115, 102, 105, 120, 101, 100, 54, 52]) = false := by rw [hl]; decide
  have b17 : (str.toList == [115, 116, 114, 105, 110, 103]) = false := by rw [hl]; decide
  have b18 : (str.toList == [98, 121, 116, 101, 115]) = false := by rw [hl]; decide
  have b19 : (str.toList == [114, 101, 110, 97, 109, 101]) = false := by rw [hl]; decide
  have b20 : (str.toList == [114, 101, 110, 117, 109, 98, 101, 114]) = false := by rw [hl]; decide
  have b21 : (str.toList == [114, 101, 116, 121, 112, 101]) = false := by rw [hl]; decide
  have b22 : (str.toList == [115, 112, 108, 105, 116]) = false := by rw [hl]; decide
  have b23 : (str.toList == [106, 111, 105, 110]) = true := by rw [hl]; decide
  clear hl hstr
  go_enter Tryz.func96, Tryz.ntmps96
  go_wp2
  go_ret
  exact ⟨rfl, rfl⟩
theorem pword_24 (w : World) : Calls Tryz.prog 96 #[.string (strOf [119, 114, 97, 112])] w fun e w' => e = .returned (.bool true) ∧ w = w' := by
  obtain ⟨str, hstr⟩ : ∃ str, str = strOf [119, 114, 97, 112] := ⟨_, rfl⟩
  have hl : str.toList = [119, 114, 97, 112] := by rw [hstr, str_list]
  rw [← hstr]
  have b0 : (str.toList == [101, 110, 117, 109]) = false := by rw [hl]; decide
  have b1 : (str.toList == [109, 101, 115, 115, 97, 103, 101]) = false := by rw [hl]; decide
  have b2 : (str.toList == [111, 110, 101, 111, 102]) = false := by rw [hl]; decide
  have b3 : (str.toList == [114, 101, 112, 101, 97, 116, 101, 100]) = false := by rw [hl]; decide
  have b4 : (str.toList == [114, 101, 115, 101, 114, 118, 101, 100]) = false := by rw [hl]; decide
  have b5 : (str.toList == [108, 111, 111, 115, 101]) = false := by rw [hl]; decide
  have b6 : (str.toList == [105, 110, 116, 51, 50]) = false := by rw [hl]; decide
  have b7 : (str.toList == [105, 110, 116, 54, 52]) = false := by rw [hl]; decide
  have b8 : (str.toList == [117, 105, 110, 116, 51, 50]) = false := by rw [hl]; decide
  have b9 : (str.toList == [117, 105, 110, 116, 54, 52]) = false := by rw [hl]; decide
  have b10 : (str.toList == [115, 105, 110, 116, 51, 50]) = false := by rw [hl]; decide
  have b11 : (str.toList == [115, 105, 110, 116, 54, 52]) = false := by rw [hl]; decide
  have b12 : (str.toList == [98, 111, 111, 108]) = false := by rw [hl]; decide
  have b13 : (str.toList == [102, 105, 120, 101, 100, 51, 50]) = false := by rw [hl]; decide
  have b14 : (str.toList == [102, 105, 120, 101, 100, 54, 52]) = false := by rw [hl]; decide
  have b15 : (str.toList == [115, 102, 105, 120, 101, 100, 51, 50]) = false := by rw [hl]; decide
  have b16 : (str.toList == [115, 102, 105, 120, 101, 100, 54, 52]) = false := by rw [hl]; decide
  have b17 : (str.toList == [115, 116, 114, 105, 110, 103]) = false := by rw [hl]; decide
  have b18 : (str.toList == [98, 121, 116, 101, 115]) = false := by rw [hl]; decide
  have b19 : (str.toList == [114, 101, 110, 97, 109, 101]) = false := by rw [hl]; decide
  have b20 : (str.toList == [114, 101, 110, 117, 109, 98, 101, 114]) = false := by rw [hl]; decide
  have b21 : (str.toList == [114, 101, 116, 121, 112, 101]) = false := by rw [hl]; decide
  have b22 : (str.toList == [115, 112, 108, 105, 116]) = false := by rw [hl]; decide
  have b23 : (str.toList == [106, 111, 105, 110]) = false := by rw [hl]; decide
  have b24 : (str.toList == [119, 114, 97, 112]) = true := by rw [hl]; decide
  clear hl hstr
  go_enter Tryz.func96, Tryz.ntmps96
  go_wp2
  go_ret
  exact ⟨rfl, rfl⟩
theorem pword_25 (w : World) : Calls Tryz.prog 96 #[.string (strOf [117, 110, 119, 114, 97, 112])] w fun e w' => e = .returned (.bool true) ∧ w = w' := by
  obtain ⟨str, hstr⟩ : ∃ str, str = strOf [117, 110, 119, 114, 97, 112] := ⟨_, rfl⟩
  have hl : str.toList = [117, 110, 119, 114, 97, 112] := by rw [hstr, str_list]
  rw [← hstr]
  have b0 : (str.toList == [101, 110, 117, 109]) = false := by rw [hl]; decide
  have b1 : (str.toList == [109, 101, 115, 115, 97, 103, 101]) = false := by rw [hl]; decide
  have b2 : (str.toList == [111, 110, 101, 111, 102]) = false := by rw [hl]; decide
  have b3 : (str.toList == [114, 101, 112, 101, 97, 116, 101, 100]) = false := by rw [hl]; decide
  have b4 : (str.toList == [114, 101, 115, 101, 114, 118, 101, 100]) = false := by rw [hl]; decide
  have b5 : (str.toList == [108, 111, 111, 115, 101]) = false := by rw [hl]; decide
  have b6 : (str.toList == [105, 110, 116, 51, 50]) = false := by rw [hl]; decide
  have b7 : (str.toList == [105, 110, 116, 54, 52]) = false := by rw [hl]; decide
  have b8 : (str.toList == [117, 105, 110, 116, 51, 50]) = false := by rw [hl]; decide
  have b9 : (str.toList == [117, 105, 110, 116, 54, 52]) = false := by rw [hl]; decide
  have b10 : (str.toList == [115, 105, 110, 116, 51, 50]) = false := by rw [hl]; decide
  have b11 : (str.toList == [115, 105, 110, 116, 54, 52]) = false := by rw [hl]; decide
  have b12 : (str.toList == [98, 111, 111, 108]) = false := by rw [hl]; decide
  have b13 : (str.toList == [102, 105, 120, 101, 100, 51, 50]) = false := by rw [hl]; decide
  have b14 : (str.toList == [102, 105, 120, 101, 100, 54, 52]) = false := by rw [hl]; decide
  have b15 : (str.toList == [115, 102, 105, 120, 101, 100, 51, 50]) = false := by rw [hl]; decide
  have b16 : (str.toList == [115, 102, 105, 120, 101, 100, 54, 52]) = false := by rw [hl]; decide
  have b17 : (str.toList == [115, 116, 114, 105, 110, 103]) = false := by rw [hl]; decide
  have b18 : (str.toList == [98, 121, 116, 101, 115]) = false := by rw [hl]; decide
  have b19 : (str.toList == [114, 101, 110, 97, 109, 101]) = false := by rw [hl]; decide
  have b20 : (str.toList == [114, 101, 110, 117, 109, 98, 101, 114]) = false := by rw [hl]; decide
  have b21 : (str.toList == [114, 101, 116, 121, 112, 101]) = false := by rw [hl]; decide
  have b22 : (str.toList == [115, 112, 108, 105, 116]) = false := by rw [hl]; decide
  have b23 : (str.toList == [106, 111, 105, 110]) = false := by rw [hl]; decide
  have b24 : (str.toList == [119, 114, 97, 112]) = false := by rw [hl]; decide
  have b25 : (str.toList == [117, 110, 119, 114, 97, 112]) = true := by rw [hl]; decide
  clear hl hstr
  go_enter Tryz.func96, Tryz.ntmps96
  go_wp2
  go_ret
  exact ⟨rfl, rfl⟩
theorem pword_26 (w : World) : Calls Tryz.prog 96 #[.string (strOf [97, 100, 100])] w fun e w' => e = .returned (.bool true) ∧ w = w' := by
  obtain ⟨str, hstr⟩ : ∃ str, str = strOf [97, 100, 100] := ⟨_, rfl⟩
  have hl : str.toList = [97, 100, 100] := by rw [hstr, str_list]
  rw [← hstr]
  have b0 : (str.toList == [101, 110, 117, 109]) = false := by rw [hl]; decide
  have b1 : (str.toList == [109, 101, 115, 115, 97, 103, 101]) = false := by rw [hl]; decide
  have b2 : (str.toList == [111, 110, 101, 111, 102]) = false := by rw [hl]; decide
  have b3 : (str.toList == [114, 101, 112, 101, 97, 116, 101, 100]) = false := by rw [hl]; decide
  have b4 : (str.toList == [114, 101, 115, 101, 114, 118, 101, 100]) = false := by rw [hl]; decide
  have b5 : (str.toList == [108, 111, 111, 115, 101]) = false := by rw [hl]; decide
  have b6 : (str.toList == [105, 110, 116, 51, 50]) = false := by rw [hl]; decide
  have b7 : (str.toList == [105, 110, 116, 54, 52]) = false := by rw [hl]; decide
  have b8 : (str.toList == [117, 105, 110, 116, 51, 50]) = false := by rw [hl]; decide
  have b9 : (str.toList == [117, 105, 110, 116, 54, 52]) = false := by rw [hl]; decide
  have b10 : (str.toList == [115, 105, 110, 116, 51, 50]) = false := by rw [hl]; decide
  have b11 : (str.toList == [115, 105, 110, 116, 54, 52]) = false := by rw [hl]; decide
  have b12 : (str.toList == [98, 111, 111, 108]) = false := by rw [hl]; decide
  have b13 : (str.toList == [102, 105, 120, 101, 100, 51, 50]) = false := by rw [hl]; decide
  have b14 : (str.toList == [102, 105, 120, 101, 100, 54, 52]) = false := by rw [hl]; decide
  have b15 : (str.toList == [115, 102, 105, 120, 101, 100, 51, 50]) = false := by rw [hl]; decide
  have b16 : (str.toList == [115, 102, 105, 120, 101, 100, 54, 52]) = false := by rw [hl]; decide
  have b17 : (str.toList == [115, 116, 114, 105, 110, 103]) = false := by rw [hl]; decide
  have b18 : (str.toList == [98, 121, 116, 101, 115]) = false := by rw [hl]; decide
  have b19 : (str.toList == [114, 101, 110, 97, 109, 101]) = false := by rw [hl]; decide
  have b20 : (str.toList == [114, 101, 110, 117, 109, 98, 101, 114]) = false := by rw [hl]; decide
  have b21 : (str.toList == [114, 101, 116, 121, 112, 101]) = false := by rw [hl]; decide
  have b22 : (str.toList == [115, 112, 108, 105, 116]) = false := by rw [hl]; decide
  have b23 : (str.toList == [106, 111, 105, 110]) = false := by rw [hl]; decide
  have b24 : (str.toList == [119, 114, 97, 112]) = false := by rw [hl]; decide
  have b25 : (str.toList == [117, 110, 119, 114, 97, 112]) = false := by rw [hl]; decide
  have b26 : (str.toList == [97, 100, 100]) = true := by rw [hl]; decide
  clear hl hstr
  go_enter Tryz.func96, Tryz.ntmps96
  go_wp2
  go_ret
  exact ⟨rfl, rfl⟩
theorem pword_27 (w : World) : Calls Tryz.prog 96 #[.string (strOf [100, 114, 111, 112])] w fun e w' => e = .returned (.bool true) ∧ w = w' := by
  obtain ⟨str, hstr⟩ : ∃ str, str = strOf [100, 114, 111, 112] := ⟨_, rfl⟩
  have hl : str.toList = [100, 114, 111, 112] := by rw [hstr, str_list]
  rw [← hstr]
  have b0 : (str.toList == [101, 110, 117, 109]) = false := by rw [hl]; decide
  have b1 : (str.toList == [109, 101, 115, 115, 97, 103, 101]) = false := by rw [hl]; decide
  have b2 : (str.toList == [111, 110, 101, 111, 102]) = false := by rw [hl]; decide
  have b3 : (str.toList == [114, 101, 112, 101, 97, 116, 101, 100]) = false := by rw [hl]; decide
  have b4 : (str.toList == [114, 101, 115, 101, 114, 118, 101, 100]) = false := by rw [hl]; decide
  have b5 : (str.toList == [108, 111, 111, 115, 101]) = false := by rw [hl]; decide
  have b6 : (str.toList == [105, 110, 116, 51, 50]) = false := by rw [hl]; decide
  have b7 : (str.toList == [105, 110, 116, 54, 52]) = false := by rw [hl]; decide
  have b8 : (str.toList == [117, 105, 110, 116, 51, 50]) = false := by rw [hl]; decide
  have b9 : (str.toList == [117, 105, 110, 116, 54, 52]) = false := by rw [hl]; decide
  have b10 : (str.toList == [115, 105, 110, 116, 51, 50]) = false := by rw [hl]; decide
  have b11 : (str.toList == [115, 105, 110, 116, 54, 52]) = false := by rw [hl]; decide
  have b12 : (str.toList == [98, 111, 111, 108]) = false := by rw [hl]; decide
  have b13 : (str.toList == [102, 105, 120, 101, 100, 51, 50]) = false := by rw [hl]; decide
  have b14 : (str.toList == [102, 105, 120, 101, 100, 54, 52]) = false := by rw [hl]; decide
  have b15 : (str.toList == [115, 102, 105, 120, 101, 100, 51, 50]) = false := by rw [hl]; decide
  have b16 : (str.toList == [115, 102, 105, 120, 101, 100, 54, 52]) = false := by rw [hl]; decide
  have b17 : (str.toList == [115, 116, 114, 105, 110, 103]) = false := by rw [hl]; decide
  have b18 : (str.toList == [98, 121, 116, 101, 115]) = false := by rw [hl]; decide
  have b19 : (str.toList == [114, 101, 110, 97, 109, 101]) = false := by rw [hl]; decide
  have b20 : (str.toList == [114, 101, 110, 117, 109, 98, 101, 114]) = false := by rw [hl]; decide
  have b21 : (str.toList == [114, 101, 116, 121, 112, 101]) = false := by rw [hl]; decide
  have b22 : (str.toList == [115, 112, 108, 105, 116]) = false := by rw [hl]; decide
  have b23 : (str.toList == [106, 111, 105, 110]) = false := by rw [hl]; decide
  have b24 : (str.toList == [119, 114, 97, 112]) = false := by rw [hl]; decide
  have b25 : (str.toList == [117, 110, 119, 114, 97, 112]) = false := by rw [hl]; decide
  have b26 : (str.toList == [97, 100, 100]) = false := by rw [hl]; decide
  have b27 : (str.toList == [100, 114, 111, 112]) = true := by rw [hl]; decide
  clear hl hstr
  go_enter Tryz.func96, Tryz.ntmps96
  go_wp2
  go_ret
  exact ⟨rfl, rfl⟩
theorem pword_28 (w : World) : Calls Tryz.prog 96 #[.string (strOf [116, 111])] w fun e w' => e = .returned (.bool true) ∧ w = w' := by
  obtain ⟨str, hstr⟩ : ∃ str, str = strOf [116, 111] := ⟨_, rfl⟩
  have hl : str.toList = [116, 111] := by rw [hstr, str_list]
  rw [← hstr]
  have b0 : (str.toList == [101, 110, 117, 109]) = false := by rw [hl]; decide
  have b1 : (str.toList == [109, 101, 115, 115, 97, 103, 101]) = false := by rw [hl]; decide
  have b2 : (str.toList == [111, 110, 101, 111, 102]) = false := by rw [hl]; decide
  have b3 : (str.toList == [114, 101, 112, 101, 97, 116, 101, 100]) = false := by rw [hl]; decide
  have b4 : (str.toList == [114, 101, 115, 101, 114, 118, 101, 100]) = false := by rw [hl]; decide
  have b5 : (str.toList == [108, 111, 111, 115, 101]) = false := by rw [hl]; decide
  have b6 : (str.toList == [105, 110, 116, 51, 50]) = false := by rw [hl]; decide
  have b7 : (str.toList == [105, 110, 116, 54, 52]) = false := by rw [hl]; decide
  have b8 : (str.toList == [117, 105, 110, 116, 51, 50]) = false := by rw [hl]; decide
  have b9 : (str.toList == [117, 105, 110, 116, 54, 52]) = false := by rw [hl]; decide
  have b10 : (str.toList == [115, 105, 110, 116, 51, 50]) = false := by rw [hl]; decide
  have b11 : (str.toList == [115, 105, 110, 116, 54, 52]) = false := by rw [hl]; decide
  have b12 : (str.toList == [98, 111, 111, 108]) = false := by rw [hl]; decide
  have b13 : (str.toList == [102, 105, 120, 101, 100, 51, 50]) = false := by rw [hl]; decide
  have b14 : (str.toList == [102, 105, 120, 101, 100, 54, 52]) = false := by rw [hl]; decide
  have b15 : (str.toList == [115, 102, 105, 120, 101, 100, 51, 50]) = false := by rw [hl]; decide
  have b16 : (str.toList == [115, 102, 105, 120, 101, 100, 54, 52]) = false := by rw [hl]; decide
  have b17 : (str.toList == [115, 116, 114, 105, 110, 103]) = false := by rw [hl]; decide
  have b18 : (str.toList == [98, 121, 116, 101, 115]) = false := by rw [hl]; decide
  have b19 : (str.toList == [114, 101, 110, 97, 109, 101]) = false := by rw [hl]; decide
  have b20 : (str.toList == [114, 101, 110, 117, 109, 98, 101, 114]) = false := by rw [hl]; decide
  have b21 : (str.toList == [114, 101, 116, 121, 112, 101]) = false := by rw [hl]; decide
  have b22 : (str.toList == [115, 112, 108, 105, 116]) = false := by rw [hl]; decide
  have b23 : (str.toList == [106, 111, 105, 110]) = false := by rw [hl]; decide
  have b24 : (str.toList == [119, 114, 97, 112]) = false := by rw [hl]; decide
  have b25 : (str.toList == [117, 110, 119, 114, 97, 112]) = false := by rw [hl]; decide
  have b26 : (str.toList == [97, 100, 100]) = false := by rw [hl]; decide
  have b27 : (str.toList == [100, 114, 111, 112]) = false := by rw [hl]; decide
  have b28 : (str.toList == [116, 111]) = true := by rw [hl]; decide
  clear hl hstr
  go_enter Tryz.func96, Tryz.ntmps96
  go_wp2
  go_ret
  exact ⟨rfl, rfl⟩
theorem pword_29 (w : World) : Calls Tryz.prog 96 #[.string (strOf [105, 110, 116, 111])] w fun e w' => e = .returned (.bool true) ∧ w = w' := by
  obtain ⟨str, hstr⟩ : ∃ str, str = strOf [105, 110, 116, 111] := ⟨_, rfl⟩
  have hl : str.toList = [105, 110, 116, 111] := by rw [hstr, str_list]
  rw [← hstr]
  have b0 : (str.toList == [101, 110, 117, 109]) = false := by rw [hl]; decide
  have b1 : (str.toList == [109, 101, 115, 115, 97, 103, 101]) = false := by rw [hl]; decide
  have b2 : (str.toList == [111, 110, 101, 111, 102]) = false := by rw [hl]; decide
  have b3 : (str.toList == [114, 101, 112, 101, 97, 116, 101, 100]) = false := by rw [hl]; decide
  have b4 : (str.toList == [114, 101, 115, 101, 114, 118, 101, 100]) = false := by rw [hl]; decide
  have b5 : (str.toList == [108, 111, 111, 115, 101]) = false := by rw [hl]; decide
  have b6 : (str.toList == [105, 110, 116, 51, 50]) = false := by rw [hl]; decide
  have b7 : (str.toList == [105, 110, 116, 54, 52]) = false := by rw [hl]; decide
  have b8 : (str.toList == [117, 105, 110, 116, 51, 50]) = false := by rw [hl]; decide
  have b9 : (str.toList == [117, 105, 110, 116, 54, 52]) = false := by rw [hl]; decide
  have b10 : (str.toList == [115, 105, 110, 116, 51, 50]) = false := by rw [hl]; decide
  have b11 : (str.toList == [115, 105, 110, 116, 54, 52]) = false := by rw [hl]; decide
  have b12 : (str.toList == [98, 111, 111, 108]) = false := by rw [hl]; decide
  have b13 : (str.toList == [102, 105, 120, 101, 100, 51, 50]) = false := by rw [hl]; decide
  have b14 : (str.toList == [102, 105, 120, 101, 100, 54, 52]) = false := by rw [hl]; decide
  have b15 : (str.toList == [115, 102, 105, 120, 101, 100, 51, 50]) = false := by rw [hl]; decide
  have b16 : (str.toList == [115, 102, 105, 120, 101, 100, 54, 52]) = false := by rw [hl]; decide
  have b17 : (str.toList == [115, 116, 114, 105, 110, 103]) = false := by rw [hl]; decide
  have b18 : (str.toList == [98, 121, 116, 101, 115]) = false := by rw [hl]; decide
  have b19 : (str.toList == [114, 101, 110, 97, 109, 101]) = false := by rw [hl]; decide
  have b20 : (str.toList == [114, 101, 110, 117, 109, 98, 101, 114]) = false := by rw [hl]; decide
  have b21 : (str.toList == [114, 101, 116, 121, 112, 101]) = false := by rw [hl]; decide
  have b22 : (str.toList == [115, 112, 108, 105, 116]) = false := by rw [hl]; decide
  have b23 : (str.toList == [106, 111, 105, 110]) = false := by rw [hl]; decide
  have b24 : (str.toList == [119, 114, 97, 112]) = false := by rw [hl]; decide
  have b25 : (str.toList == [117, 110, 119, 114, 97, 112]) = false := by rw [hl]; decide
  have b26 : (str.toList == [97, 100, 100]) = false := by rw [hl]; decide
  have b27 : (str.toList == [100, 114, 111, 112]) = false := by rw [hl]; decide
  have b28 : (str.toList == [116, 111]) = false := by rw [hl]; decide
  have b29 : (str.toList == [105, 110, 116, 111]) = true := by rw [hl]; decide
  clear hl hstr
  go_enter Tryz.func96, Tryz.ntmps96
  go_wp2
  go_ret
  exact ⟨rfl, rfl⟩
theorem pword_30 (w : World) : Calls Tryz.prog 96 #[.string (strOf [97, 115])] w fun e w' => e = .returned (.bool true) ∧ w = w' := by
  obtain ⟨str, hstr⟩ : ∃ str, str = strOf [97, 115] := ⟨_, rfl⟩
  have hl : str.toList = [97, 115] := by rw [hstr, str_list]
  rw [← hstr]
  have b0 : (str.toList == [101, 110, 117, 109]) = false := by rw [hl]; decide
  have b1 : (str.toList == [109, 101, 115, 115, 97, 103, 101]) = false := by rw [hl]; decide
  have b2 : (str.toList == [111, 110, 101, 111, 102]) = false := by rw [hl]; decide
  have b3 : (str.toList == [114, 101, 112, 101, 97, 116, 101, 100]) = false := by rw [hl]; decide
  have b4 : (str.toList == [114, 101, 115, 101, 114, 118, 101, 100]) = false := by rw [hl]; decide
  have b5 : (str.toList == [108, 111, 111, 115, 101]) = false := by rw [hl]; decide
  have b6 : (str.toList == [105, 110, 116, 51, 50]) = false := by rw [hl]; decide
  have b7 : (str.toList == [105, 110, 116, 54, 52]) = false := by rw [hl]; decide
  have b8 : (str.toList == [117, 105, 110, 116, 51, 50]) = false := by rw [hl]; decide
  have b9 : (str.toList == [117, 105, 110, 116, 54, 52]) = false := by rw [hl]; decide
  have b10 : (str.toList == [115, 105, 110, 116, 51, 50]) = false := by rw [hl]; decide
  have b11 : (str.toList == [115, 105, 110, 116, 54, 52]) = false := by rw [hl]; decide
  have b12 : (str.toList == [98, 111, 111, 108]) = false := by rw [hl]; decide
  have b13 : (str.toList == [102, 105, 120, 101, 100, 51, 50]) = false := by rw [hl]; decide
  have b14 : (str.toList == [102, 105, 120, 101, 100, 54, 52]) = false := by rw [hl]; decide
  have b15 : (str.toList == [115, 102, 105, 120, 101, 100, 51, 50]) = false := by rw [hl]; decide
  have b16 : (str.toList == [115, 102, 105, 120, 101, 100, 54, 52]) = false := by rw [hl]; decide
  have b17 : (str.toList == [115, 116, 114, 105, 110, 103]) = false := by rw [hl]; decide
  have b18 : (str.toList == [98, 121, 116, 101, 115]) = false := by rw [hl]; decide
  have b19 : (str.toList == [114, 101, 110, 97, 109, 101]) = false := by rw [hl]; decide
  have b20 : (str.toList == [114, 101, 110, 117, 109, 98, 101, 114]) = false := by rw [hl]; decide
  have b21 : (str.toList == [114, 101, 116, 121, 112, 101]) = false := by rw [hl]; decide
  have b22 : (str.toList == [115, 112, 108, 105, 116]) = false := by rw [hl]; decide
  have b23 : (str.toList == [106, 111, 105, 110]) = false := by rw [hl]; decide
  have b24 : (str.toList == [119, 114, 97, 112]) = false := by rw [hl]; decide
  have b25 : (str.toList == [117, 110, 119, 114, 97, 112]) = false := by rw [hl]; decide
  have b26 : (str.toList == [97, 100, 100]) = false := by rw [hl]; decide
  have b27 : (str.toList == [100, 114, 111, 112]) = false := by rw [hl]; decide
  have b28 : (str.toList == [116, 111]) = false := by rw [hl]; decide
  have b29 : (str.toList == [105, 110, 116, 111]) = false := by rw [hl]; decide
  have b30 : (str.toList == [97, 115]) = true := by rw [hl]; decide
  clear hl hstr
  go_enter Tryz.func96, Tryz.ntmps96
  go_wp2
  go_ret
  exact ⟨rfl, rfl⟩
theorem pword_31 (w : World) : Calls Tryz.prog 96 #[.string (strOf [111, 102])] w fun e w' => e = .returned (.bool true) ∧ w = w' := by
  obtain ⟨str, hstr⟩ : ∃ str, str = strOf [111, 102] := ⟨_, rfl⟩
  have hl : str.toList = [111, 102] := by rw [hstr, str_list]
  rw [← hstr]
  have b0 : (str.toList == [101, 110, 117, 109]) = false := by rw [hl]; decide
  have b1 : (str.toList == [109, 101, 115, 115, 97, 103, 101]) = false := by rw [hl]; decide
  have b2 : (str.toList == [111, 110, 101, 111, 102]) = false := by rw [hl]; decide
  have b3 : (str.toList == [114, 101, 112, 101, 97, 116, 101, 100]) = false := by rw [hl]; decide
  have b4 : (str.toList == [114, 101, 115, 101, 114, 118, 101, 100]) = false := by rw [hl]; decide
  have b5 : (str.toList == [108, 111, 111, 115, 101]) = false := by rw [hl]; decide
  have b6 : (str.toList == [105, 110, 116, 51, 50]) = false := by rw [hl]; decide
  have b7 : (str.toList == [105, 110, 116, 54, 52]) = false := by rw [hl]; decide
  have b8 : (str.toList == [117, 105, 110, 116, 51, 50]) = false := by rw [hl]; decide
  have b9 : (str.toList == [117, 105, 110, 116, 54, 52]) = false := by rw [hl]; decide
  have b10 : (str.toList == [115, 105, 110, 116, 51, 50]) = false := by rw [hl]; decide
  have b11 : (str.toList == [115, 105, 110, 116, 54, 52]) = false := by rw [hl]; decide
  have b12 : (str.toList == [98, 111, 111, 108]) = false := by rw [hl]; decide
  have b13 : (str.toList == [102, 105, 120, 101, 100, 51, 50]) = false := by rw [hl]; decide
  have b14 : (str.toList == [102, 105, 120, 101, 100, 54, 52]) = false := by rw [hl]; decide
  have b15 : (str.toList == [115, 102, 105, 120, 101, 100, 51, 50]) = false := by rw [hl]; decide
  have b16 : (str.toList == [115, 102, 105, 120, 101, 100, 54, 52]) = false := by rw [hl]; decide
  have b17 : (str.toList == [115, 116, 114, 105, 110, 103]) = false := by rw [hl]; decide
  have b18 : (str.toList == [98, 121, 116, 101, 115]) = false := by rw [hl]; decide
  have b19 : (str.toList == [114, 101, 110, 97, 109, 101]) = false := by rw [hl]; decide
  have b20 : (str.toList == [114, 101, 110, 117, 109, 98, 101, 114]) = false := by rw [hl]; decide
  have b21 : (str.toList == [114, 101, 116, 121, 112, 101]) = false := by rw [hl]; decide
  have b22 : (str.toList == [115, 112, 108, 105, 116]) = false := by rw [hl]; decide
  have b23 : (str.toList == [106, 111, 105, 110]) = false := by rw [hl]; decide
  have b24 : (str.toList == [119, 114, 97, 112]) = false := by rw [hl]; decide
  have b25 : (str.toList == [117, 110, 119, 114, 97, 112]) = false := by rw [hl]; decide
  have b26 : (str.toList == [97, 100, 100]) = false := by rw [hl]; decide
  have b27 : (str.toList == [100, 114, 111, 112]) = false := by rw [hl]; decide
  have b28 : (str.toList == [116, 111]) = false := by rw [hl]; decide
  have b29 : (str.toList == [105, 110, 116, 111]) = false := by rw [hl]; decide
  have b30 : (str.toList == [97, 115]) = false := by rw [hl]; decide
  have b31 : (str.toList == [111, 102]) = true := by rw [hl]; decide
  clear hl hstr
  go_enter Tryz.func96, Tryz.ntmps96
  go_wp2
  go_ret
  exact ⟨rfl, rfl⟩
theorem pword_32 (w : World) : Calls Tryz.prog 96 #[.string (strOf [100, 101, 102, 97, 117, 108, 116])] w fun e w' => e = .returned (.bool true) ∧ w = w' := by
  obtain ⟨str, hstr⟩ : ∃ str, str = strOf [100, 101, 102, 97, 117, 108, 116] := ⟨_, rfl⟩
  have hl : str.toList = [100, 101, 102, 97, 117, 108, 116] := by rw [hstr, str_list]
  rw [← hstr]
  have b0 : (str.toList == [101, 110, 117, 109]) = false := by rw [hl]; decide
  have b1 : (str.toList == [109, 101, 115, 115, 97, 103, 101]) = false := by rw [hl]; decide
  have b2 : (str.toList == [111, 110, 101, 111, 102]) = false := by rw [hl]; decide
  have b3 : (str.toList == [114, 101, 112, 101, 97, 116, 101, 100]) = false := by rw [hl]; decide
  have b4 : (str.toList == [114, 101, 115, 101, 114, 118, 101, 100]) = false := by rw [hl]; decide
  have b5 : (str.toList == [108, 111, 111, 115, 101]) = false := by rw [hl]; decide
  have b6 : (str.toList == [105, 110, 116, 51, 50]) = false := by rw [hl]; decide
  have b7 : (str.toList == [105, 110, 116, 54, 52]) = false := by rw [hl]; decide
  have b8 : (str.toList == [117, 105, 110, 116, 51, 50]) = false := by rw [hl]; decide
  have b9 : (str.toList == [117, 105, 110, 116, 54, 52]) = false := by rw [hl]; decide
  have b10 : (str.toList == [115, 105, 110, 116, 51, 50]) = false := by rw [hl]; decide
  have b11 : (str.toList == [115, 105, 110, 116, 54, 52]) = false := by rw [hl]; decide
  have b12 : (str.toList == [98, 111, 111, 108]) = false := by rw [hl]; decide
  have b13 : (str.toList == [102, 105, 120, 101, 100, 51, 50]) = false := by rw [hl]; decide
  have b14 : (str.toList == [102, 105, 120, 101, 100, 54, 52]) = false := by rw [hl]; decide
  have b15 : (str.toList == [115, 102, 105, 120, 101, 100, 51, 50]) = false := by rw [hl]; decide
  have b16 : (str.toList == [115, 102, 105, 120, 101, 100, 54, 52]) = false := by rw [hl]; decide
  have b17 : (str.toList == [115, 116, 114, 105, 110, 103]) = false := by rw [hl]; decide
  have b18 : (str.toList == [98, 121, 116, 101, 115]) = false := by rw [hl]; decide
  have b19 : (str.toList == [114, 101, 110, 97, 109, 101]) = false := by rw [hl]; decide
  have b20 : (str.toList == [114, 101, 110, 117, 109, 98, 101, 114]) = false := by rw [hl]; decide
  have b21 : (str.toList == [114, 101, 116, 121, 112, 101]) = false := by rw [hl]; decide
  have b22 : (str.toList == [115, 112, 108, 105, 116]) = false := by rw [hl]; decide
  have b23 : (str.toList == [106, 111, 105, 110]) = false := by rw [hl]; decide
  have b24 : (str.toList == [119, 114, 97, 112]) = false := by rw [hl]; decide
  have b25 : (str.toList == [117, 110, 119, 114, 97, 112]) = false := by rw [hl]; decide
  have b26 : (str.toList == [97, 100, 100]) = false := by rw [hl]; decide
  have b27 : (str.toList == [100, 114, 111, 112]) = false := by rw [hl]; decide
  have b28 : (str.toList == [116, 111]) = false := by rw [hl]; decide
  have b29 : (str.toList == [105, 110, 116, 111]) = false := by rw [hl]; decide
  have b30 : (str.toList == [97, 115]) = false := by rw [hl]; decide
  have b31 : (str.toList == [111, 102]) = false := by rw [hl]; decide
  have b32 : (str.toList == [100, 101, 102, 97, 117, 108, 116]) = true := by rw [hl]; decide
  clear hl hstr
  go_enter Tryz.func96, Tryz.ntmps96
  go_wp2
  go_ret
  exact ⟨rfl, rfl⟩
theorem pword_33 (w : World) : Calls Tryz.prog 96 #[.string (strOf [116, 114, 117, 101])] w fun e w' => e = .returned (.bool true) ∧ w = w' := by
  obtain ⟨str, hstr⟩ : ∃ str, str = strOf [116, 114, 117, 101] := ⟨_, rfl⟩
  have hl : str.toList = [116, 114, 117, 101] := by rw [hstr, str_list]
  rw [← hstr]
  have b0 : (str.toList == [101, 110, 117, 109]) = false := by rw [hl]; decide
  have b1 : (str.toList == [109, 101, 115, 115, 97, 103, 101]) = false := by rw [hl]; decide
  have b2 : (str.toList == [111, 110, 101, 111, 102]) = false := by rw [hl]; decide
  have b3 : (str.toList == [114, 101, 112, 101, 97, 116, 101, 100]) = false := by rw [hl]; decide
  have b4 : (str.toList == [114, 101, 115, 101, 114, 118, 101, 100]) = false := by rw [hl]; decide
  have b5 : (str.toList == [108, 111, 111, 115, 101]) = false := by rw [hl]; decide
  have b6 : (str.toList == [105, 110, 116, 51, 50]) = false := by rw [hl]; decide
  have b7 : (str.toList == [105, 110, 116, 54, 52]) = false := by rw [hl]; decide
  have b8 : (str.toList == [117, 105, 110, 116, 51, 50]) = false := by rw [hl]; decide
  have b9 : (str.toList == [117, 105, 110, 116, 54, 52]) = false := by rw [hl]; decide
  have b10 : (str.toList == [115, 105, 110, 116, 51, 50]) = false := by rw [hl]; decide
  have b11 : (str.toList == [115, 105, 110, 116, 54, 52]) = false := by rw [hl]; decide
  have b12 : (str.toList == [98, 111, 111, 108]) = false := by rw [hl]; decide
  have b13 : (str.toList == [102, 105, 120, 101, 100, 51, 50]) = false := by rw [hl]; decide
  have b14 : (str.toList == [102, 105, 120, 101, 100, 54, 52]) = false := by rw [hl]; decide
  have b15 : (str.toList == [115, 102, 105, 120, 101, 100, 51, 50]) = false := by rw [hl]; decide
  have b16 : (str.toList == [115, 102, 105, 120, 101, 100, 54, 52]) = false := by rw [hl]; decide
  have b17 : (str.toList == [115, 116, 114, 105, 110, 103]) = false := by rw [hl]; decide
  have b18 : (str.toList == [98, 121, 116, 101, 115]) = false := by rw [hl]; decide
  have b19 : (str.toList == [114, 101, 110, 97, 109, 101]) = false := by rw [hl]; decide
  have b20 : (str.toList == [114, 101, 110, 117, 109, 98, 101, 114]) = false := by rw [hl]; decide
  have b21 : (str.toList == [114, 101, 116, 121, 112, 101]) = false := by rw [hl]; decide
  have b22 : (str.toList == [115, 112, 108, 105, 116]) = false := by rw [hl]; decide
  have b23 : (str.toList == [106, 111, 105, 110]) = false := by rw [hl]; decide
  have b24 : (str.toList == [119, 114, 97, 112]) = false := by rw [hl]; decide
  have b25 : (str.toList == [117, 110, 119, 114, 97, 112]) = false := by rw [hl]; decide
  have b26 : (str.toList == [97, 100, 100]) = false := by rw [hl]; decide
  have b27 : (str.toList == [100, 114, 111, 112]) = false := by rw [hl]; decide
  have b28 : (str.toList == [116, 111]) = false := by rw [hl]; decide
  have b29 : (str.toList == [105, 110, 116, 111]) = false := by rw [hl]; decide
  have b30 : (str.toList == [97, 115]) = false := by rw [hl]; decide
  have b31 : (str.toList == [111, 102]) = false := by rw [hl]; decide
  have b32 : (str.toList == [100, 101, 102, 97, 117, 108, 116]) = false := by rw [hl]; decide
  have b33 : (str.toList == [116, 114, 117, 101]) = true := by rw [hl]; decide
  clear hl hstr
  go_enter Tryz.func96, Tryz.ntmps96
  go_wp2
  go_ret
  exact ⟨rfl, rfl⟩
theorem pword_34 (w : World) : Calls Tryz.prog 96 #[.string (strOf [102, 97, 108, 115, 101])] w fun e w' => e = .returned (.bool true) ∧ w = w' := by
  obtain ⟨str, hstr⟩ : ∃ str, str = strOf [102, 97, 108, 115, 101] := ⟨_, rfl⟩
  have hl : str.toList = [102, 97, 108, 115, 101] := by rw [hstr, str_list]
  rw [← hstr]
  have b0 : (str.toList == [101, 110, 117, 109]) = false := by rw [hl]; decide
  have b1 : (str.toList == [109, 101, 115, 115, 97, 103, 101]) = false := by rw [hl]; decide
  have b2 : (str.toList == [111, 110, 101, 111, 102]) = false := by rw [hl]; decide
  have b3 : (str.toList == [114, 101, 112, 101, 97, 116, 101, 100]) = false := by rw [hl]; decide
  have b4 : (str.toList == [114, 101, 115, 101, 114, 118, 101, 100]) = false := by rw [hl]; decide
  have b5 : (str.toList == [108, 111, 111, 115, 101]) = false := by rw [hl]; decide
  have b6 : (str.toList == [105, 110, 116, 51, 50]) = false := by rw [hl]; decide
  have b7 : (str.toList == [105, 110, 116, 54, 52]) = false := by rw [hl]; decide
  have b8 : (str.toList == [117, 105, 110, 116, 51, 50]) = false := by rw [hl]; decide
  have b9 : (str.toList == [117, 105, 110, 116, 54, 52]) = false := by rw [hl]; decide
  have b10 : (str.toList == [115, 105, 110, 116, 51, 50]) = false := by rw [hl]; decide
  have b11 : (str.toList == [115, 105, 110, 116, 54, 52]) = false := by rw [hl]; decide
  have b12 : (str.toList == [98, 111, 111, 108]) = false := by rw [hl]; decide
  have b13 : (str.toList == [102, 105, 120, 101, 100, 51, 50]) = false := by rw [hl]; decide
  have b14 : (str.toList == [102, 105, 120, 101, 100, 54, 52]) = false := by rw [hl]; decide
  have b15 : (str.toList == [115, 102, 105, 120, 101, 100, 51, 50]) = false := by rw [hl]; decide
  have b16 : (str.toList == [115, 102, 105, 120, 101, 100, 54, 52]) = false := by rw [hl]; decide
  have b17 : (str.toList == [115, 116, 114, 105, 110, 103]) = false := by rw [hl]; decide
  have b18 : (str.toList == [98, 121, 116, 101, 115]) = false := by rw [hl]; decide
  have b19 : (str.toList == [114, 101, 110, 97, 109, 101]) = false := by rw [hl]; decide
  have b20 : (str.toList == [114, 101, 110, 117, 109, 98, 101, 114]) = false := by rw [hl]; decide
  have b21 : (str.toList == [114, 101, 116, 121, 112, 101]) = false := by rw [hl]; decide
  have b22 : (str.toList == [115, 112, 108, 105, 116]) = false := by rw [hl]; decide
  have b23 : (str.toList == [106, 111, 105, 110]) = false := by rw [hl]; decide
  have b24 : (str.toList == [119, 114, 97, 112]) = false := by rw [hl]; decide
  have b25 : (str.toList == [117, 110, 119, 114, 97, 112]) = false := by rw [hl]; decide
  have b26 : (str.toList == [97, 100, 100]) = false := by rw [hl]; decide
  have b27 : (str.toList == [100, 114, 111, 112]) = false := by rw [hl]; decide
  have b28 : (str.toList == [116, 111]) = false := by rw [hl]; decide
  have b29 : (str.toList == [105, 110, 116, 111]) = false := by rw [hl]; decide
  have b30 : (str.toList == [97, 115]) = false := by rw [hl]; decide
  have b31 : (str.toList == [111, 102]) = false := by rw [hl]; decide
  have b32 : (str.toList == [100, 101, 102, 97, 117, 108, 116]) = false := by rw [hl]; decide
  have b33 : (str.toList == [116, 114, 117, 101]) = false := by rw [hl]; decide
  have b34 : (str.toList == [102, 97, 108, 115, 101]) = true := by rw [hl]; decide
  clear hl hstr
  go_enter Tryz.func96, Tryz.ntmps96
  go_wp2
  go_ret
  exact ⟨rfl, rfl⟩
set_option maxHeartbeats 4000000 in
theorem pword_none (t : List UInt8) (h : wordsL.contains t = false) (w : World) : Calls Tryz.prog 96 #[.string (strOf t)] w fun e w' => e = .returned (.bool false) ∧ w = w' := by
  have hall : ∀ x ∈ wordsL, ¬ (strOf t).toList = x := fun x hx e => by
    rw [str_list] at e
    subst e
    rw [List.contains_iff_mem.mpr hx] at h
    cases h
  obtain ⟨str, hstr⟩ : ∃ str, str = strOf t := ⟨_, rfl⟩
  rw [← hstr] at hall ⊢
  clear h hstr
  have b0 : (str.toList == [101, 110, 117, 109]) = false := beq_false_of_ne (hall _ (by decide))
  have b1 : (str.toList == [109, 101, 115, 115, 97, 103, 101]) = false := beq_false_of_ne (hall _ (by decide))
  have b2 : (str.toList == [111, 110, 101, 111, 102]) = false := beq_false_of_ne (hall _ (by decide))
  have b3 : (str.toList == [114, 101, 112, 101, 97, 116, 101, 100]) = false := beq_false_of_ne (hall _ (by decide))
  have b4 : (str.toList == [114, 101, 115, 101, 114, 118, 101, 100]) = false := beq_false_of_ne (hall _ (by decide))
  have b5 : (str.toList == [108, 111, 111, 115, 101]) = false := beq_false_of_ne (hall _ (by decide))
  have b6 : (str.toList == [105, 110, 116, 51, 50]) = false := beq_false_of_ne (hall _ (by decide))
  have b7 : (str.toList == [105, 110, 116, 54, 52]) = false := beq_false_of_ne (hall _ (by decide))
  have b8 : (str.toList == [117, 105, 110, 116, 51, 50]) = false := beq_false_of_ne (hall _ (by decide))
  have b9 : (str.toList == [117, 105, 110, 116, 54, 52]) = false := beq_false_of_ne (hall _ (by decide))
  have b10 : (str.toList == [115, 105, 110, 116, 51, 50]) = false := beq_false_of_ne (hall _ (by decide))
  have b11 : (str.toList == [115, 105, 110, 116, 54, 52]) = false := beq_false_of_ne (hall _ (by decide))
  have b12 : (str.toList == [98, 111, 111, 108]) = false := beq_false_of_ne (hall _ (by decide))
  have b13 : (str.toList == [102, 105, 120, 101, 100, 51, 50]) = false := beq_false_of_ne (hall _ (by decide))
  have b14 : (str.toList == [102, 105, 120, 101, 100, 54, 52]) = false := beq_false_of_ne (hall _ (by decide))
  have b15 : (str.toList == [115, 102, 105, 120, 101, 100, 51, 50]) = false := beq_false_of_ne (hall _ (by decide))
  have b16 : (str.toList == [115, 102, 105, 120, 101, 100, 54, 52]) = false := beq_false_of_ne (hall _ (by decide))
  have b17 : (str.toList == [115, 116, 114, 105, 110, 103]) = false := beq_false_of_ne (hall _ (by decide))
  have b18 : (str.toList == [98, 121, 116, 101, 115]) = false := beq_false_of_ne (hall _ (by decide))
  have b19 : (str.toList == [114, 101, 110, 97, 109, 101]) = false := beq_false_of_ne (hall _ (by decide))
  have b20 : (str.toList == [114, 101, 110, 117, 109, 98, 101, 114]) = false := beq_false_of_ne (hall _ (by decide))
  have b21 : (str.toList == [114, 101, 116, 121, 112, 101]) = false := beq_false_of_ne (hall _ (by decide))
  have b22 : (str.toList == [115, 112, 108, 105, 116]) = false := beq_false_of_ne (hall _ (by decide))
  have b23 : (str.toList == [106, 111, 105, 110]) = false := beq_false_of_ne (hall _ (by decide))
  have b24 : (str.toList == [119, 114, 97, 112]) = false := beq_false_of_ne (hall _ (by decide))
  have b25 : (str.toList == [117, 110, 119, 114, 97, 112]) = false := beq_false_of_ne (hall _ (by decide))
  have b26 : (str.toList == [97, 100, 100]) = false := beq_false_of_ne (hall _ (by decide))
  have b27 : (str.toList == [100, 114, 111, 112]) = false := beq_false_of_ne (hall _ (by decide))
  have b28 : (str.toList == [116, 111]) = false := beq_false_of_ne (hall _ (by decide))
  have b29 : (str.toList == [105, 110, 116, 111]) = false := beq_false_of_ne (hall _ (by decide))
  have b30 : (str.toList == [97, 115]) = false := beq_false_of_ne (hall _ (by decide))
  have b31 : (str.toList == [111, 102]) = false := beq_false_of_ne (hall _ (by decide))
  have b32 : (str.toList == [100, 101, 102, 97, 117, 108, 116]) = false := beq_false_of_ne (hall _ (by decide))
  have b33 : (str.toList == [116, 114, 117, 101]) = false := beq_false_of_ne (hall _ (by decide))
  have b34 : (str.toList == [102, 97, 108, 115, 101]) = false := beq_false_of_ne (hall _ (by decide))
  clear hall
  go_enter Tryz.func96, Tryz.ntmps96
  go_wp2
  go_ret
  exact ⟨rfl, rfl⟩
theorem pword_any (t : List UInt8) (w : World) : Calls Tryz.prog 96 #[.string (strOf t)] w fun e w' => e = .returned (.bool (wordsL.contains t)) ∧ w = w' := by
  cases h : wordsL.contains t with
  | false => exact pword_none t h w
  | true =>
    have hm := List.contains_iff_mem.mp h
    clear h
    simp only [wordsL, List.mem_cons, List.not_mem_nil, or_false] at hm
    rcases hm with rfl | rfl | rfl | rfl | rfl | rfl | rfl | rfl | rfl | rfl | rfl | rfl | rfl | rfl | rfl | rfl | rfl | rfl | rfl | rfl | rfl | rfl | rfl | rfl | rfl | rfl | rfl | rfl | rfl | rfl | rfl | rfl | rfl | rfl | rfl
    · exact pword_0 w
    · exact pword_1 w
    · exact pword_2 w
    · exact pword_3 w
    · exact pword_4 w
    · exact pword_5 w
    · exact pword_6 w
    · exact pword_7 w
    · exact pword_8 w
    · exact pword_9 w
    · exact pword_10 w
    · exact pword_11 w
    · exact pword_12 w
    · exact pword_13 w
    · exact pword_14 w
    · exact pword_15 w
    · exact pword_16 w
    · exact pword_17 w
    · exact pword_18 w
    · exact pword_19 w
    · exact pword_20 w
    · exact pword_21 w
    · exact pword_22 w
    · exact pword_23 w
    · exact pword_24 w
    · exact pword_25 w
    · exact pword_26 w
    · exact pword_27 w
    · exact pword_28 w
    · exact pword_29 w
    · exact pword_30 w
    · exact pword_31 w
    · exact pword_32 w
    · exact pword_33 w
    · exact pword_34 w
end Go.Proofs.YtpbhokmpbcmdcaaGreatDoor

/- Layer 10 in plain words (no program here): what is passed over, how long a name is, digits, quotes, numbers, texts, tokens. -/
namespace Go.Proofs.YtpbhokmpbcmdcaaGreatDoor
set_option linter.unusedVariables false

def digitB (c : UInt8) : Bool := decide (48 ≤ c.toNat) && decide (c.toNat ≤ 57)
/-- A number's digits. -/
def decOf (n : Nat) : List UInt8 := if h : n = 0 then [] else decOf (n / 10) ++ [(48 + n % 10).toUInt8]
termination_by n
decreasing_by omega
def digitsT (n : Nat) (neg : Bool) : List UInt8 := if n = 0 then [48] else if neg = true then 45 :: decOf n else decOf n
theorem drop_get {t : List UInt8} {n : Nat} {c : UInt8} (h : t[n]? = some c) : t.drop n = c :: t.drop (n + 1) := by
  obtain ⟨h1, rfl⟩ := List.getElem?_eq_some_iff.mp h
  exact List.drop_eq_getElem_cons h1
end Go.Proofs.YtpbhokmpbcmdcaaGreatDoor

/- Layer 10 in plain words (no program here): the number that a text begins with. -/
namespace Go.Proofs.YtpbhokmpbcmdcaaGreatDoor
set_option linter.unusedVariables false

def digs (t : List UInt8) : List UInt8 := t.takeWhile digitB
def valOf (acc : Nat) (l : List UInt8) : Nat := l.foldl (fun a c => 10 * a + (c.toNat - 48)) acc
theorem valOf_append (a b : List UInt8) (acc : Nat) : valOf acc (a ++ b) = valOf (valOf acc a) b := List.foldl_append ..
theorem valOf_cons (acc : Nat) (c : UInt8) (r : List UInt8) : valOf acc (c :: r) = valOf (10 * acc + (c.toNat - 48)) r := by unfold valOf; rw [List.foldl_cons]
theorem valOf_ge : ∀ (a : List UInt8) (acc : Nat), acc ≤ valOf acc a
  | [], acc => Nat.le_refl _
  | c :: a, acc => by have := valOf_ge a (10 * acc + (c.toNat - 48)); rw [valOf_cons]; omega
def numNeg (t : List UInt8) : Bool := match t with
  | [] => false
  | c :: _ => decide (c.toNat = 45)
def numFrom (t : List UInt8) : Nat := if numNeg t = true then 1 else 0
def numDs (t : List UInt8) : List UInt8 := digs (t.drop (numFrom t))
def numV (t : List UInt8) : Nat := valOf 0 (numDs t)
def numI (t : List UInt8) : Nat := numFrom t + (numDs t).length
/-- Is none there? -/
def numBad (t : List UInt8) : Bool := decide (numDs t = []) || (decide (18446744073709551616 ≤ numV t) || (decide (digitsT (numV t) (numNeg t) ≠ t.take (numI t)) || (numNeg t && decide (9223372036854775808 < numV t))))
def numT (t : List UInt8) : Nat × Bool × Nat := if numBad t = true then (0, false, 0) else (numV t, numNeg t, numI t)
theorem digs_cons_yes {c : UInt8} {r : List UInt8} (h : digitB c = true) : digs (c :: r) = c :: digs r := by unfold digs; rw [List.takeWhile_cons_of_pos h]
/-- So many digits were read. -/
structure NumAt (t pre : List UInt8) (i n : Nat) : Prop where
  ds : numDs t = pre ++ digs (t.drop i)
  i_ : i = numFrom t + pre.length
  n_ : n = valOf 0 pre
  lt : n < 18446744073709551616
  le : i ≤ t.length
section
variable {t pre : List UInt8} {i n : Nat} {c : UInt8}
theorem NumAt.over (h : NumAt t pre i n) (hc : t[i]? = some c) (hd : digitB c = true) (hn : 18446744073709551616 ≤ 10 * n + (c.toNat - 48)) : numT t = (0, false, 0) := by
  unfold numT
  rw [if_pos]
  have h1 : 18446744073709551616 ≤ numV t := by
    unfold numV
    rw [h.ds, drop_get hc, digs_cons_yes hd, valOf_append, valOf_cons, ← h.n_]
    exact Nat.le_trans hn (valOf_ge _ _)
  unfold numBad
  rw [decide_eq_true h1]
  simp
theorem NumAt.stop (h : NumAt t pre i n) (hs : digs (t.drop i) = []) : numDs t = pre ∧ numV t = n ∧ numI t = i := by
  have e : numDs t = pre := by rw [h.ds, hs, List.append_nil]
  exact ⟨e, by unfold numV; rw [e, h.n_], by unfold numI; rw [e, h.i_]⟩
theorem NumAt.first (h : NumAt t pre i n) (hs : digs (t.drop i) = []) (he : i = numFrom t) : numT t = (0, false, 0) := by
  have e := (h.stop hs).1
  have : pre = [] := List.eq_nil_of_length_eq_zero (by have := h.i_; omega)
  unfold numT
  rw [if_pos]
  unfold numBad
  rw [e, this]
  simp
end
end Go.Proofs.YtpbhokmpbcmdcaaGreatDoor

/- The document's token that a text begins with. Conditions: what number answers; those that each theorem names. -/
namespace Go.Proofs.YtpbhokmpbcmdcaaGreatDoor
open Go.RowKit
set_option linter.unusedVariables false
set_option maxRecDepth 100000

structure Tk where
  kind : Int
  s : List UInt8
  n : Nat
  neg : Bool
  pos : Nat
end Go.Proofs.YtpbhokmpbcmdcaaGreatDoor
