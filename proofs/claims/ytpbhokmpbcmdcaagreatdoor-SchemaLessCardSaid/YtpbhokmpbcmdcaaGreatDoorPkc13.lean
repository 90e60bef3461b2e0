/- Several texts in one: RiC, IwA, IwB, LexMath, LexNum, LexTxt, RiD, RiE, IdLaw, RlA, RlC, RlE, RlF, LexAll. What each proves, and its conditions, stands at its own head. -/
import Derived.Test.YtpbhokmpbcmdcaaGreatDoorPkc2
import Derived.Test.YtpbhokmpbcmdcaaGreatDoorPkc12
import Derived.Test.YtpbhokmpbcmdcaaGreatDoorPkc4
import Derived.Test.YtpbhokmpbcmdcaaGreatDoorPkc0
import Derived.IntWalk
import Derived.Test.YtpbhokmpbcmdcaaGreatDoorPkc1
import Derived.Deep.LoopGhost
/- The document's names: Letter, words, Right. Conditions: those that each theorem names. -/
namespace Go.Proofs.YtpbhokmpbcmdcaaGreatDoor
open Go.RowKit
set_option linter.unusedVariables false
set_option maxRecDepth 100000

def letterB (c : UInt8) : Bool := (decide (97 ≤ c.toNat) && decide (c.toNat ≤ 122)) || (decide (65 ≤ c.toNat) && decide (c.toNat ≤ 90))
def charB (c : UInt8) : Bool := letterB c || (decide (48 ≤ c.toNat) && decide (c.toNat ≤ 57)) || decide (c.toNat = 95)
/-- The words that are no names. -/
def wordsL : List (List UInt8) := [[101, 110, 117, 109], [109, 101, 115, 115, 97, 103, 101], [111, 110, 101, 111, 102], [114, 101, 112, 101, 97, 116, 101, 100], [114, 101, 115, 101, 114, 118, 101, 100], [108, 111, 111, 115, 101], [105, 110, 116, 51, 50], [105, 110, 116, 54, 52], [117, 105, 110, 116, 51, 50], [117, 105, 110, 116, 54, 52], [115, 105, 110, 116, 51, 50], [115, 105, 110, 116, 54, 52], [98, 111, 111, 108], [102, 105, 120, 101, 100, 51, 50], [102, 105, 120, 101, 100, 54, 52], [115, 102, 105, 120, 101, 100, 51, 50], [115, 102, 105, 120, 101, 100, 54, 52], [115, 116, 114, 105, 110, 103], [98, 121, 116, 101, 115], [114, 101, 110, 97, 109, 101], [114, 101, 110, 117, 109, 98, 101, 114], [114, 101, 116, 121, 112, 101], [115, 112, 108, 105, 116], [106, 111, 105, 110], [119, 114, 97, 112], [117, 110, 119, 114, 97, 112], [97, 100, 100], [100, 114, 111, 112], [116, 111], [105, 110, 116, 111], [97, 115], [111, 102], [100, 101, 102, 97, 117, 108, 116], [116, 114, 117, 101], [102, 97, 108, 115, 101]]
theorem words_length : wordsL.length = 35 := by decide
def nameB (t : List UInt8) : Bool := decide (1 ≤ t.length) && decide (t.length ≤ 12) && (match t with | [] => false | c :: _ => letterB c) && t.all charB && !(wordsL.contains t)

theorem rletter_any (c : UInt8) (w : World) : Calls Tryz.prog 118 #[.int .u8 (c.toNat : Int)] w fun e w' => e = .returned (.bool (letterB c)) ∧ w = w' := by
  have HL : Hid (letterB c = ((decide (97 ≤ c.toNat) && decide (c.toNat ≤ 122)) || (decide (65 ≤ c.toNat) && decide (c.toNat ≤ 90)))) := Lib.hid rfl
  obtain ⟨n, hn⟩ : ∃ n, n = c.toNat := ⟨_, rfl⟩
  rw [← hn] at HL ⊢
  clear hn
  by_cases h1 : 97 ≤ n <;> by_cases h2 : n ≤ 122 <;> by_cases h3 : 65 ≤ n <;> by_cases h4 : n ≤ 90
  all_goals first
    | omega
    | (have g1 : decide ((97 : Int) ≤ (n : Int)) = decide (97 ≤ n) := decide_eq_decide.mpr (by omega)
       have g2 : decide ((n : Int) ≤ 122) = decide (n ≤ 122) := decide_eq_decide.mpr (by omega)
       have g3 : decide ((65 : Int) ≤ (n : Int)) = decide (65 ≤ n) := decide_eq_decide.mpr (by omega)
       have g4 : decide ((n : Int) ≤ 90) = decide (n ≤ 90) := decide_eq_decide.mpr (by omega)
       simp only [h1, h2, h3, h4, decide_true, decide_false] at g1 g2 g3 g4 HL
       go_enter Tryz.func118, Tryz.ntmps118
       go_wp2
       go_ret
       exact ⟨ret_bool' HL.out.symm, rfl⟩)
theorem rwords_any (w : World) : Calls Tryz.prog 119 #[] w fun e w' => e = .returned (.slice (some ⟨w.heap.size, 0, none⟩) 35 35) ∧ w' = w.alloc (.cells (txts wordsL).toArray 9) := by
  go_enter Tryz.func119, Tryz.ntmps119
  go_wp2
  go_ret
  exact ⟨rfl, rfl⟩
end Go.Proofs.YtpbhokmpbcmdcaaGreatDoor

/- The program's layer 9: letter, digit. Conditions: those that each theorem names. -/
namespace Go.Proofs.YtpbhokmpbcmdcaaGreatDoor
open Go.RowKit
set_option linter.unusedVariables false
set_option maxRecDepth 100000

def letterN (n : Nat) : Bool := (decide (97 ≤ n) && decide (n ≤ 122)) || (decide (65 ≤ n) && decide (n ≤ 90))
def digitN (n : Nat) : Bool := decide (48 ≤ n) && decide (n ≤ 57)
theorem pletter_any (n : Nat) (hr : n ≤ 2147483647) (w : World) : Calls Tryz.prog 97 #[.int .i32 (n : Int)] w fun e w' => e = .returned (.bool (letterN n)) ∧ w = w' := by
  have HL : Hid (letterN n = ((decide (97 ≤ n) && decide (n ≤ 122)) || (decide (65 ≤ n) && decide (n ≤ 90)))) := Lib.hid rfl
  by_cases h1 : 97 ≤ n <;> by_cases h2 : n ≤ 122 <;> by_cases h3 : 65 ≤ n <;> by_cases h4 : n ≤ 90
  all_goals first
    | omega
    | (have g1 : decide ((97 : Int) ≤ (n : Int)) = decide (97 ≤ n) := decide_eq_decide.mpr (by omega)
       have g2 : decide ((n : Int) ≤ 122) = decide (n ≤ 122) := decide_eq_decide.mpr (by omega)
       have g3 : decide ((65 : Int) ≤ (n : Int)) = decide (65 ≤ n) := decide_eq_decide.mpr (by omega)
       have g4 : decide ((n : Int) ≤ 90) = decide (n ≤ 90) := decide_eq_decide.mpr (by omega)
       simp only [h1, h2, h3, h4, decide_true, decide_false] at g1 g2 g3 g4 HL
       clear hr
       go_enter Tryz.func97, Tryz.ntmps97
       go_wp2
       go_ret
       exact ⟨ret_bool' HL.out.symm, rfl⟩)
theorem pdigit_any (n : Nat) (hr : n ≤ 2147483647) (w : World) : Calls Tryz.prog 98 #[.int .i32 (n : Int)] w fun e w' => e = .returned (.bool (digitN n)) ∧ w = w' := by
  have HL : Hid (digitN n = (decide (48 ≤ n) && decide (n ≤ 57))) := Lib.hid rfl
  by_cases h1 : 48 ≤ n <;> by_cases h2 : n ≤ 57
  all_goals first
    | omega
    | (have g1 : decide ((48 : Int) ≤ (n : Int)) = decide (48 ≤ n) := decide_eq_decide.mpr (by omega)
       have g2 : decide ((n : Int) ≤ 57) = decide (n ≤ 57) := decide_eq_decide.mpr (by omega)
       simp only [h1, h2, decide_true, decide_false] at g1 g2 HL
       clear hr
       go_enter Tryz.func98, Tryz.ntmps98
       go_wp2
       go_ret
       exact ⟨ret_bool' HL.out.symm, rfl⟩)
end Go.Proofs.YtpbhokmpbcmdcaaGreatDoor

/- The program's layer 9: word. Conditions: those that each theorem names. -/
namespace Go.Proofs.YtpbhokmpbcmdcaaGreatDoor
open Go.RowKit
set_option linter.unusedVariables false
set_option maxRecDepth 100000

theorem pword_0 (w : World) : Calls Tryz.prog 96 #[.string (strOf [101, 110, 117, 109])] w fun e w' => e = .returned (.bool true) ∧ w = w' := by
  obtain ⟨str, hstr⟩ : ∃ str, str = strOf [101, 110, 117, 109] := ⟨_, rfl⟩
  have hl : str.toList = [101, 110, 117, 109] := by rw [hstr, str_list]
  rw [← hstr]
  have b0 : (str.toList == [101, 110, 117, 109]) = true := by rw [hl]; decide
  clear hl hstr
  go_enter Tryz.func96, Tryz.ntmps96
  go_wp2
  go_ret
  exact ⟨rfl, rfl⟩
theorem pword_1 (w : World) : Calls Tryz.prog 96 #[.string (strOf [109, 101, 115, 115, 97, 103, 101])] w fun e w' => e = .returned (.bool true) ∧ w = w' := by
  obtain ⟨str, hstr⟩ : ∃ str, str = strOf [109, 101, 115, 115, 97, 103, 101] := ⟨_, rfl⟩
  have hl : str.toList = [109, 101, 115, 115, 97, 103, 101] := by rw [hstr, str_list]
  rw [← hstr]
  have b0 : (str.toList == [101, 110, 117, 109]) = false := by rw [hl]; decide
  have b1 : (str.toList == [109, 101, 115, 115, 97, 103, 101]) = true := by rw [hl]; decide
  clear hl hstr
  go_enter Tryz.func96, Tryz.ntmps96
  go_wp2
  go_ret
  exact ⟨rfl, rfl⟩
theorem pword_2 (w : World) : Calls Tryz.prog 96 #[.string (strOf [111, 110, 101, 111, 102])] w fun e w' => e = .returned (.bool true) ∧ w = w' := by
  obtain ⟨str, hstr⟩ : ∃ str, str = strOf [111, 110, 101, 111, 102] := ⟨_, rfl⟩
  have hl : str.toList = [111, 110, 101, 111, 102] := by rw [hstr, str_list]
  rw [← hstr]
  have b0 : (str.toList == [101, 110, 117, 109]) = false := by rw [hl]; decide
  have b1 : (str.toList == [109, 101, 115, 115, 97, 103, 101]) = false := by rw [hl]; decide
  have b2 : (str.toList == [111, 110, 101, 111, 102]) = true := by rw [hl]; decide
  clear hl hstr
  go_enter Tryz.func96, Tryz.ntmps96
  go_wp2
  go_ret
  exact ⟨rfl, rfl⟩
theorem pword_3 (w : World) : Calls Tryz.prog 96 #[.string (strOf [114, 101, 112, 101, 97, 116, 101, 100])] w fun e w' => e = .returned (.bool true) ∧ w = w' := by
  obtain ⟨str, hstr⟩ : ∃ str, str = strOf [114, 101, 112, 101, 97, 116, 101, 100] := ⟨_, rfl⟩
  have hl : str.toList = [114, 101, 112, 101, 97, 116, 101, 100] := by rw [hstr, str_list]
  rw [← hstr]
  have b0 : (str.toList == [101, 110, 117, 109]) = false := by rw [hl]; decide
  have b1 : (str.toList == [109, 101, 115, 115, 97, 103, 101]) = false := by rw [hl]; decide
  have b2 : (str.toList == [111, 110, 101, 111, 102]) = false := by rw [hl]; decide
  have b3 : (str.toList == [114, 101, 112, 101, 97, 116, 101, 100]) = true := by rw [hl]; decide
  clear hl hstr
  go_enter Tryz.func96, Tryz.ntmps96
  go_wp2
  go_ret
  exact ⟨rfl, rfl⟩
theorem pword_4 (w : World) : Calls Tryz.prog 96 #[.string (strOf [114, 101, 115, 101, 114, 118, 101, 100])] w fun e w' => e = .returned (.bool true) ∧ w = w' := by
  obtain ⟨str, hstr⟩ : ∃ str, str = strOf [114, 101, 115, 101, 114, 118, 101, 100] := ⟨_, rfl⟩
  have hl : str.toList = [114, 101, 115, 101, 114, 118, 101, 100] := by rw [hstr, str_list]
  rw [← hstr]
  have b0 : (str.toList == [101, 110, 117, 109]) = false := by rw [hl]; decide
  have b1 : (str.toList == [109, 101, 115, 115, 97, 103, 101]) = false := by rw [hl]; decide
  have b2 : (str.toList == [111, 110, 101, 111, 102]) = false := by rw [hl]; decide
  have b3 : (str.toList == [114, 101, 112, 101, 97, 116, 101, 100]) = false := by rw [hl]; decide
  have b4 : (str.toList == [114, 101, 115, 101, 114, 118, 101, 100]) = true := by rw [hl]; decide
  clear hl hstr
  go_enter Tryz.func96, Tryz.ntmps96
  go_wp2
  go_ret
  exact ⟨rfl, rfl⟩
theorem pword_5 (w : World) : Calls Tryz.prog 96 #[.string (strOf [108, 111, 111, 115, 101])] w fun e w' => e = .returned (.bool true) ∧ w = w' := by
  obtain ⟨str, hstr⟩ : ∃ str, str = strOf [108, 111, 111, 115, 101] := ⟨_, rfl⟩
  have hl : str.toList = [108, 111, 111, 115, 101] := by rw [hstr, str_list]
  rw [← hstr]
  have b0 : (str.toList == [101, 110, 117, 109]) = false := by rw [hl]; decide
  have b1 : (str.toList == [109, 101, 115, 115, 97, 103, 101]) = false := by rw [hl]; decide
  have b2 : (str.toList == [111, 110, 101, 111, 102]) = false := by rw [hl]; decide
  have b3 : (str.toList == [114, 101, 112, 101, 97, 116, 101, 100]) = false := by rw [hl]; decide
  have b4 : (str.toList == [114, 101, 115, 101, 114, 118, 101, 100]) = false := by rw [hl]; decide
  have b5 : (str.toList == [108, 111, 111, 115, 101]) = true := by rw [hl]; decide
  clear hl hstr
  go_enter Tryz.func96, Tryz.ntmps96
  go_wp2
  go_ret
  exact ⟨rfl, rfl⟩
theorem pword_6 (w : World) : Calls Tryz.prog 96 #[.string (strOf [105, 110, 116, 51, 50])] w fun e w' => e = .returned (.bool true) ∧ w = w' := by
  obtain ⟨str, hstr⟩ : ∃ str, str = strOf [105, 110, 116, 51, 50] := ⟨_, rfl⟩
  have hl : str.toList = [105, 110, 116, 51, 50] := by rw [hstr, str_list]
  rw [← hstr]
  have b0 : (str.toList == [101, 110, 117, 109]) = false := by rw [hl]; decide
  have b1 : (str.toList == [109, 101, 115, 115, 97, 103, 101]) = false := by rw [hl]; decide
  have b2 : (str.toList == [111, 110, 101, 111, 102]) = false := by rw [hl]; decide
  have b3 : (str.toList == [114, 101, 112, 101, 97, 116, 101, 100]) = false := by rw [hl]; decide
  have b4 : (str.toList == [114, 101, 115, 101, 114, 118, 101, 100]) = false := by rw [hl]; decide
  have b5 : (str.toList == [108, 111, 111, 115, 101]) = false := by rw [hl]; decide
  have b6 : (str.toList == [105, 110, 116, 51, 50]) = true := by rw [hl]; decide
  clear hl hstr
  go_enter Tryz.func96, Tryz.ntmps96
  go_wp2
  go_ret
  exact ⟨rfl, rfl⟩
theorem pword_7 (w : World) : Calls Tryz.prog 96 #[.string (strOf [105, 110, 116, 54, 52])] w fun e w' => e = .returned (.bool true) ∧ w = w' := by
  obtain ⟨str, hstr⟩ : ∃ str, str = strOf [105, 110, 116, 54, 52] := ⟨_, rfl⟩
  have hl : str.toList = [105, 110, 116, 54, 52] := by rw [hstr, str_list]
  rw [← hstr]
  have b0 : (str.toList == [101, 110, 117, 109]) = false := by rw [hl]; decide
  have b1 : (str.toList == [109, 101, 115, 115, 97, 103, 101]) = false := by rw [hl]; decide
  have b2 : (str.toList == [111, 110, 101, 111, 102]) = false := by rw [hl]; decide
  have b3 : (str.toList == [114, 101, 112, 101, 97, 116, 101, 100]) = false := by rw [hl]; decide
  have b4 : (str.toList == [114, 101, 115, 101, 114, 118, 101, 100]) = false := by rw [hl]; decide
  have b5 : (str.toList == [108, 111, 111, 115, 101]) = false := by rw [hl]; decide
  have b6 : (str.toList == [105, 110, 116, 51, 50]) = false := by rw [hl]; decide
  have b7 : (str.toList == [105, 110, 116, 54, 52]) = true := by rw [hl]; decide
  clear hl hstr
  go_enter Tryz.func96, Tryz.ntmps96
  go_wp2
  go_ret
  exact ⟨rfl, rfl⟩
theorem pword_8 (w : World) : Calls Tryz.prog 96 #[.string (strOf [117, 105, 110, 116, 51, 50])] w fun e w' => e = .returned (.bool true) ∧ w = w' := by
  obtain ⟨str, hstr⟩ : ∃ str, str = strOf [117, 105, 110, 116, 51, 50] := ⟨_, rfl⟩
  have hl : str.toList = [117, 105, 110, 116, 51, 50] := by rw [hstr, str_list]
  rw [← hstr]
  have b0 : (str.toList == [101, 110, 117, 109]) = false := by rw [hl]; decide
  have b1 : (str.toList == [109, 101, 115, 115, 97, 103, 101]) = false := by rw [hl]; decide
  have b2 : (str.toList == [111, 110, 101, 111, 102]) = false := by rw [hl]; decide
  have b3 : (str.toList == [114, 101, 112, 101, 97, 116, 101, 100]) = false := by rw [hl]; decide
  have b4 : (str.toList == [114, 101, 115, 101, 114, 118, 101, 100]) = false := by rw [hl]; decide
  have b5 : (str.toList == [108, 111, 111, 115, 101]) = false := by rw [hl]; decide
  have b6 : (str.toList == [105, 110, 116, 51, 50]) = false := by rw [hl]; decide
  have b7 : (str.toList == [105, 110, 116, 54, 52]) = false := by rw [hl]; decide
  have b8 : (str.toList == [117, 105, 110, 116, 51, 50]) = true := by rw [hl]; decide
  clear hl hstr
  go_enter Tryz.func96, Tryz.ntmps96
  go_wp2
  go_ret
  exact ⟨rfl, rfl⟩
theorem pword_9 (w : World) : Calls Tryz.prog 96 #[.string (strOf [117, 105, 110, 116, 54, 52])] w fun e w' => e = .returned (.bool true) ∧ w = w' := by
  obtain ⟨str, hstr⟩ : ∃ str, str = strOf [117, 105, 110, 116, 54, 52] := ⟨_, rfl⟩
  have hl : str.toList = [117, 105, 110, 116, 54, 52] := by rw [hstr, str_list]
  rw [← hstr]
  have b0 : (str.toList == [101, 110, 117, 109]) = false := by rw [hl]; decide
  have b1 : (str.toList == [109, 101, 115, 115, 97, 103, 101]) = false := by rw [hl]; decide
  have b2 : (str.toList == [111, 110, 101, 111, 102]) = false := by rw [hl]; decide
  have b3 : (str.toList == [114, 101, 112, 101, 97, 116, 101, 100]) = false := by rw [hl]; decide
  have b4 : (str.toList == [114, 101, 115, 101, 114, 118, 101, 100]) = false := by rw [hl]; decide
  have b5 : (str.toList == [108, 111, 111, 115, 101]) = false := by rw [hl]; decide
  have b6 : (str.toList == [105, 110, 116, 51, 50]) = false := by rw [hl]; decide
  have b7 : (str.toList == [105, 110, 116, 54, 52]) = false := by rw [hl]; decide
  have b8 : (str.toList == [117, 105, 110, 116, 51, 50]) = false := by rw [hl]; decide
  have b9 : (str.toList == [117, 105, 110, 116, 54, 52]) = true := by rw [hl]; decide
  clear hl hstr
  go_enter Tryz.func96, Tryz.ntmps96
  go_wp2
  go_ret
  exact ⟨rfl, rfl⟩
theorem pword_10 (w : World) : Calls Tryz.prog 96 #[.string (strOf [115, 105, 110, 116, 51, 50])] w fun e w' => e = .returned (.bool true) ∧ w = w' := by
  obtain ⟨str, hstr⟩ : ∃ str, str = strOf [115, 105, 110, 116, 51, 50] := ⟨_, rfl⟩
  have hl : str.toList = [115, 105, 110, 116, 51, 50] := by rw [hstr, str_list]
  rw [← hstr]
  have b0 : (str.toList == [101, 110, 117, 109]) = false := by rw [hl]; decide
  have b1 : (str.toList == [109, 101, 115, 115, 97, 103, 101]) = false := by rw [hl]; decide
  have b2 : (str.toList == [111, 110, 101, 111, 102]) = false := by rw [hl]; decide
  have b3 : (str.toList == [114, 101, 112, 101, 97, 116, 101, 100]) = false := by rw [hl]; decide
  have b4 : (str.toList == [114, 101, 115, 101, 114, 118, 101, 100]) = false := by rw [hl]; decide
  have b5 : (str.toList == [108, 111, 111, 115, 101]) = false := by rw [hl]; decide
  have b6 : (str.toList == [105, 110, 116, 51, 50]) = false := by rw [hl]; decide
  have b7 : (str.toList == [105, 110, 116, 54, 52]) = false := by rw [hl]; decide
  have b8 : (str.toList == [117, 105, 110, 116, 51, 50]) = false := by rw [hl]; decide
  have b9 : (str.toList == [117, 105, 110, 116, 54, 52]) = false := by rw [hl]; decide
  have b10 : (str.toList == [115, 105, 110, 116, 51, 50]) = true := by rw [hl]; decide
  clear hl hstr
  go_enter Tryz.func96, Tryz.ntmps96
  go_wp2
  go_ret
  exact ⟨rfl, rfl⟩
theorem pword_11 (w : World) : Calls Tryz.prog 96 #[.string (strOf [115, 105, 110, 116, 54, 52])] w fun e w' => e = .returned (.bool true) ∧ w = w' := by
  obtain ⟨str, hstr⟩ : ∃ str, str = strOf [115, 105, 110, 116, 54, 52] := ⟨_, rfl⟩
  have hl : str.toList = [115, 105, 110, 116, 54, 52] := by rw [hstr, str_list]
  rw [← hstr]
  have b0 : (str.toList == [101, 110, 117, 109]) = false := by rw [hl]; decide
  have b1 : (str.toList == [109, 101, 115, 115, 97, 103, 101]) = false := by rw [hl]; decide
  have b2 : (str.toList == [111, 110, 101, 111, 102]) = false := by rw [hl]; decide
  have b3 : (str.toList == [114, 101, 112, 101, 97, 116, 101, 100]) = false := by rw [hl]; decide
  have b4 : (str.toList == [114, 101, 115, 101, 114, 118, 101, 100]) = false := by rw [hl]; decide
  have b5 : (str.toList == [108, 111, 111, 115, 101]) = false := by rw [hl]; decide
  have b6 : (str.toList == [105, 110, 116, 51, 50]) = false := by rw [hl]; decide
  have b7 : (str.toList == [105, 110, 116, 54, 52]) = false := by rw [hl]; decide
  have b8 : (str.toList == [117, 105, 110, 116, 51, 50]) = false := by rw [hl]; decide
  have b9 : (str.toList == [117, 105, 110, 116, 54, 52]) = false := by rw [hl]; decide
  have b10 : (str.toList == [115, 105, 110, 116, 51, 50]) = false := by rw [hl]; decide
  have b11 : (str.toList == [115, 105, 110, 116, 54, 52]) = true := by rw [hl]; decide
  clear hl hstr
  go_enter Tryz.func96, Tryz.ntmps96
  go_wp2
  go_ret
  exact ⟨rfl, rfl⟩
theorem pword_12 (w : World) : Calls Tryz.prog 96 #[.string (strOf [98, 111, 111, 108])] w fun e w' => e = .returned (.bool true) ∧ w = w' := by
  obtain ⟨str, hstr⟩ : ∃ str, str = strOf [98, 111, 111, 108] := ⟨_, rfl⟩
  have hl : str.toList = [98, 111, 111, 108] := by rw [hstr, str_list]
  rw [← hstr]
  have b0 : (str.toList == [101, 110, 117, 109]) = false := by rw [hl]; decide
  have b1 : (str.toList == [109, 101, 115, 115, 97, 103, 101]) = false := by rw [hl]; decide
  have b2 : (str.toList == [111, 110, 101, 111, 102]) = false := by rw [hl]; decide
  have b3 : (str.toList == [114, 101, 112, 101, 97, 116, 101, 100]) = false := by rw [hl]; decide
  have b4 : (str.toList == [114, 101, 115, 101, 114, 118, 101, 100]) = false := by rw [hl]; decide
  have b5 : (str.toList == [108, 111, 111, 115, 101]) = false := by rw [hl]; decide
  have b6 : (str.toList == [105, 110, 116, 51, 50]) = false := by rw [hl]; decide
  have b7 : (str.toList == [105, 110, 116, 54, 52]) = false := by rw [hl]; decide
  have b8 : (str.toList == [117, 105, 110, 116, 51, 50]) = false := by rw [hl]; decide
  have b9 : (str.toList == [117, 105, 110, 116, 54, 52]) = false := by rw [hl]; decide
  have b10 : (str.toList == [115, 105, 110, 116, 51, 50]) = false := by rw [hl]; decide
  have b11 : (str.toList == [115, 105, 110, 116, 54, 52]) = false := by rw [hl]; decide
  have b12 : (str.toList == [98, 111, 111, 108]) = true := by rw [hl]; decide
  clear hl hstr
  go_enter Tryz.func96, Tryz.ntmps96
  go_wp2
  go_ret
  exact ⟨rfl, rfl⟩
theorem pword_13 (w : World) : Calls Tryz.prog 96 #[.string (strOf [102, 105, 120, 101, 100, 51, 50])] w fun e w' => e = .returned (.bool true) ∧ w = w' := by
  obtain ⟨str, hstr⟩ : ∃ str, str = strOf [102, 105, 120, 101, 100, 51, 50] := ⟨_, rfl⟩
  have hl : str.toList = [102, 105, 120, 101, 100, 51, 50] := by rw [hstr, str_list]
  rw [← hstr]
  have b0 : (str.toList == [101, 110, 117, 109]) = false := by rw [hl]; decide
  have b1 : (str.toList == [109, 101, 115, 115, 97, 103, 101]) = false := by rw [hl]; decide
  have b2 : (str.toList == [111, 110, 101, 111, 102]) = false := by rw [hl]; decide
  have b3 : (str.toList == [114, 101, 112, 101, 97, 116, 101, 100]) = false := by rw [hl]; decide
  have b4 : (str.toList == [114, 101, 115, 101, 114, 118, 101, 100]) = false := by rw [hl]; decide
  have b5 : (str.toList == [108, 111, 111, 115, 101]) = false := by rw [hl]; decide
  have b6 : (str.toList == [105, 110, 116, 51, 50]) = false := by rw [hl]; decide
  have b7 : (str.toList == [105, 110, 116, 54, 52]) = false := by rw [hl]; decide
  have b8 : (str.toList == [117, 105, 110, 116, 51, 50]) = false := by rw [hl]; decide
  have b9 : (str.toList == [117, 105, 110, 116, 54, 52]) = false := by rw [hl]; decide
  have b10 : (str.toList == [115, 105, 110, 116, 51, 50]) = false := by rw [hl]; decide
  have b11 : (str.toList == [115, 105, 110, 116, 54, 52]) = false := by rw [hl]; decide
  have b12 : (str.toList == [98, 111, 111, 108]) = false := by rw [hl]; decide
  have b13 : (str.toList == [102, 105, 120, 101, 100, 51, 50]) = true := by rw [hl]; decide
  clear hl hstr
  go_enter Tryz.func96, Tryz.ntmps96
  go_wp2
  go_ret
  exact ⟨rfl, rfl⟩
theorem pword_14 (w : World) : Calls Tryz.prog 96 #[.string (strOf [102, 105, 120, 101, 100, 54, 52])] w fun e w' => e = .returned (.bool true) ∧ w = w' := by
  obtain ⟨str, hstr⟩ : ∃ str, str = strOf [102, 105, 120, 101, 100, 54, 52] := ⟨_, rfl⟩
  have hl : str.toList = [102, 105, 120, 101, 100, 54, 52] := by rw [hstr, str_list]
  rw [← hstr]
  have b0 : (str.toList == [101, 110, 117, 109]) = false := by rw [hl]; decide
  have b1 : (str.toList == [109, 101, 115, 115, 97, 103, 101]) = false := by rw [hl]; decide
  have b2 : (str.toList == [111, 110, 101, 111, 102]) = false := by rw [hl]; decide
  have b3 : (str.toList == [114, 101, 112, 101, 97, 116, 101, 100]) = false := by rw [hl]; decide
  have b4 : (str.toList == [114, 101, 115, 101, 114, 118, 101, 100]) = false := by rw [hl]; decide
  have b5 : (str.toList == [108, 111, 111, 115, 101]) = false := by rw [hl]; decide
  have b6 : (str.toList == [105, 110, 116, 51, 50]) = false := by rw [hl]; decide
  have b7 : (str.toList == [105, 110, 116, 54, 52]) = false := by rw [hl]; decide
  have b8 : (str.toList == [117, 105, 110, 116, 51, 50]) = false := by rw [hl]; decide
  have b9 : (str.toList == [117, 105, 110, 116, 54, 52]) = false := by rw [hl]; decide
  have b10 : (str.toList == [115, 105, 110, 116, 51, 50]) = false := by rw [hl]; decide
  have b11 : (str.toList == [115, 105, 110, 116, 54, 52]) = false := by rw [hl]; decide
  have b12 : (str.toList == [98, 111, 111, 108]) = false := by rw [hl]; decide
  have b13 : (str.toList == [102, 105, 120, 101, 100, 51, 50]) = false := by rw [hl]; decide
  have b14 : (str.toList == [102, 105, 120, 101, 100, 54, 52]) = true := by rw [hl]; decide
  clear hl hstr
  go_enter Tryz.func96, Tryz.ntmps96
  go_wp2
  go_ret
  exact ⟨rfl, rfl⟩
theorem pword_15 (w : World) : Calls Tryz.prog 96 #[.string (strOf [115, 102, 105, 120, 101, 100, 51, 50])] w fun e w' => e = .returned (.bool true) ∧ w = w' := by
  obtain ⟨str, hstr⟩ : ∃ str, str = strOf [115, 102, 105, 120, 101, 100, 51, 50] := ⟨_, rfl⟩
  have hl : str.toList = [115, 102, 105, 120, 101, 100, 51, 50] := by rw [hstr, str_list]
  rw [← hstr]
  have b0 : (str.toList == [101, 110, 117, 109]) = false := by rw [hl]; decide
  have b1 : (str.toList == [109, 101, 115, 115, 97, 103, 101]) = false := by rw [hl]; decide
  have b2 : (str.toList == [111, 110, 101, 111, 102]) = false := by rw [hl]; decide
  have b3 : (str.toList == [114, 101, 112, 101, 97, 116, 101, 100]) = false := by rw [hl]; decide
  have b4 : (str.toList == [114, 101, 115, 101, 114, 118, 101, 100]) = false := by rw [hl]; decide
  have b5 : (str.toList == [108, 111, 111, 115, 101]) = false := by rw [hl]; decide
  have b6 : (str.toList == [105, 110, 116, 51, 50]) = false := by rw [hl]; decide
  have b7 : (str.toList == [105, 110, 116, 54, 52]) = false := by rw [hl]; decide
  have b8 : (str.toList == [117, 105, 110, 116, 51, 50]) = false := by rw [hl]; decide
  have b9 : (str.toList == [117, 105, 110, 116, 54, 52]) = false := by rw [hl]; decide
  have b10 : (str.toList == [115, 105, 110, 116, 51, 50]) = false := by rw [hl]; decide
  have b11 : (str.toList == [115, 105, 110, 116, 54, 52]) = false := by rw [hl]; decide
  have b12 : (str.toList == [98, 111, 111, 108]) = false := by rw [hl]; decide
  have b13 : (str.toList == [102, 105, 120, 101, 100, 51, 50]) = false := by rw [hl]; decide
  have b14 : (str.toList == [102, 105, 120, 101, 100, 54, 52]) = false := by rw [hl]; decide
  have b15 : (str.toList == [115, 102, 105, 120, 101, 100, 51, 50]) = true := by rw [hl]; decide
  clear hl hstr
  go_enter Tryz.func96, Tryz.ntmps96
  go_wp2
  go_ret
  exact ⟨rfl, rfl⟩
theorem pword_16 (w : World) : Calls Tryz.prog 96 #[.string (strOf [115, 102, 105, 120, 101, 100, 54, 52])] w fun e w' => e = .returned (.bool true) ∧ w = w' := by
  obtain ⟨str, hstr⟩ : ∃ str, str = strOf [115, 102, 105, 120, 101, 100, 54, 52] := ⟨_, rfl⟩
  have hl : str.toList = [115, 102, 105, 120, 101, 100, 54, 52] := by rw [hstr, str_list]
  rw [← hstr]
  have b0 : (str.toList == [101, 110, 117, 109]) = false := by rw [hl]; decide
  have b1 : (str.toList == [109, 101, 115, 115, 97, 103, 101]) = false := by rw [hl]; decide
  have b2 : (str.toList == [111, 110, 101, 111, 102]) = false := by rw [hl]; decide
  have b3 : (str.toList == [114, 101, 112, 101, 97, 116, 101, 100]) = false := by rw [hl]; decide
  have b4 : (str.toList == [114, 101, 115, 101, 114, 118, 101, 100]) = false := by rw [hl]; decide
  have b5 : (str.toList == [108, 111, 111, 115, 101]) = false := by rw [hl]; decide
  have b6 : (str.toList == [105, 110, 116, 51, 50]) = false := by rw [hl]; decide
  have b7 : (str.toList == [105, 110, 116, 54, 52]) = false := by rw [hl]; decide
  have b8 : (str.toList == [117, 105, 110, 116, 51, 50]) = false := by rw [hl]; decide
  have b9 : (str.toList == [117, 105, 110, 116, 54, 52]) = false := by rw [hl]; decide
  have b10 : (str.toList == [115, 105, 110, 116, 51, 50]) = false := by rw [hl]; decide
  have b11 : (str.toList == [115, 105, 110, 116, 54, 52]) = false := by rw [hl]; decide
  have b12 : (str.toList == [98, 111, 111, 108]) = false := by rw [hl]; decide
  have b13 : (str.toList == [102, 105, 120, 101, 100, 51, 50]) = false := by rw [hl]; decide
  have b14 : (str.toList == [102, 105, 120, 101, 100, 54, 52]) = false := by rw [hl]; decide
  have b15 : (str.toList == [115, 102, 105, 120, 101, 100, 51, 50]) = false := by rw [hl]; decide
  have b16 : (str.toList == [115, 102, 105, 120, 101, 100, 54, 52]) = true := by rw [hl]; decide
  clear hl hstr
  go_enter Tryz.func96, Tryz.ntmps96
  go_wp2
  go_ret
  exact ⟨rfl, rfl⟩
theorem pword_17 (w : World) : Calls Tryz.prog 96 #[.string (strOf [115, 116, 114, 105, 110, 103])] w fun e w' => e = .returned (.bool true) ∧ w = w' := by
  obtain ⟨str, hstr⟩ : ∃ str, str = strOf [115, 116, 114, 105, 110, 103] := ⟨_, rfl⟩
  have hl : str.toList = [115, 116, 114, 105, 110, 103] := by rw [hstr, str_list]
  rw [← hstr]
  have b0 : (str.toList == [101, 110, 117, 109]) = false := by rw [hl]; decide
  have b1 : (str.toList == [109, 101, 115, 115, 97, 103, 101]) = false := by rw [hl]; decide
  have b2 : (str.toList == [111, 110, 101, 111, 102]) = false := by rw [hl]; decide
  have b3 : (str.toList == [114, 101, 112, 101, 97, 116, 101, 100]) = false := by rw [hl]; decide
  have b4 : (str.toList == [114, 101, 115, 101, 114, 118, 101, 100]) = false := by rw [hl]; decide
  have b5 : (str.toList == [108, 111, 111, 115, 101]) = false := by rw [hl]; decide
  have b6 : (str.toList == [105, 110, 116, 51, 50]) = false := by rw [hl]; decide
  have b7 : (str.toList == [105, 110, 116, 54, 52]) = false := by rw [hl]; decide
  have b8 : (str.toList == [117, 105, 110, 116, 51, 50]) = false := by rw [hl]; decide
  have b9 : (str.toList == [117, 105, 110, 116, 54, 52]) = false := by rw [hl]; decide
  have b10 : (str.toList == [115, 105, 110, 116, 51, 50]) = false := by rw [hl]; decide
  have b11 : (str.toList == [115, 105, 110, 116, 54, 52]) = false := by rw [hl]; decide
  have b12 : (str.toList == [98, 111, 111, 108]) = false := by rw [hl]; decide
  have b13 : (str.toList == [102, 105, 120, 101, 100, 51, 50]) = false := by rw [hl]; decide
  have b14 : (str.toList == [102, 105, 120, 101, 100, 54, 52]) = false := by rw [hl]; decide
  have b15 : (str.toList == [115, 102, 105, 120, 101, 100, 51, 50]) = false := by rw [hl]; decide
  have b16 : (str.toList == [115, 102, 105, 120, 101, 100, 54, 52]) = false := by rw [hl]; decide
  have b17 : (str.toList == [115, 116, 114, 105, 110, 103]) = true := by rw [hl]; decide
  clear hl hstr
  go_enter Tryz.func96, Tryz.ntmps96
  go_wp2
  go_ret
  exact ⟨rfl, rfl⟩
theorem pword_18 (w : World) : Calls Tryz.prog 96 #[.string (strOf [98, 121, 116, 101, 115])] w fun e w' => e = .returned (.bool true) ∧ w = w' := by
  obtain ⟨str, hstr⟩ : ∃ str, str = strOf [98, 121, 116, 101, 115] := ⟨_, rfl⟩
  have hl : str.toList = [98, 121, 116, 101, 115] := by rw [hstr, str_list]
  rw [← hstr]
  have b0 : (str.toList == [101, 110, 117, 109]) = false := by rw [hl]; decide
  have b1 : (str.toList == [109, 101, 115, 115, 97, 103, 101]) = false := by rw [hl]; decide
  have b2 : (str.toList == [111, 110, 101, 111, 102]) = false := by rw [hl]; decide
  have b3 : (str.toList == [114, 101, 112, 101, 97, 116, 101, 100]) = false := by rw [hl]; decide
  have b4 : (str.toList == [114, 101, 115, 101, 114, 118, 101, 100]) = false := by rw [hl]; decide
  have b5 : (str.toList == [108, 111, 111, 115, 101]) = false := by rw [hl]; decide
  have b6 : (str.toList == [105, 110, 116, 51, 50]) = false := by rw [hl]; decide
  have b7 : (str.toList == [105, 110, 116, 54, 52]) = false := by rw [hl]; decide
  have b8 : (str.toList == [117, 105, 110, 116, 51, 50]) = false := by rw [hl]; decide
  have b9 : (str.toList == [117, 105, 110, 116, 54, 52]) = false := by rw [hl]; decide
  have b10 : (str.toList == [115, 105, 110, 116, 51, 50]) = false := by rw [hl]; decide
  have b11 : (str.toList == [115, 105, 110, 116, 54, 52]) = false := by rw [hl]; decide
  have b12 : (str.toList == [98, 111, 111, 108]) = false := by rw [hl]; decide
  have b13 : (str.toList == [102, 105, 120, 101, 100, 51, 50]) = false := by rw [hl]; decide
  have b14 : (str.toList == [102, 105, 120, 101, 100, 54, 52]) = false := by rw [hl]; decide
  have b15 : (str.toList == [115, 102, 105, 120, 101, 100, 51, 50]) = false := by rw [hl]; decide
  have b16 : (str.toList == [115, 102, 105, 120, 101, 100, 54, 52]) = false := by rw [hl]; decide
  have b17 : (str.toList == [115, 116, 114, 105, 110, 103]) = false := by rw [hl]; decide
  have b18 : (str.toList == [98, 121, 116, 101, 115]) = true := by rw [hl]; decide
  clear hl hstr
  go_enter Tryz.func96, Tryz.ntmps96
  go_wp2
  go_ret
  exact ⟨rfl, rfl⟩
theorem pword_19 (w : World) : Calls Tryz.prog 96 #[.string (strOf [114, 101, 110, 97, 109, 101])] w fun e w' => e = .returned (.bool true) ∧ w = w' := by
  obtain ⟨str, hstr⟩ : ∃ str, str = strOf [114, 101, 110, 97, 109, 101] := ⟨_, rfl⟩
  have hl : str.toList = [114, 101, 110, 97, 109, 101] := by rw [hstr, str_list]
  rw [← hstr]
  have b0 : (str.toList == [101, 110, 117, 109]) = false := by rw [hl]; decide
  have b1 : (str.toList == [109, 101, 115, 115, 97, 103, 101]) = false := by rw [hl]; decide
  have b2 : (str.toList == [111, 110, 101, 111, 102]) = false := by rw [hl]; decide
  have b3 : (str.toList == [114, 101, 112, 101, 97, 116, 101, 100]) = false := by rw [hl]; decide
  have b4 : (str.toList == [114, 101, 115, 101, 114, 118, 101, 100]) = false := by rw [hl]; decide
  have b5 : (str.toList == [108, 111, 111, 115, 101]) = false := by rw [hl]; decide
  have b6 : (str.toList == [105, 110, 116, 51, 50]) = false := by rw [hl]; decide
  have b7 : (str.toList == [105, 110, 116, 54, 52]) = false := by rw [hl]; decide
  have b8 : (str.toList == [117, 105, 110, 116, 51, 50]) = false := by rw [hl]; decide
  have b9 : (str.toList == [117, 105, 110, 116, 54, 52]) = false := by rw [hl]; decide
  have b10 : (str.toList == [115, 105, 110, 116, 51, 50]) = false := by rw [hl]; decide
  have b11 : (str.toList == [115, 105, 110, 116, 54, 52]) = false := by rw [hl]; decide
  have b12 : (str.toList == [98, 111, 111, 108]) = false := by rw [hl]; decide
  have b13 : (str.toList == [102, 105, 120, 101, 100, 51, 50]) = false := by rw [hl]; decide
  have b14 : (str.toList == [102, 105, 120, 101, 100, 54, 52]) = false := by rw [hl]; decide
  have b15 : (str.toList == [115, 102, 105, 120, 101, 100, 51, 50]) = false := by rw [hl]; decide
  have b16 : (str.toList == [115, 102, 105, 120, 101, 100, 54, 52]) = false := by rw [hl]; decide
  have b17 : (str.toList == [115, 116, 114, 105, 110, 103]) = false := by rw [hl]; decide
  have b18 : (str.toList == [98, 121, 116, 101, 115]) = false := by rw [hl]; decide
  have b19 : (str.toList == [114, 101, 110, 97, 109, 101]) = true := by rw [hl]; decide
  clear hl hstr
  go_enter Tryz.func96, Tryz.ntmps96
  go_wp2
  go_ret
  exact ⟨rfl, rfl⟩
theorem pword_20 (w : World) : Calls Tryz.prog 96 #[.string (strOf [114, 101, 110, 117, 109, 98, 101, 114])] w fun e w' => e = .returned (.bool true) ∧ w = w' := by
  obtain ⟨str, hstr⟩ : ∃ str, str = strOf [114, 101, 110, 117, 109, 98, 101, 114] := ⟨_, rfl⟩
  have hl : str.toList = [114, 101, 110, 117, 109, 98, 101, 114] := by rw [hstr, str_list]
  rw [← hstr]
  have b0 : (str.toList == [101, 110, 117, 109]) = false := by rw [hl]; decide
  have b1 : (str.toList == [109, 101, 115, 115, 97, 103, 101]) = false := by rw [hl]; decide
  have b2 : (str.toList == [111, 110, 101, 111, 102]) = false := by rw [hl]; decide
  have b3 : (str.toList == [114, 101, 112, 101, 97, 116, 101, 100]) = false := by rw [hl]; decide
  have b4 : (str.toList == [114, 101, 115, 101, 114, 118, 101, 100]) = false := by rw [hl]; decide
  have b5 : (str.toList == [108, 111, 111, 115, 101]) = false := by rw [hl]; decide
  have b6 : (str.toList == [105, 110, 116, 51, 50]) = false := by rw [hl]; decide
  have b7 : (str.toList == [105, 110, 116, 54, 52]) = false := by rw [hl]; decide
  have b8 : (str.toList == [117, 105, 110, 116, 51, 50]) = false := by rw [hl]; decide
  have b9 : (str.toList == [117, 105, 110, 116, 54, 52]) = false := by rw [hl]; decide
  have b10 : (str.toList == [115, 105, 110, 116, 51, 50]) = false := by rw [hl]; decide
  have b11 : (str.toList == [115, 105, 110, 116, 54, 52]) = false := by rw [hl]; decide
  have b12 : (str.toList == [98, 111, 111, 108]) = false := by rw [hl]; decide
  have b13 : (str.toList == [102, 105, 120, 101, 100, 51, 50]) = false := by rw [hl]; decide
  have b14 : (str.toList == [102, 105, 120, 101, 100, 54, 52]) = false := by rw [hl]; decide
  have b15 : (str.toList == [115, 102, 105, 120, 101, 100, 51, 50]) = false := by rw [hl]; decide
  have b16 : (str.toList == [115, 102, 105, 120, 101, 100, 54, 52]) = false := by rw [hl]; decide
  have b17 : (str.toList == [115, 116, 114, 105, 110, 103]) = false := by rw [hl]; decide
  have b18 : (str.toList == [98, 121, 116, 101, 115]) = false := by rw [hl]; decide
  have b19 : (str.toList == [114, 101, 110, 97, 109, 101]) = false := by rw [hl]; decide
  have b20 : (str.toList == [114, 101, 110, 117, 109, 98, 101, 114]) = true := by rw [hl]; decide
  clear hl hstr
  go_enter Tryz.func96, Tryz.ntmps96
  go_wp2
  go_ret
  exact ⟨rfl, rfl⟩
theorem pword_21 (w : World) : Calls Tryz.prog 96 #[.string (strOf [114, 101, 116, 121, 112, 101])] w fun e w' => e = .returned (.bool true) ∧ w = w' := by
  obtain ⟨str, hstr⟩ : ∃ str, str = strOf [114, 101, 116, 121, 112, 101] := ⟨_, rfl⟩
  have hl : str.toList = [114, 101, 116, 121, 112, 101] := by rw [hstr, str_list]
  rw [← hstr]
  have b0 : (str.toList == [101, 110, 117, 109]) = false := by rw [hl]; decide
  have b1 : (str.toList == [109, 101, 115, 115, 97, 103, 101]) = false := by rw [hl]; decide
  have b2 : (str.toList == [111, 110, 101, 111, 102]) = false := by rw [hl]; decide
  have b3 : (str.toList == [114, 101, 112, 101, 97, 116, 101, 100]) = false := by rw [hl]; decide
  have b4 : (str.toList == [114, 101, 115, 101, 114, 118, 101, 100]) = false := by rw [hl]; decide
  have b5 : (str.toList == [108, 111, 111, 115, 101]) = false := by rw [hl]; decide
  have b6 : (str.toList == [105, 110, 116, 51, 50]) = false := by rw [hl]; decide
  have b7 : (str.toList == [105, 110, 116, 54, 52]) = false := by rw [hl]; decide
  have b8 : (str.toList == [117, 105, 110, 116, 51, 50]) = false := by rw [hl]; decide
  have b9 : (str.toList == [117, 105, 110, 116, 54, 52]) = false := by rw [hl]; decide
  have b10 : (str.toList == [115, 105, 110, 116, 51, 50]) = false := by rw [hl]; decide
  have b11 : (str.toList == [115, 105, 110, 116, 54, 52]) = false := by rw [hl]; decide
  have b12 : (str.toList == [98, 111, 111, 108]) = false := by rw [hl]; decide
  have b13 : (str.toList == [102, 105, 120, 101, 100, 51, 50]) = false := by rw [hl]; decide
  have b14 : (str.toList == [102, 105, 120, 101, 100, 54, 52]) = false := by rw [hl]; decide
  have b15 : (str.toList == [115, 102, 105, 120, 101, 100, 51, 50]) = false := by rw [hl]; decide
  have b16 : (str.toList == [115, 102, 105, 120, 101, 100, 54, 52]) = false := by rw [hl]; decide
  have b17 : (str.toList == [115, 116, 114, 105, 110, 103]) = false := by rw [hl]; decide
  have b18 : (str.toList == [98, 121, 116, 101, 115]) = false := by rw [hl]; decide
  have b19 : (str.toList == [114, 101, 110, 97, 109, 101]) = false := by rw [hl]; decide
  have b20 : (str.toList == [114, 101, 110, 117, 109, 98, 101, 114]) = false := by rw [hl]; decide
  have b21 : (str.toList == [114, 101, 116, 121, 112, 101]) = true := by rw [hl]; decide
  clear hl hstr
  go_enter Tryz.func96, Tryz.ntmps96
  go_wp2
  go_ret
  exact ⟨rfl, rfl⟩
theorem pword_22 (w : World) : Calls Tryz.prog 96 #[.string (strOf [115, 112, 108, 105, 116])] w fun e w' => e = .returned (.bool true) ∧ w = w' := by
  obtain ⟨str, hstr⟩ : ∃ str, str = strOf [115, 112, 108, 105, 116] := ⟨_, rfl⟩
  have hl : str.toList = [115, 112, 108, 105, 116] := by rw [hstr, str_list]
  rw [← hstr]
  have b0 : (str.toList == [101, 110, 117, 109]) = false := by rw [hl]; decide
  have b1 : (str.toList == [109, 101, 115, 115, 97, 103, 101]) = false := by rw [hl]; decide
  have b2 : (str.toList == [111, 110, 101, 111, 102]) = false := by rw [hl]; decide
  have b3 : (str.toList == [114, 101, 112, 101, 97, 116, 101, 100]) = false := by rw [hl]; decide
  have b4 : (str.toList == [114, 101, 115, 101, 114, 118, 101, 100]) = false := by rw [hl]; decide
  have b5 : (str.toList == [108, 111, 111, 115, 101]) = false := by rw [hl]; decide
  have b6 : (str.toList == [105, 110, 116, 51, 50]) = false := by rw [hl]; decide
  have b7 : (str.toList == [105, 110, 116, 54, 52]) = false := by rw [hl]; decide
  have b8 : (str.toList == [117, 105, 110, 116, 51, 50]) = false := by rw [hl]; decide
  have b9 : (str.toList == [117, 105, 110, 116, 54, 52]) = false := by rw [hl]; decide
  have b10 : (str.toList == [115, 105, 110, 116, 51, 50]) = false := by rw [hl]; decide
  have b11 : (str.toList == [115, 105, 110, 116, 54, 52]) = false := by rw [hl]; decide
  have b12 : (str.toList == [98, 111, 111, 108]) = false := by rw [hl]; decide
  have b13 : (str.toList == [102, 105, 120, 101, 100, 51, 50]) = false := by rw [hl]; decide
  have b14 : (str.toList == [102, 105, 120, 101, 100, 54, 52]) = false := by rw [hl]; decide
  have b15 : (str.toList == [115, 102, 105, 120, 101, 100, 51, 50]) = false := by rw [hl]; decide
  have b16 : (str.toList == [115, 102, 105, 120, 101, 100, 54, 52]) = false := by rw [hl]; decide
  have b17 : (str.toList == [115, 116, 114, 105, 110, 103]) = false := by rw [hl]; decide
  have b18 : (str.toList == [98, 121, 116, 101, 115]) = false := by rw [hl]; decide
  have b19 : (str.toList == [114, 101, 110, 97, 109, 101]) = false := by rw [hl]; decide
  have b20 : (str.toList == [114, 101, 110, 117, 109, 98, 101, 114]) = false := by rw [hl]; decide
  have b21 : (str.toList == [114, 101, 116, 121, 112, 101]) = false := by rw [hl]; decide
  have b22 : (str.toList == [115, 112, 108, 105, 116]) = true := by rw [hl]; decide
  clear hl hstr
  go_enter Tryz.func96, Tryz.ntmps96
  go_wp2
  go_ret
  exact ⟨rfl, rfl⟩
theorem pword_23 (w : World) : Calls Tryz.prog 96 #[.string (strOf [106, 111, 105, 110])] w fun e w' => e = .returned (.bool true) ∧ w = w' := by
  obtain ⟨str, hstr⟩ : ∃ str, str = strOf [106, 111, 105, 110] := ⟨_, rfl⟩
  have hl : str.toList = [106, 111, 105, 110] := by rw [hstr, str_list]
  rw [← hstr]
  have b0 : (str.toList == [101, 110, 117, 109]) = false := by rw [hl]; decide
  have b1 : (str.toList == [109, 101, 115, 115, 97, 103, 101]) = false := by rw [hl]; decide
  have b2 : (str.toList == [111, 110, 101, 111, 102]) = false := by rw [hl]; decide
  have b3 : (str.toList == [114, 101, 112, 101, 97, 116, 101, 100]) = false := by rw [hl]; decide
  have b4 : (str.toList == [114, 101, 115, 101, 114, 118, 101, 100]) = false := by rw [hl]; decide
  have b5 : (str.toList == [108, 111, 111, 115, 101]) = false := by rw [hl]; decide
  have b6 : (str.toList == [105, 110, 116, 51, 50]) = false := by rw [hl]; decide
  have b7 : (str.toList == [105, 110, 116, 54, 52]) = false := by rw [hl]; decide
  have b8 : (str.toList == [117, 105, 110, 116, 51, 50]) = false := by rw [hl]; decide
  have b9 : (str.toList == [117, 105, 110, 116, 54, 52]) = false := by rw [hl]; decide
  have b10 : (str.toList == [115, 105, 110, 116, 51, 50]) = false := by rw [hl]; decide
  have b11 : (str.toList == [115, 105, 110, 116, 54, 52]) = false := by rw [hl]; decide
  have b12 : (str.toList == [98, 111, 111, 108]) = false := by rw [hl]; decide
  have b13 : (str.toList == [102, 105, 120, 101, 100, 51, 50]) = false := by rw [hl]; decide
  have b14 : (str.toList == [102, 105, 120, 101, 100, 54, 52]) = false := by rw [hl]; decide
  have b15 : (str.toList == [115, 102, 105, 120, 101, 100, 51, 50]) = false := by rw [hl]; decide
  have b16 : (str.toList == [115, 102, 105, 120, 101, 100, 54, 52]) = false := by rw [hl]; decide
  have b17 : (str.toList == [115, 116, 114, 105, 110, 103]) = false := by rw [hl]; decide
  have b18 : (str.toList == [98, 121, 116, 101, 115]) = false := by rw [hl]; decide
  have b19 : (str.toList == [114, 101, 110, 97, 109, 101]) = false := by rw [hl]; decide
  have b20 : (str.toList == [114, 101, 110, 117, 109, 98, 101, 114]) = false := by rw [hl]; decide
  have b21 : (str.toList == [114, 101, 116, 121, 112, 101]) = false := by rw [hl]; decide
  have b22 : (str.toList == [115, 112, 108, 105, 116]) = false := by rw [hl]; decide
  have b23 : (str.toList == [106, 111, 105, 110]) = true := by rw [hl]; decide
  clear hl hstr
  go_enter Tryz.func96, Tryz.ntmps96
  go_wp2
  go_ret
  exact ⟨rfl, rfl⟩
theorem pword_24 (w : World) : Calls Tryz.prog 96 #[.string (strOf [119, 114, 97, 112])] w fun e w' => e = .returned (.bool true) ∧ w = w' := by
  obtain ⟨str, hstr⟩ : ∃ str, str = strOf [119, 114, 97, 112] := ⟨_, rfl⟩
  have hl : str.toList = [119, 114, 97, 112] := by rw [hstr, str_list]
  rw [← hstr]
  have b0 : (str.toList == [101, 110, 117, 109]) = false := by rw [hl]; decide
  have b1 : (str.toList == [109, 101, 115, 115, 97, 103, 101]) = false := by rw [hl]; decide
  have b2 : (str.toList == [111, 110, 101, 111, 102]) = false := by rw [hl]; decide
  have b3 : (str.toList == [114, 101, 112, 101, 97, 116, 101, 100]) = false := by rw [hl]; decide
  have b4 : (str.toList == [114, 101, 115, 101, 114, 118, 101, 100]) = false := by rw [hl]; decide
  have b5 : (str.toList == [108, 111, 111, 115, 101]) = false := by rw [hl]; decide
  have b6 : (str.toList == [105, 110, 116, 51, 50]) = false := by rw [hl]; decide
  have b7 : (str.toList == [105, 110, 116, 54, 52]) = false := by rw [hl]; decide
  have b8 : (str.toList == [117, 105, 110, 116, 51, 50]) = false := by rw [hl]; decide
  have b9 : (str.toList == [117, 105, 110, 116, 54, 52]) = false := by rw [hl]; decide
  have b10 : (str.toList == [115, 105, 110, 116, 51, 50]) = false := by rw [hl]; decide
  have b11 : (str.toList == [115, 105, 110, 116, 54, 52]) = false := by rw [hl]; decide
  have b12 : (str.toList == [98, 111, 111, 108]) = false := by rw [hl]; decide
  have b13 : (str.toList == [102, 105, 120, 101, 100, 51, 50]) = false := by rw [hl]; decide
  have b14 : (str.toList == [102, 105, 120, 101, 100, 54, 52]) = false := by rw [hl]; decide
  have b15 : (str.toList == [115, 102, 105, 120, 101, 100, 51, 50]) = false := by rw [hl]; decide
  have b16 : (str.toList == [115, 102, 105, 120, 101, 100, 54, 52]) = false := by rw [hl]; decide
  have b17 : (str.toList == [115, 116, 114, 105, 110, 103]) = false := by rw [hl]; decide
  have b18 : (str.toList == [98, 121, 116, 101, 115]) = false := by rw [hl]; decide
  have b19 : (str.toList == [114, 101, 110, 97, 109, 101]) = false := by rw [hl]; decide
  have b20 : (str.toList == [114, 101, 110, 117, 109, 98, 101, 114]) = false := by rw [hl]; decide
  have b21 : (str.toList == [114, 101, 116, 121, 112, 101]) = false := by rw [hl]; decide
  have b22 : (str.toList == [115, 112, 108, 105, 116]) = false := by rw [hl]; decide
  have b23 : (str.toList == [106, 111, 105, 110]) = false := by rw [hl]; decide
  have b24 : (str.toList == [119, 114, 97, 112]) = true := by rw [hl]; decide
  clear hl hstr
  go_enter Tryz.func96, Tryz.ntmps96
  go_wp2
  go_ret
  exact ⟨rfl, rfl⟩
theorem pword_25 (w : World) : Calls Tryz.prog 96 #[.string (strOf [117, 110, 119, 114, 97, 112])] w fun e w' => e = .returned (.bool true) ∧ w = w' := by
  obtain ⟨str, hstr⟩ : ∃ str, str = strOf [117, 110, 119, 114, 97, 112] := ⟨_, rfl⟩
  have hl : str.toList = [117, 110, 119, 114, 97, 112] := by rw [hstr, str_list]
  rw [← hstr]
  have b0 : (str.toList == [101, 110, 117, 109]) = false := by rw [hl]; decide
  have b1 : (str.toList == [109, 101, 115, 115, 97, 103, 101]) = false := by rw [hl]; decide
  have b2 : (str.toList == [111, 110, 101, 111, 102]) = false := by rw [hl]; decide
  have b3 : (str.toList == [114, 101, 112, 101, 97, 116, 101, 100]) = false := by rw [hl]; decide
  have b4 : (str.toList == [114, 101, 115, 101, 114, 118, 101, 100]) = false := by rw [hl]; decide
  have b5 : (str.toList == [108, 111, 111, 115, 101]) = false := by rw [hl]; decide
  have b6 : (str.toList == [105, 110, 116, 51, 50]) = false := by rw [hl]; decide
  have b7 : (str.toList == [105, 110, 116, 54, 52]) = false := by rw [hl]; decide
  have b8 : (str.toList == [117, 105, 110, 116, 51, 50]) = false := by rw [hl]; decide
  have b9 : (str.toList == [117, 105, 110, 116, 54, 52]) = false := by rw [hl]; decide
  have b10 : (str.toList == [115, 105, 110, 116, 51, 50]) = false := by rw [hl]; decide
  have b11 : (str.toList == [115, 105, 110, 116, 54, 52]) = false := by rw [hl]; decide
  have b12 : (str.toList == [98, 111, 111, 108]) = false := by rw [hl]; decide
  have b13 : (str.toList == [102, 105, 120, 101, 100, 51, 50]) = false := by rw [hl]; decide
  have b14 : (str.toList == [102, 105, 120, 101, 100, 54, 52]) = false := by rw [hl]; decide
  have b15 : (str.toList == [115, 102, 105, 120, 101, 100, 51, 50]) = false := by rw [hl]; decide
  have b16 : (str.toList == [115, 102, 105, 120, 101, 100, 54, 52]) = false := by rw [hl]; decide
  have b17 : (str.toList == [115, 116, 114, 105, 110, 103]) = false := by rw [hl]; decide
  have b18 : (str.toList == [98, 121, 116, 101, 115]) = false := by rw [hl]; decide
  have b19 : (str.toList == [114, 101, 110, 97, 109, 101]) = false := by rw [hl]; decide
  have b20 : (str.toList == [114, 101, 110, 117, 109, 98, 101, 114]) = false := by rw [hl]; decide
  have b21 : (str.toList == [114, 101, 116, 121, 112, 101]) = false := by rw [hl]; decide
  have b22 : (str.toList == [115, 112, 108, 105, 116]) = false := by rw [hl]; decide
  have b23 : (str.toList == [106, 111, 105, 110]) = false := by rw [hl]; decide
  have b24 : (str.toList == [119, 114, 97, 112]) = false := by rw [hl]; decide
  have b25 : (str.toList == [117, 110, 119, 114, 97, 112]) = true := by rw [hl]; decide
  clear hl hstr
  go_enter Tryz.func96, Tryz.ntmps96
  go_wp2
  go_ret
  exact ⟨rfl, rfl⟩
theorem pword_26 (w : World) : Calls Tryz.prog 96 #[.string (strOf [97, 100, 100])] w fun e w' => e = .returned (.bool true) ∧ w = w' := by
  obtain ⟨str, hstr⟩ : ∃ str, str = strOf [97, 100, 100] := ⟨_, rfl⟩
  have hl : str.toList = [97, 100, 100] := by rw [hstr, str_list]
  rw [← hstr]
  have b0 : (str.toList == [101, 110, 117, 109]) = false := by rw [hl]; decide
  have b1 : (str.toList == [109, 101, 115, 115, 97, 103, 101]) = false := by rw [hl]; decide
  have b2 : (str.toList == [111, 110, 101, 111, 102]) = false := by rw [hl]; decide
  have b3 : (str.toList == [114, 101, 112, 101, 97, 116, 101, 100]) = false := by rw [hl]; decide
  have b4 : (str.toList == [114, 101, 115, 101, 114, 118, 101, 100]) = false := by rw [hl]; decide
  have b5 : (str.toList == [108, 111, 111, 115, 101]) = false := by rw [hl]; decide
  have b6 : (str.toList == [105, 110, 116, 51, 50]) = false := by rw [hl]; decide
  have b7 : (str.toList == [105, 110, 116, 54, 52]) = false := by rw [hl]; decide
  have b8 : (str.toList == [117, 105, 110, 116, 51, 50]) = false := by rw [hl]; decide
  have b9 : (str.toList == [117, 105, 110, 116, 54, 52]) = false := by rw [hl]; decide
  have b10 : (str.toList == [115, 105, 110, 116, 51, 50]) = false := by rw [hl]; decide
  have b11 : (str.toList == [115, 105, 110, 116, 54, 52]) = false := by rw [hl]; decide
  have b12 : (str.toList == [98, 111, 111, 108]) = false := by rw [hl]; decide
  have b13 : (str.toList == [102, 105, 120, 101, 100, 51, 50]) = false := by rw [hl]; decide
  have b14 : (str.toList == [102, 105, 120, 101, 100, 54, 52]) = false := by rw [hl]; decide
  have b15 : (str.toList == [115, 102, 105, 120, 101, 100, 51, 50]) = false := by rw [hl]; decide
  have b16 : (str.toList == [115, 102, 105, 120, 101, 100, 54, 52]) = false := by rw [hl]; decide
  have b17 : (str.toList == [115, 116, 114, 105, 110, 103]) = false := by rw [hl]; decide
  have b18 : (str.toList == [98, 121, 116, 101, 115]) = false := by rw [hl]; decide
  have b19 : (str.toList == [114, 101, 110, 97, 109, 101]) = false := by rw [hl]; decide
  have b20 : (str.toList == [114, 101, 110, 117, 109, 98, 101, 114]) = false := by rw [hl]; decide
  have b21 : (str.toList == [114, 101, 116, 121, 112, 101]) = false := by rw [hl]; decide
  have b22 : (str.toList == [115, 112, 108, 105, 116]) = false := by rw [hl]; decide
  have b23 : (str.toList == [106, 111, 105, 110]) = false := by rw [hl]; decide
  have b24 : (str.toList == [119, 114, 97, 112]) = false := by rw [hl]; decide
  have b25 : (str.toList == [117, 110, 119, 114, 97, 112]) = false := by rw [hl]; decide
  have b26 : (str.toList == [97, 100, 100]) = true := by rw [hl]; decide
  clear hl hstr
  go_enter Tryz.func96, Tryz.ntmps96
  go_wp2
  go_ret
  exact ⟨rfl, rfl⟩
theorem pword_27 (w : World) : Calls Tryz.prog 96 #[.string (strOf [100, 114, 111, 112])] w fun e w' => e = .returned (.bool true) ∧ w = w' := by
  obtain ⟨str, hstr⟩ : ∃ str, str = strOf [100, 114, 111, 112] := ⟨_, rfl⟩
  have hl : str.toList = [100, 114, 111, 112] := by rw [hstr, str_list]
  rw [← hstr]
  have b0 : (str.toList == [101, 110, 117, 109]) = false := by rw [hl]; decide
  have b1 : (str.toList == [109, 101, 115, 115, 97, 103, 101]) = false := by rw [hl]; decide
  have b2 : (str.toList == [111, 110, 101, 111, 102]) = false := by rw [hl]; decide
  have b3 : (str.toList == [114, 101, 112, 101, 97, 116, 101, 100]) = false := by rw [hl]; decide
  have b4 : (str.toList == [114, 101, 115, 101, 114, 118, 101, 100]) = false := by rw [hl]; decide
  have b5 : (str.toList == [108, 111, 111, 115, 101]) = false := by rw [hl]; decide
  have b6 : (str.toList == [105, 110, 116, 51, 50]) = false := by rw [hl]; decide
  have b7 : (str.toList == [105, 110, 116, 54, 52]) = false := by rw [hl]; decide
  have b8 : (str.toList == [117, 105, 110, 116, 51, 50]) = false := by rw [hl]; decide
  have b9 : (str.toList == [117, 105, 110, 116, 54, 52]) = false := by rw [hl]; decide
  have b10 : (str.toList == [115, 105, 110, 116, 51, 50]) = false := by rw [hl]; decide
  have b11 : (str.toList == [115, 105, 110, 116, 54, 52]) = false := by rw [hl]; decide
  have b12 : (str.toList == [98, 111, 111, 108]) = false := by rw [hl]; decide
  have b13 : (str.toList == [102, 105, 120, 101, 100, 51, 50]) = false := by rw [hl]; decide
  have b14 : (str.toList == [102, 105, 120, 101, 100, 54, 52]) = false := by rw [hl]; decide
  have b15 : (str.toList == [115, 102, 105, 120, 101, 100, 51, 50]) = false := by rw [hl]; decide
  have b16 : (str.toList == [115, 102, 105, 120, 101, 100, 54, 52]) = false := by rw [hl]; decide
  have b17 : (str.toList == [115, 116, 114, 105, 110, 103]) = false := by rw [hl]; decide
  have b18 : (str.toList == [98, 121, 116, 101, 115]) = false := by rw [hl]; decide
  have b19 : (str.toList == [114, 101, 110, 97, 109, 101]) = false := by rw [hl]; decide
  have b20 : (str.toList == [114, 101, 110, 117, 109, 98, 101, 114]) = false := by rw [hl]; decide
  have b21 : (str.toList == [114, 101, 116, 121, 112, 101]) = false := by rw [hl]; decide
  have b22 : (str.toList == [115, 112, 108, 105, 116]) = false := by rw [hl]; decide
  have b23 : (str.toList == [106, 111, 105, 110]) = false := by rw [hl]; decide
  have b24 : (str.toList == [119, 114, 97, 112]) = false := by rw [hl]; decide
  have b25 : (str.toList == [117, 110, 119, 114, 97, 112]) = false := by rw [hl]; decide
  have b26 : (str.toList == [97, 100, 100]) = false := by rw [hl]; decide
  have b27 : (str.toList == [100, 114, 111, 112]) = true := by rw [hl]; decide
  clear hl hstr
  go_enter Tryz.func96, Tryz.ntmps96
  go_wp2
  go_ret
  exact ⟨rfl, rfl⟩
theorem pword_28 (w : World) : Calls Tryz.prog 96 #[.string (strOf [116, 111])] w fun e w' => e = .returned (.bool true) ∧ w = w' := by
  obtain ⟨str, hstr⟩ : ∃ str, str = strOf [116, 111] := ⟨_, rfl⟩
  have hl : str.toList = [116, 111] := by rw [hstr, str_list]
  rw [← hstr]
  have b0 : (str.toList == [101, 110, 117, 109]) = false := by rw [hl]; decide
  have b1 : (str.toList == [109, 101, 115, 115, 97, 103, 101]) = false := by rw [hl]; decide
  have b2 : (str.toList == [111, 110, 101, 111, 102]) = false := by rw [hl]; decide
  have b3 : (str.toList == [114, 101, 112, 101, 97, 116, 101, 100]) = false := by rw [hl]; decide
  have b4 : (str.toList == [114, 101, 115, 101, 114, 118, 101, 100]) = false := by rw [hl]; decide
  have b5 : (str.toList == [108, 111, 111, 115, 101]) = false := by rw [hl]; decide
  have b6 : (str.toList == [105, 110, 116, 51, 50]) = false := by rw [hl]; decide
  have b7 : (str.toList == [105, 110, 116, 54, 52]) = false := by rw [hl]; decide
  have b8 : (str.toList == [117, 105, 110, 116, 51, 50]) = false := by rw [hl]; decide
  have b9 : (str.toList == [117, 105, 110, 116, 54, 52]) = false := by rw [hl]; decide
  have b10 : (str.toList == [115, 105, 110, 116, 51, 50]) = false := by rw [hl]; decide
  have b11 : (str.toList == [115, 105, 110, 116, 54, 52]) = false := by rw [hl]; decide
  have b12 : (str.toList == [98, 111, 111, 108]) = false := by rw [hl]; decide
  have b13 : (str.toList == [102, 105, 120, 101, 100, 51, 50]) = false := by rw [hl]; decide
  have b14 : (str.toList == [102, 105, 120, 101, 100, 54, 52]) = false := by rw [hl]; decide
  have b15 : (str.toList == [115, 102, 105, 120, 101, 100, 51, 50]) = false := by rw [hl]; decide
  have b16 : (str.toList == [115, 102, 105, 120, 101, 100, 54, 52]) = false := by rw [hl]; decide
  have b17 : (str.toList == [115, 116, 114, 105, 110, 103]) = false := by rw [hl]; decide
  have b18 : (str.toList == [98, 121, 116, 101, 115]) = false := by rw [hl]; decide
  have b19 : (str.toList == [114, 101, 110, 97, 109, 101]) = false := by rw [hl]; decide
  have b20 : (str.toList == [114, 101, 110, 117, 109, 98, 101, 114]) = false := by rw [hl]; decide
  have b21 : (str.toList == [114, 101, 116, 121, 112, 101]) = false := by rw [hl]; decide
  have b22 : (str.toList == [115, 112, 108, 105, 116]) = false := by rw [hl]; decide
  have b23 : (str.toList == [106, 111, 105, 110]) = false := by rw [hl]; decide
  have b24 : (str.toList == [119, 114, 97, 112]) = false := by rw [hl]; decide
  have b25 : (str.toList == [117, 110, 119, 114, 97, 112]) = false := by rw [hl]; decide
  have b26 : (str.toList == [97, 100, 100]) = false := by rw [hl]; decide
  have b27 : (str.toList == [100, 114, 111, 112]) = false := by rw [hl]; decide
  have b28 : (str.toList == [116, 111]) = true := by rw [hl]; decide
  clear hl hstr
  go_enter Tryz.func96, Tryz.ntmps96
  go_wp2
  go_ret
  exact ⟨rfl, rfl⟩
theorem pword_29 (w : World) : Calls Tryz.prog 96 #[.string (strOf [105, 110, 116, 111])] w fun e w' => e = .returned (.bool true) ∧ w = w' := by
  obtain ⟨str, hstr⟩ : ∃ str, str = strOf [105, 110, 116, 111] := ⟨_, rfl⟩
  have hl : str.toList = [105, 110, 116, 111] := by rw [hstr, str_list]
  rw [← hstr]
  have b0 : (str.toList == [101, 110, 117, 109]) = false := by rw [hl]; decide
  have b1 : (str.toList == [109, 101, 115, 115, 97, 103, 101]) = false := by rw [hl]; decide
  have b2 : (str.toList == [111, 110, 101, 111, 102]) = false := by rw [hl]; decide
  have b3 : (str.toList == [114, 101, 112, 101, 97, 116, 101, 100]) = false := by rw [hl]; decide
  have b4 : (str.toList == [114, 101, 115, 101, 114, 118, 101, 100]) = false := by rw [hl]; decide
  have b5 : (str.toList == [108, 111, 111, 115, 101]) = false := by rw [hl]; decide
  have b6 : (str.toList == [105, 110, 116, 51, 50]) = false := by rw [hl]; decide
  have b7 : (str.toList == [105, 110, 116, 54, 52]) = false := by rw [hl]; decide
  have b8 : (str.toList == [117, 105, 110, 116, 51, 50]) = false := by rw [hl]; decide
  have b9 : (str.toList == [117, 105, 110, 116, 54, 52]) = false := by rw [hl]; decide
  have b10 : (str.toList == [115, 105, 110, 116, 51, 50]) = false := by rw [hl]; decide
  have b11 : (str.toList == [115, 105, 110, 116, 54, 52]) = false := by rw [hl]; decide
  have b12 : (str.toList == [98, 111, 111, 108]) = false := by rw [hl]; decide
  have b13 : (str.toList == [102, 105, 120, 101, 100, 51, 50]) = false := by rw [hl]; decide
  have b14 : (str.toList == [102, 105, 120, 101, 100, 54, 52]) = false := by rw [hl]; decide
  have b15 : (str.toList == [115, 102, 105, 120, 101, 100, 51, 50]) = false := by rw [hl]; decide
  have b16 : (str.toList == [115, 102, 105, 120, 101, 100, 54, 52]) = false := by rw [hl]; decide
  have b17 : (str.toList == [115, 116, 114, 105, 110, 103]) = false := by rw [hl]; decide
  have b18 : (str.toList == [98, 121, 116, 101, 115]) = false := by rw [hl]; decide
  have b19 : (str.toList == [114, 101, 110, 97, 109, 101]) = false := by rw [hl]; decide
  have b20 : (str.toList == [114, 101, 110, 117, 109, 98, 101, 114]) = false := by rw [hl]; decide
  have b21 : (str.toList == [114, 101, 116, 121, 112, 101]) = false := by rw [hl]; decide
  have b22 : (str.toList == [115, 112, 108, 105, 116]) = false := by rw [hl]; decide
  have b23 : (str.toList == [106, 111, 105, 110]) = false := by rw [hl]; decide
  have b24 : (str.toList == [119, 114, 97, 112]) = false := by rw [hl]; decide
  have b25 : (str.toList == [117, 110, 119, 114, 97, 112]) = false := by rw [hl]; decide
  have b26 : (str.toList == [97, 100, 100]) = false := by rw [hl]; decide
  have b27 : (str.toList == [100, 114, 111, 112]) = false := by rw [hl]; decide
  have b28 : (str.toList == [116, 111]) = false := by rw [hl]; decide
  have b29 : (str.toList == [105, 110, 116, 111]) = true := by rw [hl]; decide
  clear hl hstr
  go_enter Tryz.func96, Tryz.ntmps96
  go_wp2
  go_ret
  exact ⟨rfl, rfl⟩
theorem pword_30 (w : World) : Calls Tryz.prog 96 #[.string (strOf [97, 115])] w fun e w' => e = .returned (.bool true) ∧ w = w' := by
  obtain ⟨str, hstr⟩ : ∃ str, str = strOf [97, 115] := ⟨_, rfl⟩
  have hl : str.toList = [97, 115] := by rw [hstr, str_list]
  rw [← hstr]
  have b0 : (str.toList == [101, 110, 117, 109]) = false := by rw [hl]; decide
  have b1 : (str.toList == [109, 101, 115, 115, 97, 103, 101]) = false := by rw [hl]; decide
  have b2 : (str.toList == [111, 110, 101, 111, 102]) = false := by rw [hl]; decide
  have b3 : (str.toList == [114, 101, 112, 101, 97, 116, 101, 100]) = false := by rw [hl]; decide
  have b4 : (str.toList == [114, 101, 115, 101, 114, 118, 101, 100]) = false := by rw [hl]; decide
  have b5 : (str.toList == [108, 111, 111, 115, 101]) = false := by rw [hl]; decide
  have b6 : (str.toList == [105, 110, 116, 51, 50]) = false := by rw [hl]; decide
  have b7 : (str.toList == [105, 110, 116, 54, 52]) = false := by rw [hl]; decide
  have b8 : (str.toList == [117, 105, 110, 116, 51, 50]) = false := by rw [hl]; decide
  have b9 : (str.toList == [117, 105, 110, 116, 54, 52]) = false := by rw [hl]; decide
  have b10 : (str.toList == [115, 105, 110, 116, 51, 50]) = false := by rw [hl]; decide
  have b11 : (str.toList == [115, 105, 110, 116, 54, 52]) = false := by rw [hl]; decide
  have b12 : (str.toList == [98, 111, 111, 108]) = false := by rw [hl]; decide
  have b13 : (str.toList == [102, 105, 120, 101, 100, 51, 50]) = false := by rw [hl]; decide
  have b14 : (str.toList == [102, 105, 120, 101, 100, 54, 52]) = false := by rw [hl]; decide
  have b15 : (str.toList == [115, 102, 105, 120, 101, 100, 51, 50]) = false := by rw [hl]; decide
  have b16 : (str.toList == [115, 102, 105, 120, 101, 100, 54, 52]) = false := by rw [hl]; decide
  have b17 : (str.toList == [115, 116, 114, 105, 110, 103]) = false := by rw [hl]; decide
  have b18 : (str.toList == [98, 121, 116, 101, 115]) = false := by rw [hl]; decide
  have b19 : (str.toList == [114, 101, 110, 97, 109, 101]) = false := by rw [hl]; decide
  have b20 : (str.toList == [114, 101, 110, 117, 109, 98, 101, 114]) = false := by rw [hl]; decide
  have b21 : (str.toList == [114, 101, 116, 121, 112, 101]) = false := by rw [hl]; decide
  have b22 : (str.toList == [115, 112, 108, 105, 116]) = false := by rw [hl]; decide
  have b23 : (str.toList == [106, 111, 105, 110]) = false := by rw [hl]; decide
  have b24 : (str.toList == [119, 114, 97, 112]) = false := by rw [hl]; decide
  have b25 : (str.toList == [117, 110, 119, 114, 97, 112]) = false := by rw [hl]; decide
  have b26 : (str.toList == [97, 100, 100]) = false := by rw [hl]; decide
  have b27 : (str.toList == [100, 114, 111, 112]) = false := by rw [hl]; decide
  have b28 : (str.toList == [116, 111]) = false := by rw [hl]; decide
  have b29 : (str.toList == [105, 110, 116, 111]) = false := by rw [hl]; decide
  have b30 : (str.toList == [97, 115]) = true := by rw [hl]; decide
  clear hl hstr
  go_enter Tryz.func96, Tryz.ntmps96
  go_wp2
  go_ret
  exact ⟨rfl, rfl⟩
theorem pword_31 (w : World) : Calls Tryz.prog 96 #[.string (strOf [111, 102])] w fun e w' => e = .returned (.bool true) ∧ w = w' := by
  obtain ⟨str, hstr⟩ : ∃ str, str = strOf [111, 102] := ⟨_, rfl⟩
  have hl : str.toList = [111, 102] := by rw [hstr, str_list]
  rw [← hstr]
  have b0 : (str.toList == [101, 110, 117, 109]) = false := by rw [hl]; decide
  have b1 : (str.toList == [109, 101, 115, 115, 97, 103, 101]) = false := by rw [hl]; decide
  have b2 : (str.toList == [111, 110, 101, 111, 102]) = false := by rw [hl]; decide
  have b3 : (str.toList == [114, 101, 112, 101, 97, 116, 101, 100]) = false := by rw [hl]; decide
  have b4 : (str.toList == [114, 101, 115, 101, 114, 118, 101, 100]) = false := by rw [hl]; decide
  have b5 : (str.toList == [108, 111, 111, 115, 101]) = false := by rw [hl]; decide
  have b6 : (str.toList == [105, 110, 116, 51, 50]) = false := by rw [hl]; decide
  have b7 : (str.toList == [105, 110, 116, 54, 52]) = false := by rw [hl]; decide
  have b8 : (str.toList == [117, 105, 110, 116, 51, 50]) = false := by rw [hl]; decide
  have b9 : (str.toList == [117, 105, 110, 116, 54, 52]) = false := by rw [hl]; decide
  have b10 : (str.toList == [115, 105, 110, 116, 51, 50]) = false := by rw [hl]; decide
  have b11 : (str.toList == [115, 105, 110, 116, 54, 52]) = false := by rw [hl]; decide
  have b12 : (str.toList == [98, 111, 111, 108]) = false := by rw [hl]; decide
  have b13 : (str.toList == [102, 105, 120, 101, 100, 51, 50]) = false := by rw [hl]; decide
  have b14 : (str.toList == [102, 105, 120, 101, 100, 54, 52]) = false := by rw [hl]; decide
  have b15 : (str.toList == [115, 102, 105, 120, 101, 100, 51, 50]) = false := by rw [hl]; decide
  have b16 : (str.toList == [115, 102, 105, 120, 101, 100, 54, 52]) = false := by rw [hl]; decide
  have b17 : (str.toList == [115, 116, 114, 105, 110, 103]) = false := by rw [hl]; decide
  have b18 : (str.toList == [98, 121, 116, 101, 115]) = false := by rw [hl]; decide
  have b19 : (str.toList == [114, 101, 110, 97, 109, 101]) = false := by rw [hl]; decide
  have b20 : (str.toList == [114, 101, 110, 117, 109, 98, 101, 114]) = false := by rw [hl]; decide
  have b21 : (str.toList == [114, 101, 116, 121, 112, 101]) = false := by rw [hl]; decide
  have b22 : (str.toList == [115, 112, 108, 105, 116]) = false := by rw [hl]; decide
  have b23 : (str.toList == [106, 111, 105, 110]) = false := by rw [hl]; decide
  have b24 : (str.toList == [119, 114, 97, 112]) = false := by rw [hl]; decide
  have b25 : (str.toList == [117, 110, 119, 114, 97, 112]) = false := by rw [hl]; decide
  have b26 : (str.toList == [97, 100, 100]) = false := by rw [hl]; decide
  have b27 : (str.toList == [100, 114, 111, 112]) = false := by rw [hl]; decide
  have b28 : (str.toList == [116, 111]) = false := by rw [hl]; decide
  have b29 : (str.toList == [105, 110, 116, 111]) = false := by rw [hl]; decide
  have b30 : (str.toList == [97, 115]) = false := by rw [hl]; decide
  have b31 : (str.toList == [111, 102]) = true := by rw [hl]; decide
  clear hl hstr
  go_enter Tryz.func96, Tryz.ntmps96
  go_wp2
  go_ret
  exact ⟨rfl, rfl⟩
theorem pword_32 (w : World) : Calls Tryz.prog 96 #[.string (strOf [100, 101, 102, 97, 117, 108, 116])] w fun e w' => e = .returned (.bool true) ∧ w = w' := by
  obtain ⟨str, hstr⟩ : ∃ str, str = strOf [100, 101, 102, 97, 117, 108, 116] := ⟨_, rfl⟩
  have hl : str.toList = [100, 101, 102, 97, 117, 108, 116] := by rw [hstr, str_list]
  rw [← hstr]
  have b0 : (str.toList == [101, 110, 117, 109]) = false := by rw [hl]; decide
  have b1 : (str.toList == [109, 101, 115, 115, 97, 103, 101]) = false := by rw [hl]; decide
  have b2 : (str.toList == [111, 110, 101, 111, 102]) = false := by rw [hl]; decide
  have b3 : (str.toList == [114, 101, 112, 101, 97, 116, 101, 100]) = false := by rw [hl]; decide
  have b4 : (str.toList == [114, 101, 115, 101, 114, 118, 101, 100]) = false := by rw [hl]; decide
  have b5 : (str.toList == [108, 111, 111, 115, 101]) = false := by rw [hl]; decide
  have b6 : (str.toList == [105, 110, 116, 51, 50]) = false := by rw [hl]; decide
  have b7 : (str.toList == [105, 110, 116, 54, 52]) = false := by rw [hl]; decide
  have b8 : (str.toList == [117, 105, 110, 116, 51, 50]) = false := by rw [hl]; decide
  have b9 : (str.toList == [117, 105, 110, 116, 54, 52]) = false := by rw [hl]; decide
  have b10 : (str.toList == [115, 105, 110, 116, 51, 50]) = false := by rw [hl]; decide
  have b11 : (str.toList == [115, 105, 110, 116, 54, 52]) = false := by rw [hl]; decide
  have b12 : (str.toList == [98, 111, 111, 108]) = false := by rw [hl]; decide
  have b13 : (str.toList == [102, 105, 120, 101, 100, 51, 50]) = false := by rw [hl]; decide
  have b14 : (str.toList == [102, 105, 120, 101, 100, 54, 52]) = false := by rw [hl]; decide
  have b15 : (str.toList == [115, 102, 105, 120, 101, 100, 51, 50]) = false := by rw [hl]; decide
  have b16 : (str.toList == [115, 102, 105, 120, 101, 100, 54, 52]) = false := by rw [hl]; decide
  have b17 : (str.toList == [115, 116, 114, 105, 110, 103]) = false := by rw [hl]; decide
  have b18 : (str.toList == [98, 121, 116, 101, 115]) = false := by rw [hl]; decide
  have b19 : (str.toList == [114, 101, 110, 97, 109, 101]) = false := by rw [hl]; decide
  have b20 : (str.toList == [114, 101, 110, 117, 109, 98, 101, 114]) = false := by rw [hl]; decide
  have b21 : (str.toList == [114, 101, 116, 121, 112, 101]) = false := by rw [hl]; decide
  have b22 : (str.toList == [115, 112, 108, 105, 116]) = false := by rw [hl]; decide
  have b23 : (str.toList == [106, 111, 105, 110]) = false := by rw [hl]; decide
  have b24 : (str.toList == [119, 114, 97, 112]) = false := by rw [hl]; decide
  have b25 : (str.toList == [117, 110, 119, 114, 97, 112]) = false := by rw [hl]; decide
  have b26 : (str.toList == [97, 100, 100]) = false := by rw [hl]; decide
  have b27 : (str.toList == [100, 114, 111, 112]) = false := by rw [hl]; decide
  have b28 : (str.toList == [116, 111]) = false := by rw [hl]; decide
  have b29 : (str.toList == [105, 110, 116, 111]) = false := by rw [hl]; decide
  have b30 : (str.toList == [97, 115]) = false := by rw [hl]; decide
  have b31 : (str.toList == [111, 102]) = false := by rw [hl]; decide
  have b32 : (str.toList == [100, 101, 102, 97, 117, 108, 116]) = true := by rw [hl]; decide
  clear hl hstr
  go_enter Tryz.func96, Tryz.ntmps96
  go_wp2
  go_ret
  exact ⟨rfl, rfl⟩
theorem pword_33 (w : World) : Calls Tryz.prog 96 #[.string (strOf [116, 114, 117, 101])] w fun e w' => e = .returned (.bool true) ∧ w = w' := by
  obtain ⟨str, hstr⟩ : ∃ str, str = strOf [116, 114, 117, 101] := ⟨_, rfl⟩
  have hl : str.toList = [116, 114, 117, 101] := by rw [hstr, str_list]
  rw [← hstr]
  have b0 : (str.toList == [101, 110, 117, 109]) = false := by rw [hl]; decide
  have b1 : (str.toList == [109, 101, 115, 115, 97, 103, 101]) = false := by rw [hl]; decide
  have b2 : (str.toList == [111, 110, 101, 111, 102]) = false := by rw [hl]; decide
  have b3 : (str.toList == [114, 101, 112, 101, 97, 116, 101, 100]) = false := by rw [hl]; decide
  have b4 : (str.toList == [114, 101, 115, 101, 114, 118, 101, 100]) = false := by rw [hl]; decide
  have b5 : (str.toList == [108, 111, 111, 115, 101]) = false := by rw [hl]; decide
  have b6 : (str.toList == [105, 110, 116, 51, 50]) = false := by rw [hl]; decide
  have b7 : (str.toList == [105, 110, 116, 54, 52]) = false := by rw [hl]; decide
  have b8 : (str.toList == [117, 105, 110, 116, 51, 50]) = false := by rw [hl]; decide
  have b9 : (str.toList == [117, 105, 110, 116, 54, 52]) = false := by rw [hl]; decide
  have b10 : (str.toList == [115, 105, 110, 116, 51, 50]) = false := by rw [hl]; decide
  have b11 : (str.toList == [115, 105, 110, 116, 54, 52]) = false := by rw [hl]; decide
  have b12 : (str.toList == [98, 111, 111, 108]) = false := by rw [hl]; decide
  have b13 : (str.toList == [102, 105, 120, 101, 100, 51, 50]) = false := by rw [hl]; decide
  have b14 : (str.toList == [102, 105, 120, 101, 100, 54, 52]) = false := by rw [hl]; decide
  have b15 : (str.toList == [115, 102, 105, 120, 101, 100, 51, 50]) = false := by rw [hl]; decide
  have b16 : (str.toList == [115, 102, 105, 120, 101, 100, 54, 52]) = false := by rw [hl]; decide
  have b17 : (str.toList == [115, 116, 114, 105, 110, 103]) = false := by rw [hl]; decide
  have b18 : (str.toList == [98, 121, 116, 101, 115]) = false := by rw [hl]; decide
  have b19 : (str.toList == [114, 101, 110, 97, 109, 101]) = false := by rw [hl]; decide
  have b20 : (str.toList == [114, 101, 110, 117, 109, 98, 101, 114]) = false := by rw [hl]; decide
  have b21 : (str.toList == [114, 101, 116, 121, 112, 101]) = false := by rw [hl]; decide
  have b22 : (str.toList == [115, 112, 108, 105, 116]) = false := by rw [hl]; decide
  have b23 : (str.toList == [106, 111, 105, 110]) = false := by rw [hl]; decide
  have b24 : (str.toList == [119, 114, 97, 112]) = false := by rw [hl]; decide
  have b25 : (str.toList == [117, 110, 119, 114, 97, 112]) = false := by rw [hl]; decide
  have b26 : (str.toList == [97, 100, 100]) = false := by rw [hl]; decide
  have b27 : (str.toList == [100, 114, 111, 112]) = false := by rw [hl]; decide
  have b28 : (str.toList == [116, 111]) = false := by rw [hl]; decide
  have b29 : (str.toList == [105, 110, 116, 111]) = false := by rw [hl]; decide
  have b30 : (str.toList == [97, 115]) = false := by rw [hl]; decide
  have b31 : (str.toList == [111, 102]) = false := by rw [hl]; decide
  have b32 : (str.toList == [100, 101, 102, 97, 117, 108, 116]) = false := by rw [hl]; decide
  have b33 : (str.toList == [116, 114, 117, 101]) = true := by rw [hl]; decide
  clear hl hstr
  go_enter Tryz.func96, Tryz.ntmps96
  go_wp2
  go_ret
  exact ⟨rfl, rfl⟩
theorem pword_34 (w : World) : Calls Tryz.prog 96 #[.string (strOf [102, 97, 108, 115, 101])] w fun e w' => e = .returned (.bool true) ∧ w = w' := by
  obtain ⟨str, hstr⟩ : ∃ str, str = strOf [102, 97, 108, 115, 101] := ⟨_, rfl⟩
  have hl : str.toList = [102, 97, 108, 115, 101] := by rw [hstr, str_list]
  rw [← hstr]
  have b0 : (str.toList == [101, 110, 117, 109]) = false := by rw [hl]; decide
  have b1 : (str.toList == [109, 101, 115, 115, 97, 103, 101]) = false := by rw [hl]; decide
  have b2 : (str.toList == [111, 110, 101, 111, 102]) = false := by rw [hl]; decide
  have b3 : (str.toList == [114, 101, 112, 101, 97, 116, 101, 100]) = false := by rw [hl]; decide
  have b4 : (str.toList == [114, 101, 115, 101, 114, 118, 101, 100]) = false := by rw [hl]; decide
  have b5 : (str.toList == [108, 111, 111, 115, 101]) = false := by rw [hl]; decide
  have b6 : (str.toList == [105, 110, 116, 51, 50]) = false := by rw [hl]; decide
  have b7 : (str.toList == [105, 110, 116, 54, 52]) = false := by rw [hl]; decide
  have b8 : (str.toList == [117, 105, 110, 116, 51, 50]) = false := by rw [hl]; decide
  have b9 : (str.toList == [117, 105, 110, 116, 54, 52]) = false := by rw [hl]; decide
  have b10 : (str.toList == [115, 105, 110, 116, 51, 50]) = false := by rw [hl]; decide
  have b11 : (str.toList == [115, 105, 110, 116, 54, 52]) = false := by rw [hl]; decide
  have b12 : (str.toList == [98, 111, 111, 108]) = false := by rw [hl]; decide
  have b13 : (str.toList == [102, 105, 120, 101, 100, 51, 50]) = false := by rw [hl]; decide
  have b14 : (str.toList == [102, 105, 120, 101, 100, 54, 52]) = false := by rw [hl]; decide
  have b15 : (str.toList == [115, 102, 105, 120, 101, 100, 51, 50]) = false := by rw [hl]; decide
  have b16 : (str.toList == [115, 102, 105, 120, 101, 100, 54, 52]) = false := by rw [hl]; decide
  have b17 : (str.toList == [115, 116, 114, 105, 110, 103]) = false := by rw [hl]; decide
  have b18 : (str.toList == [98, 121, 116, 101, 115]) = false := by rw [hl]; decide
  have b19 : (str.toList == [114, 101, 110, 97, 109, 101]) = false := by rw [hl]; decide
  have b20 : (str.toList == [114, 101, 110, 117, 109, 98, 101, 114]) = false := by rw [hl]; decide
  have b21 : (str.toList == [114, 101, 116, 121, 112, 101]) = false := by rw [hl]; decide
  have b22 : (str.toList == [115, 112, 108, 105, 116]) = false := by rw [hl]; decide
  have b23 : (str.toList == [106, 111, 105, 110]) = false := by rw [hl]; decide
  have b24 : (str.toList == [119, 114, 97, 112]) = false := by rw [hl]; decide
  have b25 : (str.toList == [117, 110, 119, 114, 97, 112]) = false := by rw [hl]; decide
  have b26 : (str.toList == [97, 100, 100]) = false := by rw [hl]; decide
  have b27 : (str.toList == [100, 114, 111, 112]) = false := by rw [hl]; decide
  have b28 : (str.toList == [116, 111]) = false := by rw [hl]; decide
  have b29 : (str.toList == [105, 110, 116, 111]) = false := by rw [hl]; decide
  have b30 : (str.toList == [97, 115]) = false := by rw [hl]; decide
  have b31 : (str.toList == [111, 102]) = false := by rw [hl]; decide
  have b32 : (str.toList == [100, 101, 102, 97, 117, 108, 116]) = false := by rw [hl]; decide
  have b33 : (str.toList == [116, 114, 117, 101]) = false := by rw [hl]; decide
  have b34 : (str.toList == [102, 97, 108, 115, 101]) = true := by rw [hl]; decide
  clear hl hstr
  go_enter Tryz.func96, Tryz.ntmps96
  go_wp2
  go_ret
  exact ⟨rfl, rfl⟩
set_option maxHeartbeats 4000000 in
theorem pword_none (t : List UInt8) (h : wordsL.contains t = false) (w : World) : Calls Tryz.prog 96 #[.string (strOf t)] w fun e w' => e = .returned (.bool false) ∧ w = w' := by
  have hall : ∀ x ∈ wordsL, ¬ (strOf t).toList = x := fun x hx e => by
    rw [str_list] at e
    subst e
    rw [List.contains_iff_mem.mpr hx] at h
    cases h
  obtain ⟨str, hstr⟩ : ∃ str, str = strOf t := ⟨_, rfl⟩
  rw [← hstr] at hall ⊢
  clear h hstr
  have b0 : (str.toList == [101, 110, 117, 109]) = false := beq_false_of_ne (hall _ (by decide))
  have b1 : (str.toList == [109, 101, 115, 115, 97, 103, 101]) = false := beq_false_of_ne (hall _ (by decide))
  have b2 : (str.toList == [111, 110, 101, 111, 102]) = false := beq_false_of_ne (hall _ (by decide))
  have b3 : (str.toList == [114, 101, 112, 101, 97, 116, 101, 100]) = false := beq_false_of_ne (hall _ (by decide))
  have b4 : (str.toList == [114, 101, 115, 101, 114, 118, 101, 100]) = false := beq_false_of_ne (hall _ (by decide))
  have b5 : (str.toList == [108, 111, 111, 115, 101]) = false := beq_false_of_ne (hall _ (by decide))
  have b6 : (str.toList == [105, 110, 116, 51, 50]) = false := beq_false_of_ne (hall _ (by decide))
  have b7 : (str.toList == [105, 110, 116, 54, 52]) = false := beq_false_of_ne (hall _ (by decide))
  have b8 : (str.toList == [117, 105, 110, 116, 51, 50]) = false := beq_false_of_ne (hall _ (by decide))
  have b9 : (str.toList == [117, 105, 110, 116, 54, 52]) = false := beq_false_of_ne (hall _ (by decide))
  have b10 : (str.toList == [115, 105, 110, 116, 51, 50]) = false := beq_false_of_ne (hall _ (by decide))
  have b11 : (str.toList == [115, 105, 110, 116, 54, 52]) = false := beq_false_of_ne (hall _ (by decide))
  have b12 : (str.toList == [98, 111, 111, 108]) = false := beq_false_of_ne (hall _ (by decide))
  have b13 : (str.toList == [102, 105, 120, 101, 100, 51, 50]) = false := beq_false_of_ne (hall _ (by decide))
  have b14 : (str.toList == [102, 105, 120, 101, 100, 54, 52]) = false := beq_false_of_ne (hall _ (by decide))
  have b15 : (str.toList == [115, 102, 105, 120, 101, 100, 51, 50]) = false := beq_false_of_ne (hall _ (by decide))
  have b16 : (str.toList == [115, 102, 105, 120, 101, 100, 54, 52]) = false := beq_false_of_ne (hall _ (by decide))
  have b17 : (str.toList == [115, 116, 114, 105, 110, 103]) = false := beq_false_of_ne (hall _ (by decide))
  have b18 : (str.toList == [98, 121, 116, 101, 115]) = false := beq_false_of_ne (hall _ (by decide))
  have b19 : (str.toList == [114, 101, 110, 97, 109, 101]) = false := beq_false_of_ne (hall _ (by decide))
  have b20 : (str.toList == [114, 101, 110, 117, 109, 98, 101, 114]) = false := beq_false_of_ne (hall _ (by decide))
  have b21 : (str.toList == [114, 101, 116, 121, 112, 101]) = false := beq_false_of_ne (hall _ (by decide))
  have b22 : (str.toList == [115, 112, 108, 105, 116]) = false := beq_false_of_ne (hall _ (by decide))
  have b23 : (str.toList == [106, 111, 105, 110]) = false := beq_false_of_ne (hall _ (by decide))
  have b24 : (str.toList == [119, 114, 97, 112]) = false := beq_false_of_ne (hall _ (by decide))
  have b25 : (str.toList == [117, 110, 119, 114, 97, 112]) = false := beq_false_of_ne (hall _ (by decide))
  have b26 : (str.toList == [97, 100, 100]) = false := beq_false_of_ne (hall _ (by decide))
  have b27 : (str.toList == [100, 114, 111, 112]) = false := beq_false_of_ne (hall _ (by decide))
  have b28 : (str.toList == [116, 111]) = false := beq_false_of_ne (hall _ (by decide))
  have b29 : (str.toList == [105, 110, 116, 111]) = false := beq_false_of_ne (hall _ (by decide))
  have b30 : (str.toList == [97, 115]) = false := beq_false_of_ne (hall _ (by decide))
  have b31 : (str.toList == [111, 102]) = false := beq_false_of_ne (hall _ (by decide))
  have b32 : (str.toList == [100, 101, 102, 97, 117, 108, 116]) = false := beq_false_of_ne (hall _ (by decide))
  have b33 : (str.toList == [116, 114, 117, 101]) = false := beq_false_of_ne (hall _ (by decide))
  have b34 : (str.toList == [102, 97, 108, 115, 101]) = false := beq_false_of_ne (hall _ (by decide))
  clear hall
  go_enter Tryz.func96, Tryz.ntmps96
  go_wp2
  go_ret
  exact ⟨rfl, rfl⟩
theorem pword_any (t : List UInt8) (w : World) : Calls Tryz.prog 96 #[.string (strOf t)] w fun e w' => e = .returned (.bool (wordsL.contains t)) ∧ w = w' := by
  cases h : wordsL.contains t with
  | false => exact pword_none t h w
  | true =>
    have hm := List.contains_iff_mem.mp h
    clear h
    simp only [wordsL, List.mem_cons, List.not_mem_nil, or_false] at hm
    rcases hm with rfl | rfl | rfl | rfl | rfl | rfl | rfl | rfl | rfl | rfl | rfl | rfl | rfl | rfl | rfl | rfl | rfl | rfl | rfl | rfl | rfl | rfl | rfl | rfl | rfl | rfl | rfl | rfl | rfl | rfl | rfl | rfl | rfl | rfl | rfl
    · exact pword_0 w
    · exact pword_1 w
    · exact pword_2 w
    · exact pword_3 w
    · exact pword_4 w
    · exact pword_5 w
    · exact pword_6 w
    · exact pword_7 w
    · exact pword_8 w
    · exact pword_9 w
    · exact pword_10 w
    · exact pword_11 w
    · exact pword_12 w
    · exact pword_13 w
    · exact pword_14 w
    · exact pword_15 w
    · exact pword_16 w
    · exact pword_17 w
    · exact pword_18 w
    · exact pword_19 w
    · exact pword_20 w
    · exact pword_21 w
    · exact pword_22 w
    · exact pword_23 w
    · exact pword_24 w
    · exact pword_25 w
    · exact pword_26 w
    · exact pword_27 w
    · exact pword_28 w
    · exact pword_29 w
    · exact pword_30 w
    · exact pword_31 w
    · exact pword_32 w
    · exact pword_33 w
    · exact pword_34 w
end Go.Proofs.YtpbhokmpbcmdcaaGreatDoor

/- Layer 10 in plain words (no program here): what is passed over, how long a name is, digits, quotes, numbers, texts, tokens. -/
namespace Go.Proofs.YtpbhokmpbcmdcaaGreatDoor
set_option linter.unusedVariables false

def digitB (c : UInt8) : Bool := decide (48 ≤ c.toNat) && decide (c.toNat ≤ 57)
def nameCh (c : UInt8) : Bool := letterB c || (digitB c || decide (c.toNat = 95))
def markB (c : UInt8) : Bool := decide (c.toNat = 123 ∨ c.toNat = 125 ∨ c.toNat = 40 ∨ c.toNat = 41 ∨ c.toNat = 61 ∨ c.toNat = 44 ∨ c.toNat = 46 ∨ c.toNat = 59)
def blankB (c : UInt8) : Bool := decide (c.toNat = 32 ∨ c.toNat = 10 ∨ c.toNat = 9)
/-- How long a name is. -/
def wordRun : List UInt8 → Nat
  | [] => 0
  | c :: r => if nameCh c = true then wordRun r + 1 else 0
def wordN : List UInt8 → Nat
  | [] => 0
  | c :: r => if letterB c = true then wordRun r + 1 else 0
def wordAt (n : Nat) (t : List UInt8) : Nat := if n = 0 then wordN t else wordRun t
theorem wordRun_le : ∀ t, wordRun t ≤ t.length
  | [] => Nat.le_refl _
  | c :: r => by
    have := wordRun_le r
    unfold wordRun
    split
    · simp; omega
    · simp
theorem wordN_le : ∀ t, wordN t ≤ t.length
  | [] => Nat.le_refl _
  | c :: r => by
    have := wordRun_le r
    show (if letterB c = true then wordRun r + 1 else 0) ≤ r.length + 1
    split <;> omega
/-- Is the byte at n of a name? -/
def wordOk (n : Nat) (c : UInt8) : Bool := letterB c || (decide (0 < n) && (digitB c || decide (c.toNat = 95)))
theorem wordAt_cons (n : Nat) (c : UInt8) (r : List UInt8) : wordAt n (c :: r) = if wordOk n c = true then wordAt (n + 1) r + 1 else 0 := by
  by_cases h : n = 0
  · subst h
    show wordN (c :: r) = if wordOk 0 c = true then wordRun r + 1 else 0
    rw [wordN]
    simp [wordOk]
  · have e1 : wordAt n (c :: r) = wordRun (c :: r) := by unfold wordAt; rw [if_neg h]
    have e2 : wordAt (n + 1) r = wordRun r := by unfold wordAt; rw [if_neg (Nat.succ_ne_zero n)]
    rw [e1, e2, wordRun]
    simp [wordOk, nameCh, show 0 < n by omega]
/-- How many bytes are passed over; first: within a comment or not. -/
def passM : Bool → List UInt8 → Nat
  | _, [] => 0
  | true, c :: r => if c.toNat = 10 then passM false r + 1 else passM true r + 1
  | false, c :: r => if blankB c = true then passM false r + 1 else if c.toNat = 47 ∧ r.head?.map UInt8.toNat = some 47 then passM true r + 1 else 0
theorem passM_le : ∀ b t, passM b t ≤ t.length
  | _, [] => by simp [passM]
  | true, c :: r => by
    have h1 := passM_le true r
    have h2 := passM_le false r
    unfold passM
    split
    · simp; omega
    · simp; omega
  | false, c :: r => by
    have h1 := passM_le true r
    have h2 := passM_le false r
    unfold passM
    split
    · simp; omega
    · split
      · simp; omega
      · simp
/-- A number's digits. -/
def decOf (n : Nat) : List UInt8 := if h : n = 0 then [] else decOf (n / 10) ++ [(48 + n % 10).toUInt8]
termination_by n
decreasing_by omega
def digitsT (n : Nat) (neg : Bool) : List UInt8 := if n = 0 then [48] else if neg = true then 45 :: decOf n else decOf n
theorem decOf_zero : decOf 0 = [] := by rw [decOf]; rfl
theorem decOf_pos {n : Nat} (h : n ≠ 0) : decOf n = decOf (n / 10) ++ [(48 + n % 10).toUInt8] := by
  conv => lhs; rw [decOf]
  rw [dif_neg h]
theorem decOf_length : ∀ (k n : Nat), n < 10 ^ k → (decOf n).length ≤ k
  | 0, n, h => by
    have : n = 0 := by simpa using h
    subst this
    rw [decOf_zero]; exact Nat.le_refl _
  | k + 1, n, h => by
    by_cases h0 : n = 0
    · subst h0; rw [decOf_zero]; exact Nat.zero_le _
    · rw [decOf_pos h0, List.length_append]
      have := decOf_length k (n / 10) (by rw [Nat.pow_succ] at h; omega)
      simp; omega
theorem decOf_len64 {n : Nat} (h : n < 18446744073709551616) : (decOf n).length ≤ 20 := decOf_length 20 n (by omega)
/-- A text, quoted. -/
def quoteC (c : UInt8) : List UInt8 := if c.toNat = 39 then [39, c] else [c]
def quoteB (s : List UInt8) : List UInt8 := s.flatMap quoteC
def quoteT (s : List UInt8) : List UInt8 := 39 :: quoteB s ++ [39]
theorem quoteB_take {s : List UInt8} {k : Nat} {c : UInt8} (h : s[k]? = some c) : quoteB (s.take (k + 1)) = quoteB (s.take k) ++ quoteC c := by
  rw [List.take_add_one, h]
  simp [quoteB]
theorem quoteB_length : ∀ s : List UInt8, (quoteB s).length ≤ 2 * s.length
  | [] => Nat.le_refl _
  | c :: r => by
    have := quoteB_length r
    show ((quoteC c) ++ quoteB r).length ≤ _
    rw [List.length_append, List.length_cons]
    unfold quoteC
    split
    · simp; omega
    · simp; omega

theorem wrap64_in2 (n : Int) (h : -9223372036854775808 ≤ n ∧ n ≤ 9223372036854775807) : Go.RowKit.wrap64 n = n := by unfold Go.RowKit.wrap64; omega
theorem strOf_append (a b : List UInt8) : strOf a ++ strOf b = strOf (a ++ b) := by
  apply ByteArray.ext
  rw [ByteArray.data_append]
  simp [strOf]
theorem strOf_extract (t : List UInt8) (i j : Nat) : (strOf t).extract i j = strOf ((t.take j).drop i) := by
  apply ByteArray.ext
  rw [ByteArray.data_extract]
  simp [strOf, List.extract_toArray, List.extract_eq_take_drop, List.drop_take]
theorem drop_get {t : List UInt8} {n : Nat} {c : UInt8} (h : t[n]? = some c) : t.drop n = c :: t.drop (n + 1) := by
  obtain ⟨h1, rfl⟩ := List.getElem?_eq_some_iff.mp h
  exact List.drop_eq_getElem_cons h1
end Go.Proofs.YtpbhokmpbcmdcaaGreatDoor

/- Layer 10 in plain words (no program here): the number that a text begins with. -/
namespace Go.Proofs.YtpbhokmpbcmdcaaGreatDoor
set_option linter.unusedVariables false

def digs (t : List UInt8) : List UInt8 := t.takeWhile digitB
def valOf (acc : Nat) (l : List UInt8) : Nat := l.foldl (fun a c => 10 * a + (c.toNat - 48)) acc
theorem valOf_append (a b : List UInt8) (acc : Nat) : valOf acc (a ++ b) = valOf (valOf acc a) b := List.foldl_append ..
theorem valOf_cons (acc : Nat) (c : UInt8) (r : List UInt8) : valOf acc (c :: r) = valOf (10 * acc + (c.toNat - 48)) r := by unfold valOf; rw [List.foldl_cons]
theorem valOf_ge : ∀ (a : List UInt8) (acc : Nat), acc ≤ valOf acc a
  | [], acc => Nat.le_refl _
  | c :: a, acc => by have := valOf_ge a (10 * acc + (c.toNat - 48)); rw [valOf_cons]; omega
def numNeg (t : List UInt8) : Bool := match t with
  | [] => false
  | c :: _ => decide (c.toNat = 45)
def numFrom (t : List UInt8) : Nat := if numNeg t = true then 1 else 0
def numDs (t : List UInt8) : List UInt8 := digs (t.drop (numFrom t))
def numV (t : List UInt8) : Nat := valOf 0 (numDs t)
def numI (t : List UInt8) : Nat := numFrom t + (numDs t).length
/-- Is none there? -/
def numBad (t : List UInt8) : Bool := decide (numDs t = []) || (decide (18446744073709551616 ≤ numV t) || (decide (digitsT (numV t) (numNeg t) ≠ t.take (numI t)) || (numNeg t && decide (9223372036854775808 < numV t))))
def numT (t : List UInt8) : Nat × Bool × Nat := if numBad t = true then (0, false, 0) else (numV t, numNeg t, numI t)
theorem digs_le (t : List UInt8) : (digs t).length ≤ t.length := (List.takeWhile_prefix _).length_le
theorem numFrom_le (t : List UInt8) : numFrom t ≤ t.length := by
  unfold numFrom numNeg
  cases t with
  | nil => simp
  | cons c r =>
    show (if decide (c.toNat = 45) = true then 1 else 0) ≤ r.length + 1
    split <;> omega
theorem numI_le (t : List UInt8) : numI t ≤ t.length := by
  unfold numI numDs
  have h1 := digs_le (t.drop (numFrom t))
  have h2 := numFrom_le t
  rw [List.length_drop] at h1
  omega
theorem numT_le (t : List UInt8) : (numT t).2.2 ≤ t.length := by
  unfold numT
  split
  · exact Nat.zero_le _
  · exact numI_le t
theorem numT_lt (t : List UInt8) : (numT t).1 < 18446744073709551616 := by
  unfold numT
  split
  · exact (by decide : (0 : Nat) < 18446744073709551616)
  · rename_i h
    show numV t < _
    rcases Nat.lt_or_ge (numV t) 18446744073709551616 with h1 | h1
    · exact h1
    · exact absurd (by unfold numBad; rw [decide_eq_true h1]; simp) h
theorem digs_cons_yes {c : UInt8} {r : List UInt8} (h : digitB c = true) : digs (c :: r) = c :: digs r := by unfold digs; rw [List.takeWhile_cons_of_pos h]
theorem digs_cons_no {c : UInt8} {r : List UInt8} (h : digitB c = false) : digs (c :: r) = [] := by unfold digs; rw [List.takeWhile_cons_of_neg (by simp [h])]
theorem digitB_iff (c : UInt8) : digitB c = true ↔ 48 ≤ c.toNat ∧ c.toNat ≤ 57 := by unfold digitB; simp
/-- So many digits were read. -/
structure NumAt (t pre : List UInt8) (i n : Nat) : Prop where
  ds : numDs t = pre ++ digs (t.drop i)
  i_ : i = numFrom t + pre.length
  n_ : n = valOf 0 pre
  lt : n < 18446744073709551616
  le : i ≤ t.length
theorem numAt_start (t : List UInt8) : NumAt t [] (numFrom t) 0 := ⟨rfl, rfl, rfl, by omega, numFrom_le t⟩
section
variable {t pre : List UInt8} {i n : Nat} {c : UInt8}
theorem NumAt.step (h : NumAt t pre i n) (hc : t[i]? = some c) (hd : digitB c = true) (hn : 10 * n + (c.toNat - 48) < 18446744073709551616) : NumAt t (pre ++ [c]) (i + 1) (10 * n + (c.toNat - 48)) := by
  refine ⟨?_, by rw [h.i_, List.length_append]; rfl, by rw [valOf_append, ← h.n_, valOf_cons]; unfold valOf; rw [List.foldl_nil], hn, (List.getElem?_eq_some_iff.mp hc).1⟩
  rw [h.ds, drop_get hc, digs_cons_yes hd, List.append_assoc]
  rfl
theorem NumAt.over (h : NumAt t pre i n) (hc : t[i]? = some c) (hd : digitB c = true) (hn : 18446744073709551616 ≤ 10 * n + (c.toNat - 48)) : numT t = (0, false, 0) := by
  unfold numT
  rw [if_pos]
  have h1 : 18446744073709551616 ≤ numV t := by
    unfold numV
    rw [h.ds, drop_get hc, digs_cons_yes hd, valOf_append, valOf_cons, ← h.n_]
    exact Nat.le_trans hn (valOf_ge _ _)
  unfold numBad
  rw [decide_eq_true h1]
  simp
theorem NumAt.stop (h : NumAt t pre i n) (hs : digs (t.drop i) = []) : numDs t = pre ∧ numV t = n ∧ numI t = i := by
  have e : numDs t = pre := by rw [h.ds, hs, List.append_nil]
  exact ⟨e, by unfold numV; rw [e, h.n_], by unfold numI; rw [e, h.i_]⟩
theorem NumAt.stop_no (h : NumAt t pre i n) (hc : t[i]? = some c) (hd : digitB c = false) : digs (t.drop i) = [] := by rw [drop_get hc, digs_cons_no hd]
theorem NumAt.stop_end (h : NumAt t pre i n) (hc : ¬ i < t.length) : digs (t.drop i) = [] := by rw [List.drop_of_length_le (by omega)]; rfl
theorem NumAt.first (h : NumAt t pre i n) (hs : digs (t.drop i) = []) (he : i = numFrom t) : numT t = (0, false, 0) := by
  have e := (h.stop hs).1
  have : pre = [] := List.eq_nil_of_length_eq_zero (by have := h.i_; omega)
  unfold numT
  rw [if_pos]
  unfold numBad
  rw [e, this]
  simp
theorem NumAt.end_ (h : NumAt t pre i n) (hs : digs (t.drop i) = []) (he : i ≠ numFrom t) : numT t = if (decide (digitsT n (numNeg t) ≠ t.take i) || (numNeg t && decide (9223372036854775808 < n))) = true then (0, false, 0) else (n, numNeg t, i) := by
  obtain ⟨e1, e2, e3⟩ := h.stop hs
  have hp : pre ≠ [] := fun e => he (by have := h.i_; rw [e] at this; simpa using this)
  unfold numT numBad
  rw [e1, e2, e3, decide_eq_false hp, decide_eq_false (Nat.not_le.mpr h.lt), Bool.false_or, Bool.false_or]
end
end Go.Proofs.YtpbhokmpbcmdcaaGreatDoor

/- Layer 10 in plain words (no program here): the text that a text begins with. -/
namespace Go.Proofs.YtpbhokmpbcmdcaaGreatDoor
set_option linter.unusedVariables false

/-- Behind the opening quote: what is said, and how many bytes that and the closing quote are. -/
def textR : List UInt8 → Option (List UInt8 × Nat)
  | [] => none
  | c :: r => if c.toNat ≠ 39 then (textR r).map (fun p => (c :: p.1, p.2 + 1)) else
    match r with
    | [] => some ([], 1)
    | d :: q => if d.toNat ≠ 39 then some ([], 1) else (textR q).map (fun p => (39 :: p.1, p.2 + 2))
def textT (t : List UInt8) : List UInt8 × Nat := match t with
  | [] => ([], 0)
  | c :: r => if c.toNat = 39 then (match textR r with | some p => (p.1, p.2 + 1) | none => ([], 0)) else ([], 0)
theorem textR_other {c : UInt8} {r : List UInt8} (h : c.toNat ≠ 39) : textR (c :: r) = (textR r).map (fun p => (c :: p.1, p.2 + 1)) := by
  rw [textR.eq_def]; dsimp only; rw [if_pos h]
theorem textR_last {c : UInt8} (h : c.toNat = 39) : textR [c] = some ([], 1) := by
  rw [textR.eq_def]; dsimp only; rw [if_neg (by simp [h])]
theorem textR_close {c d : UInt8} {q : List UInt8} (h : c.toNat = 39) (hd : d.toNat ≠ 39) : textR (c :: d :: q) = some ([], 1) := by
  rw [textR.eq_def]; dsimp only; rw [if_neg (by simp [h]), if_pos hd]
theorem textR_two {c d : UInt8} {q : List UInt8} (h : c.toNat = 39) (hd : d.toNat = 39) : textR (c :: d :: q) = (textR q).map (fun p => (39 :: p.1, p.2 + 2)) := by
  rw [textR.eq_def]; dsimp only; rw [if_neg (by simp [h]), if_neg (by simp [hd])]
/-- So much was read, up to i. -/
def TextAt (t o : List UInt8) (i : Nat) : Prop := textR (t.drop 1) = (textR (t.drop i)).map (fun p => (o ++ p.1, i - 1 + p.2))
theorem textAt_start (t : List UInt8) : TextAt t [] 1 := by
  unfold TextAt
  cases textR (t.drop 1) with
  | none => rfl
  | some p => simp
section
variable {t o : List UInt8} {i : Nat} {c d : UInt8}
theorem txt_other (h : TextAt t o i) (hi : 1 ≤ i) (hc : t[i]? = some c) (h39 : c.toNat ≠ 39) : TextAt t (o ++ [c]) (i + 1) := by
  unfold TextAt at *
  rw [h, drop_get hc, textR_other h39, Option.map_map]
  congr 1
  funext p
  simp
  omega
theorem txt_two (h : TextAt t o i) (hi : 1 ≤ i) (hc : t[i]? = some c) (h39 : c.toNat = 39) (hd : t[i + 1]? = some d) (hd39 : d.toNat = 39) : TextAt t (o ++ [39]) (i + 2) := by
  unfold TextAt at *
  rw [h, drop_get hc, drop_get hd, textR_two h39 hd39, Option.map_map]
  congr 1
  funext p
  simp
  omega
theorem txt_done (h : TextAt t o i) (hi : 1 ≤ i) (h0 : t[0]? = some c) (h39 : c.toNat = 39) (hr : textR (t.drop i) = some ([], 1)) : textT t = (o, i + 1) := by
  unfold TextAt at h
  rw [hr] at h
  cases t with
  | nil => simp at h0
  | cons b r =>
    simp at h0
    subst h0
    have h' : textR r = some (o ++ [], i - 1 + 1) := h
    unfold textT
    dsimp only
    rw [if_pos h39, h']
    simp
    omega
theorem txt_none (h : TextAt t o i) (h0 : t[0]? = some c) (h39 : c.toNat = 39) (hr : textR (t.drop i) = none) : textT t = ([], 0) := by
  unfold TextAt at h
  rw [hr] at h
  cases t with
  | nil => rfl
  | cons b r =>
    simp at h0
    subst h0
    have h' : textR r = Option.none := h
    unfold textT
    dsimp only
    rw [if_pos h39, h']
end
theorem text_no {t : List UInt8} (h : ∀ c, t[0]? = some c → c.toNat ≠ 39) : textT t = ([], 0) := by
  cases t with
  | nil => rfl
  | cons b r =>
    unfold textT
    dsimp only
    rw [if_neg (h b rfl)]
end Go.Proofs.YtpbhokmpbcmdcaaGreatDoor

/- The document's Right of names: what is none at once. Conditions: those that each theorem names. -/
namespace Go.Proofs.YtpbhokmpbcmdcaaGreatDoor
open Go.RowKit
set_option linter.unusedVariables false
set_option maxRecDepth 100000

/-- No name: too short. -/
theorem rname_short (w : World) (t : List UInt8) (h : t.length < 1) : Calls Tryz.prog 69 #[.string (strOf t)] w fun e w' => e = .returned (.bool (nameB t)) ∧ Below w.heap.size w w' := by
  have HF : Hid (nameB t = false) := Lib.hid (by unfold nameB; rw [decide_eq_false (by omega)]; rfl)
  obtain ⟨n, hn⟩ : ∃ n, n = t.length := ⟨_, rfl⟩
  obtain ⟨str, hstr⟩ : ∃ str, str = strOf t := ⟨_, rfl⟩
  have hsz : str.size = n := by rw [hstr, str_size, hn]
  rw [← hstr]
  have g1 : decide ((n : Int) < 1) = true := decide_eq_true (by omega)
  clear hstr hn h
  go_enter Tryz.func69, Tryz.ntmps69
  go_wp2
  go_ret
  exact ⟨ret_bool' HF.out.symm, Below.refl _ _⟩
/-- No name: too long. -/
theorem rname_long (w : World) (t : List UInt8) (h : 12 < t.length) : Calls Tryz.prog 69 #[.string (strOf t)] w fun e w' => e = .returned (.bool (nameB t)) ∧ Below w.heap.size w w' := by
  have HF : Hid (nameB t = false) := Lib.hid (by unfold nameB; rw [decide_eq_false (show ¬ t.length ≤ 12 by omega)]; simp)
  obtain ⟨n, hn⟩ : ∃ n, n = t.length := ⟨_, rfl⟩
  obtain ⟨str, hstr⟩ : ∃ str, str = strOf t := ⟨_, rfl⟩
  have hsz : str.size = n := by rw [hstr, str_size, hn]
  rw [← hstr]
  have g1 : decide ((n : Int) < 1) = false := decide_eq_false (by omega)
  have g2 : decide ((n : Int) > 12) = true := decide_eq_true (by omega)
  clear hstr hn h
  go_enter Tryz.func69, Tryz.ntmps69
  go_wp2
  go_ret
  exact ⟨ret_bool' HF.out.symm, Below.refl _ _⟩
/-- No name: its first is no letter. -/
theorem rname_first (w : World) (c : UInt8) (r : List UInt8) (h12 : (c :: r).length ≤ 12) (hl : letterB c = false) : Calls Tryz.prog 69 #[.string (strOf (c :: r))] w fun e w' => e = .returned (.bool (nameB (c :: r))) ∧ Below w.heap.size w w' := by
  have HF : Hid (nameB (c :: r) = false) := Lib.hid (by unfold nameB; simp only [hl, Bool.and_false, Bool.false_and])
  have h1 : 1 ≤ (c :: r).length := by simp
  obtain ⟨n, hn⟩ : ∃ n, n = (c :: r).length := ⟨_, rfl⟩
  obtain ⟨str, hstr⟩ : ∃ str, str = strOf (c :: r) := ⟨_, rfl⟩
  have hsz : str.size = n := by rw [hstr, str_size, hn]
  rw [← hn] at h1 h12
  have hs0 : 0 < str.size := by omega
  have EA : Hid (str[0]'hs0 = c) := by
    show _ = _
    have := hstr
    subst this
    rfl
  rw [← hstr]
  have g1 : decide ((n : Int) < 1) = false := decide_eq_false (by omega)
  have g2 : decide ((n : Int) > 12) = false := decide_eq_false (by omega)
  have hp0 : (0 : Int) < (n : Int) := by omega
  have HL := Lib.hid (fun w => rletter_any c w)
  rw [hl] at HL
  clear hl hn hstr
  go_enter Tryz.func69, Tryz.ntmps69
  go_wp2_with (go_at_call 118; rw [EA.out]; refine (HL.out _).mono ?_; rintro e w2 ⟨rfl, rfl⟩)
  go_ret
  exact ⟨ret_bool' HF.out.symm, Below.refl _ _⟩
end Go.Proofs.YtpbhokmpbcmdcaaGreatDoor

/- The document's Right of names: the walk through the letters and the words. Conditions: those that each theorem names. -/
namespace Go.Proofs.YtpbhokmpbcmdcaaGreatDoor
open Go.RowKit
set_option linter.unusedVariables false
set_option maxRecDepth 100000

theorem words_sl (w : World) : Sl (w.alloc (.cells (txts wordsL).toArray 9)) (some ⟨w.heap.size, 0, none⟩) 35 (txts wordsL) :=
  ⟨by rw [txts_length, words_length]; exact Nat.le_refl _, by decide, (fun h => by cases h), fun j u hj => ⟨w.heap.size, 0, rfl, by
    rw [World.cell?_alloc_at _ _ _ _ rfl, Nat.zero_add, List.getElem?_toArray]; exact hj⟩⟩
set_option maxHeartbeats 2000000 in
theorem rname_loops (w : World) (c : UInt8) (r t : List UInt8) (ht : t = c :: r) (h12 : t.length ≤ 12) (hl : letterB c = true) : Calls Tryz.prog 69 #[.string (strOf t)] w fun e w' => e = .returned (.bool (nameB t)) ∧ Below w.heap.size w w' := by
  have HT : Hid (nameB t = (t.all charB && !(wordsL.contains t))) := Lib.hid (by unfold nameB; rw [decide_eq_true h12, ht]; simp [hl])
  have h1 : 1 ≤ t.length := by rw [ht]; simp
  obtain ⟨n, hn⟩ : ∃ n, n = t.length := ⟨_, rfl⟩
  obtain ⟨str, hstr⟩ : ∃ str, str = strOf t := ⟨_, rfl⟩
  have hsz : str.size = n := by rw [hstr, str_size, hn]
  rw [← hn] at h1 h12
  have hs0 : 0 < str.size := by omega
  have EA : Hid (str[0]'hs0 = c) := by
    show _ = _
    have := hstr
    subst this
    subst ht
    rfl
  rw [← hstr]
  have HN := Lib.hid hn
  have HST := Lib.hid hstr
  have g1 : decide ((n : Int) < 1) = false := decide_eq_false (by omega)
  have g2 : decide ((n : Int) > 12) = false := decide_eq_false (by omega)
  have hp0 : (0 : Int) < (n : Int) := by omega
  have HL := Lib.hid (fun w => rletter_any c w)
  rw [hl] at HL
  clear hl hn hstr ht
  go_enter Tryz.func69, Tryz.ntmps69
  go_wp2_with (go_at_call 118; rw [EA.out]; refine (HL.out _).mono ?_; rintro e w2 ⟨rfl, rfl⟩)
  clear EA HL
  go_loop [3] (fun x => ∃ k : Nat, k ≤ n ∧ x = .int .i64 (k : Int) ∧ ∀ (j : Nat) a, j < k → t[j]? = some a → charB a = true) (fun x => n - (intOf x).toNat)
  case atStart => exact ⟨0, Nat.zero_le _, rfl, fun j a hj => absurd hj (Nat.not_lt_zero _)⟩
  case round =>
    obtain ⟨k, hk, rfl, hall⟩ := hrel
    have HALL := Lib.hid hall
    clear hall
    by_cases hlt : k < n
    · have g3 : decide ((k : Int) < (n : Int)) = true := decide_eq_true (by omega)
      obtain ⟨a, ha⟩ : ∃ a, t[k]? = some a := ⟨_, List.getElem?_eq_getElem (by have := HN.out; omega)⟩
      have hsk : k < str.size := by omega
      have EK : str[k]'hsk = a := by
        obtain ⟨q1, q2⟩ := List.getElem?_eq_some_iff.mp ha
        have := HST.out
        subst this
        exact q2
      have hk0 : 0 ≤ (k : Int) := by omega
      have hk1 : (k : Int) < (n : Int) := by omega
      have HLA := Lib.hid (fun w => rletter_any a w)
      have HA := Lib.hid ha
      have HCH : Hid (charB a = (letterB a || (decide (48 ≤ a.toNat) && decide (a.toNat ≤ 57)) || decide (a.toNat = 95))) := Lib.hid rfl
      clear ha
      cases hla : letterB a with
      | true =>
        rw [hla] at HCH HLA
        have HC : Hid (charB a = true) := Lib.hid (by rw [HCH.out]; rfl)
        clear hla
        go_wp2_with (go_at_call 118; (try rw [EK]); refine (HLA.out _).mono ?_; rintro e w2 ⟨rfl, rfl⟩)
        go_round
        case rel =>
          refine ⟨k + 1, by omega, by go_num, fun j b hj hb => ?_⟩
          by_cases hjk : j < k
          · exact HALL.out j b hjk hb
          · have : j = k := by omega
            subst this
            have e1 := HA.out.symm.trans hb
            injection e1 with e1
            subst e1
            exact HC.out
        case measure => simp [intOf]; omega
      | false =>
        rw [hla] at HCH HLA
        clear hla
        by_cases h48 : a.toNat < 48
        · have g4 : decide ((a.toNat : Int) < 48) = true := decide_eq_true (by omega)
          have hne : ¬ ((a.toNat : Int) = 95) := by omega
          have hne2 : ((a.toNat : Int) == 95) = false := beq_false_of_ne hne
          have HC : Hid (charB a = false) := Lib.hid (by rw [HCH.out, decide_eq_false (show ¬ 48 ≤ a.toNat by omega), decide_eq_false (show ¬ a.toNat = 95 by omega)]; rfl)
          have HF : Hid (nameB t = false) := Lib.hid (by rw [HT.out, show t.all charB = false from by rw [List.all_eq_false]; exact ⟨a, List.mem_of_getElem? HA.out, by rw [HC.out]; simp⟩]; rfl)
          go_wp2_with (go_at_call 118; (try rw [EK]); refine (HLA.out _).mono ?_; rintro e w2 ⟨rfl, rfl⟩)
          go_ret
          exact ⟨ret_bool' HF.out.symm, Below.refl _ _⟩
        · have g4 : decide ((a.toNat : Int) < 48) = false := decide_eq_false (by omega)
          by_cases h57 : a.toNat ≤ 57
          · have g5 : decide ((a.toNat : Int) > 57) = false := decide_eq_false (by omega)
            have HC : Hid (charB a = true) := Lib.hid (by rw [HCH.out, decide_eq_true (show 48 ≤ a.toNat by omega), decide_eq_true h57]; rfl)
            go_wp2_with (go_at_call 118; (try rw [EK]); refine (HLA.out _).mono ?_; rintro e w2 ⟨rfl, rfl⟩)
            go_round
            case rel =>
              refine ⟨k + 1, by omega, by go_num, fun j b hj hb => ?_⟩
              by_cases hjk : j < k
              · exact HALL.out j b hjk hb
              · have : j = k := by omega
                subst this
                have e1 := HA.out.symm.trans hb
                injection e1 with e1
                subst e1
                exact HC.out
            case measure => simp [intOf]; omega
          · have g5 : decide ((a.toNat : Int) > 57) = true := decide_eq_true (by omega)
            by_cases h95 : a.toNat = 95
            · have hne : ((a.toNat : Int) = 95) := by omega
              have HC : Hid (charB a = true) := Lib.hid (by rw [HCH.out, decide_eq_true h95]; simp)
              have HLB : Hid (∀ w, Calls Tryz.prog 118 #[.int .u8 (95 : Int)] w fun e w' => e = .returned (.bool false) ∧ w = w') := Lib.hid (fun w => by have := HLA.out w; rw [hne] at this; exact this)
              go_wp2_with (go_at_call 118; (try rw [EK]); (try rw [hne]); with_reducible refine (HLB.out _).mono ?_; rintro e w2 ⟨rfl, rfl⟩)
              go_round
              case rel =>
                refine ⟨k + 1, by omega, by go_num, fun j b hj hb => ?_⟩
                by_cases hjk : j < k
                · exact HALL.out j b hjk hb
                · have : j = k := by omega
                  subst this
                  have e1 := HA.out.symm.trans hb
                  injection e1 with e1
                  subst e1
                  exact HC.out
              case measure => simp [intOf]; omega
            · have hne : ¬ ((a.toNat : Int) = 95) := by omega
              have hne2 : ((a.toNat : Int) == 95) = false := beq_false_of_ne hne
              have HC : Hid (charB a = false) := Lib.hid (by rw [HCH.out, decide_eq_false h57, decide_eq_false h95]; simp)
              have HF : Hid (nameB t = false) := Lib.hid (by rw [HT.out, show t.all charB = false from by rw [List.all_eq_false]; exact ⟨a, List.mem_of_getElem? HA.out, by rw [HC.out]; simp⟩]; rfl)
              go_wp2_with (go_at_call 118; (try rw [EK]); refine (HLA.out _).mono ?_; rintro e w2 ⟨rfl, rfl⟩)
              go_ret
              exact ⟨ret_bool' HF.out.symm, Below.refl _ _⟩
    · have g3 : decide ((k : Int) < (n : Int)) = false := decide_eq_false (by omega)
      have hal : t.all charB = true := by
        rw [List.all_eq_true]
        intro x hx
        obtain ⟨j, hj⟩ := List.getElem?_of_mem hx
        exact HALL.out j x (by have := (List.getElem?_eq_some_iff.mp hj).1; have := HN.out; omega) hj
      have HA2 : Hid (nameB t = !(wordsL.contains t)) := Lib.hid (by rw [HT.out, hal]; rfl)
      have HW := Lib.hid (words_sl w)
      clear hal
      go_wp2_with (go_at_call 119; refine (rwords_any _).mono ?_; rintro e w2 ⟨rfl, rfl⟩)
      obtain ⟨w1, hw1⟩ : ∃ w1, w1 = w.alloc (.cells (txts wordsL).toArray 9) := ⟨_, rfl⟩
      rw [← hw1] at HW ⊢
      have HB1 : Hid (Below w.heap.size w w1) := Lib.hid (hw1 ▸ (Below.refl _ _).alloc (Nat.le_refl _) _)
      clear hw1
      go_loopg [5] 35 (fun h y wr => ∃ i : Nat, y = .int .i64 (i : Int) ∧ i + h = 35 ∧ wr = w1 ∧ ∀ (q : Nat) b, q < i → wordsL[q]? = some b → b ≠ t)
      case atStart => exact ⟨0, rfl, by omega, rfl, fun q b hq => absurd hq (Nat.not_lt_zero _)⟩
      case round =>
        obtain ⟨i, rfl, hi, rfl, hin⟩ := hrel
        obtain ⟨h0, hh0⟩ : ∃ h0, h0 = gk := ⟨_, rfl⟩
        subst hh0
        have HIN := Lib.hid hin
        clear hin
        by_cases hli : i < 35
        · have g4 : decide ((i : Int) < 35) = true := decide_eq_true (by omega)
          obtain ⟨b, hb⟩ : ∃ b, wordsL[i]? = some b := ⟨_, List.getElem?_eq_getElem (by rw [words_length]; exact hli)⟩
          obtain ⟨g', off', e', c1⟩ := HW.out.at_ i (.string (strOf b)) (by rw [txts, List.getElem?_map, hb]; rfl)
          cases e'
          rw [Nat.zero_add] at c1
          have HB := Lib.hid hb
          by_cases hab : b = t
          · subst hab
            rw [← HST.out] at c1
            have HF : Hid (nameB b = false) := Lib.hid (by rw [HA2.out, List.contains_iff_mem.mpr (List.mem_of_getElem? HB.out)]; rfl)
            clear hb
            go_wp2
            go_ret
            exact ⟨ret_bool' HF.out.symm, HB1.out⟩
          · obtain ⟨sb, hsb⟩ : ∃ sb, sb = strOf b := ⟨_, rfl⟩
            have hne : ¬ sb.toList = str.toList := by rw [HST.out, hsb, str_list, str_list]; exact hab
            have hne2 : (sb.toList == str.toList) = false := by rw [HST.out, hsb, strOf_beq]; exact decide_eq_false hab
            rw [← hsb] at c1
            have HAB := Lib.hid hab
            clear hb hsb hab
            go_wp2
            go_roundg (h0 - 1)
            case measure => omega
            case rel =>
              refine ⟨i + 1, by go_num, by omega, rfl, fun q c hq hc => ?_⟩
              by_cases hqk : q < i
              · exact HIN.out q c hqk hc
              · have : q = i := by omega
                subst this
                have e1 := HB.out.symm.trans hc
                injection e1 with e1
                subst e1
                exact HAB.out
        · have g4 : decide ((i : Int) < 35) = false := decide_eq_false (by omega)
          have HF : Hid (nameB t = true) := Lib.hid (by
            rw [HA2.out, Bool.not_eq_true']
            cases hc : wordsL.contains t with
            | false => rfl
            | true =>
              obtain ⟨j, hj⟩ := List.getElem?_of_mem (List.contains_iff_mem.mp hc)
              exact absurd rfl (HIN.out j t (by have := (List.getElem?_eq_some_iff.mp hj).1; rw [words_length] at this; omega) hj))
          go_wp2
          go_ret
          exact ⟨ret_bool' HF.out.symm, HB1.out⟩
theorem rname_any (w : World) (t : List UInt8) : Calls Tryz.prog 69 #[.string (strOf t)] w fun e w' => e = .returned (.bool (nameB t)) ∧ Below w.heap.size w w' := by
  by_cases h1 : t.length < 1
  · exact rname_short w t h1
  · by_cases h12 : 12 < t.length
    · exact rname_long w t h12
    · cases t with
      | nil => simp at h1
      | cons c r =>
        cases hl : letterB c with
        | false => exact rname_first w c r (by omega) hl
        | true => exact rname_loops w c r _ rfl (by omega) hl
end Go.Proofs.YtpbhokmpbcmdcaaGreatDoor

/- What is asked of the program's layer 9, and the walks of IdentRight and IdentLists. Conditions: those that each theorem names. -/
namespace Go.Proofs.YtpbhokmpbcmdcaaGreatDoor
open Go.RowKit
set_option linter.unusedVariables false
set_option maxRecDepth 100000

/-- What is asked of layer 9. -/
structure IdOk : Prop where
  right : ∀ w t, Calls Tryz.prog 53 #[.string (strOf t)] w fun e w' => e = .returned (.bool (nameB t)) ∧ Below w.heap.size w w'
  rise : ∀ w A cap n ts, Sl w A cap (txts ts) → n = ts.length → Calls Tryz.prog 58 #[.slice A n cap] w fun e w' => e = .returned (.bool (riseB ts)) ∧ Below w.heap.size w w'
  once : ∀ w A cap n ts, Sl w A cap (txts ts) → n = ts.length → n ≤ 1000000 → Calls Tryz.prog 55 #[.slice A n cap] w fun e w' => e = .returned (.bool (onceB ts)) ∧ Below w.heap.size w w'
theorem ex_id1 : nameB [97, 95, 49] = true := by decide
theorem ex_id2 : nameB [49, 97] = false := by decide
theorem ex_id3 : nameB [116, 111] = false := by decide
theorem ex_id4 : nameB [97, 195, 169] = false := by decide
theorem below_drewN {B : Nat} {a w : World} (h : Below B a w) (k : Nat) : Below B a (w.drewN k) :=
  ⟨h.os, h.tape, h.output, h.size, h.block⟩
end Go.Proofs.YtpbhokmpbcmdcaaGreatDoor

/- The document's digits, marks, words, and what it passes over. Conditions: those that each theorem names. -/
namespace Go.Proofs.YtpbhokmpbcmdcaaGreatDoor
open Go.RowKit
set_option linter.unusedVariables false
set_option maxRecDepth 100000

end Go.Proofs.YtpbhokmpbcmdcaaGreatDoor

/- The document's digits of a number, and a text quoted. Conditions: those that each theorem names. -/
namespace Go.Proofs.YtpbhokmpbcmdcaaGreatDoor
open Go.RowKit
set_option linter.unusedVariables false
set_option maxRecDepth 100000

theorem strOf_nil : strOf [] = ⟨#[]⟩ := rfl
end Go.Proofs.YtpbhokmpbcmdcaaGreatDoor

/- The document's text that a text begins with. Conditions: those that each theorem names. -/
namespace Go.Proofs.YtpbhokmpbcmdcaaGreatDoor
open Go.RowKit
set_option linter.unusedVariables false
set_option maxRecDepth 100000

def textV2 (r : List UInt8 × Nat) : Value := .tuple #[.string (strOf r.1), .int .i64 (r.2 : Int)]
end Go.Proofs.YtpbhokmpbcmdcaaGreatDoor

/- The document's token that a text begins with. Conditions: what number answers; those that each theorem names. -/
namespace Go.Proofs.YtpbhokmpbcmdcaaGreatDoor
open Go.RowKit
set_option linter.unusedVariables false
set_option maxRecDepth 100000

structure Tk where
  kind : Int
  s : List UInt8
  n : Nat
  neg : Bool
  pos : Nat
def tkV (x : Tk) : Value := .agg #[.int .i64 x.kind, .string (strOf x.s), .int .u64 (x.n : Int), .bool x.neg, .int .i64 (x.pos : Int)]
def tkCells (x : Tk) : List Value := [.int .i64 x.kind, .string (strOf x.s), .int .u64 (x.n : Int), .bool x.neg, .int .i64 (x.pos : Int)]
def tk0 : Tk := ⟨0, [], 0, false, 0⟩
def oneT (t : List UInt8) : Tk × Nat :=
  if 0 < wordN t then (⟨1, t.take (wordN t), 0, false, 0⟩, wordN t)
  else if 0 < (numT t).2.2 then (⟨2, [], (numT t).1, (numT t).2.1, 0⟩, (numT t).2.2)
  else if 0 < (textT t).2 then (⟨3, (textT t).1, 0, false, 0⟩, (textT t).2)
  else match t with
    | [] => (tk0, 0)
    | c :: r => if markB c = true then (⟨4, [c], 0, false, 0⟩, 1) else (tk0, 0)
def oneV (r : Tk × Nat) : Value := .tuple #[tkV r.1, .int .i64 (r.2 : Int)]
def numV3 (r : Nat × Bool × Nat) : Value := .tuple #[.int .u64 (r.1 : Int), .bool r.2.1, .int .i64 (r.2.2 : Int)]
theorem box_set {w : World} {p : Nat} {cs : Array Value} {t : TypeId} (h : w.heap[p]? = some (.cells cs t (0, 0))) (h5 : cs.size = 5) (v0 v1 v2 v3 v4 : Value) :
    (((((w.setCell ⟨p, 0, none⟩ v0).setCell ⟨p, 1, none⟩ v1).setCell ⟨p, 2, none⟩ v2).setCell ⟨p, 3, none⟩ v3).setCell ⟨p, 4, none⟩ v4).heap[p]? = some (.cells #[v0, v1, v2, v3, v4] t (0, 0)) := by
  rw [obj_set (obj_set (obj_set (obj_set (obj_set h 0 v0) 1 v1) 2 v2) 3 v3) 4 v4]
  obtain ⟨l⟩ := cs
  match l, h5 with
  | [a, b, c, d, e], _ => rfl
theorem box_below {w0 w : World} {p : Nat} (h : Below w0.heap.size w0 w) (hp : w0.heap.size ≤ p) (v0 v1 v2 v3 v4 : Value) :
    Below w0.heap.size w0 (((((w.setCell ⟨p, 0, none⟩ v0).setCell ⟨p, 1, none⟩ v1).setCell ⟨p, 2, none⟩ v2).setCell ⟨p, 3, none⟩ v3).setCell ⟨p, 4, none⟩ v4) :=
  ((((h.setCell (p := ⟨p, 0, none⟩) hp v0).setCell (p := ⟨p, 1, none⟩) hp v1).setCell (p := ⟨p, 2, none⟩) hp v2).setCell (p := ⟨p, 3, none⟩) hp v3).setCell (p := ⟨p, 4, none⟩) hp v4

end Go.Proofs.YtpbhokmpbcmdcaaGreatDoor

/- Layer 10 (no program here, but for the document's tokens in memory): all tokens of a text. Conditions: those that each theorem names. -/
namespace Go.Proofs.YtpbhokmpbcmdcaaGreatDoor
open Go.RowKit
set_option linter.unusedVariables false

theorem textR_le : ∀ (r : List UInt8) (p : List UInt8 × Nat), textR r = some p → p.2 ≤ r.length
  | [], p, h => by simp [textR] at h
  | [c], p, h => by
    by_cases hc : c.toNat = 39
    · rw [textR_last hc] at h; cases h; simp
    · rw [textR_other hc] at h; simp [textR] at h
  | c :: d :: q, p, h => by
    by_cases hc : c.toNat = 39
    · by_cases hd : d.toNat = 39
      · rw [textR_two hc hd] at h
        cases hq : textR q with
        | none => rw [hq] at h; simp at h
        | some x =>
          rw [hq] at h
          have := textR_le q x hq
          simp at h
          rw [← h]
          simp
          omega
      · rw [textR_close hc hd] at h; cases h; simp
    · rw [textR_other hc] at h
      cases hq : textR (d :: q) with
      | none => rw [hq] at h; simp at h
      | some x =>
        rw [hq] at h
        have := textR_le (d :: q) x hq
        simp at h
        rw [← h]
        simp at this ⊢
        omega
theorem textT_le (t : List UInt8) : (textT t).2 ≤ t.length := by
  cases t with
  | nil => exact Nat.le_refl _
  | cons c r =>
    unfold textT
    dsimp only
    split
    · cases hr : textR r with
      | none => exact Nat.zero_le _
      | some p => have := textR_le r p hr; simp; exact this
    · exact Nat.zero_le _
theorem oneT_le (t : List UInt8) : (oneT t).2 ≤ t.length := by
  unfold oneT
  split
  · exact wordN_le t
  · split
    · exact numT_le t
    · split
      · exact textT_le t
      · cases t with
        | nil => exact Nat.le_refl _
        | cons c r => dsimp only; split <;> simp
theorem oneT_lt (t : List UInt8) : (oneT t).1.n < 18446744073709551616 := by
  unfold oneT
  split
  · exact (by decide : (0 : Nat) < 18446744073709551616)
  · split
    · exact numT_lt t
    · split
      · exact (by decide : (0 : Nat) < 18446744073709551616)
      · cases t with
        | nil => exact (by decide : (0 : Nat) < 18446744073709551616)
        | cons c r => dsimp only; split <;> exact (by decide : (0 : Nat) < 18446744073709551616)
def passTo (t : List UInt8) (i : Nat) : Nat := i + passM false (t.drop i)
theorem passTo_le {t : List UInt8} {i : Nat} (h : i ≤ t.length) : passTo t i ≤ t.length := by
  unfold passTo
  have := passM_le false (t.drop i)
  rw [List.length_drop] at this
  omega
theorem passTo_ge (t : List UInt8) (i : Nat) : i ≤ passTo t i := Nat.le_add_right _ _
def tkAt (x : Tk) (i : Nat) : Tk := ⟨x.kind, x.s, x.n, x.neg, i⟩
/-- The tokens from a place on, the place where it ends, and whether that is the end. -/
def lexFrom (t : List UInt8) : Nat → Nat → List Tk × Nat × Bool
  | 0, i => ([], i, false)
  | f + 1, i => if i < t.length then (if (oneT (t.drop i)).2 = 0 then ([], i, false) else
      (tkAt (oneT (t.drop i)).1 i :: (lexFrom t f (passTo t (i + (oneT (t.drop i)).2))).1, (lexFrom t f (passTo t (i + (oneT (t.drop i)).2))).2)) else ([], i, true)
def lexS (t : List UInt8) : List Tk × Nat × Bool := lexFrom t (t.length + 1) (passTo t 0)
def lexT (t : List UInt8) (most : Int) : List Tk × Nat × Int :=
  if most < (t.length : Int) then ([], 0, 3) else if (lexS t).2.2 = true then ((lexS t).1 ++ [⟨0, [], 0, false, t.length⟩], t.length, 0) else ([], (lexS t).2.1, 2)
/-- So much was read. -/
structure LexAt (t : List UInt8) (acc : List Tk) (i : Nat) : Prop where
  all : lexS t = (acc ++ (lexFrom t (t.length + 1 - acc.length) i).1, (lexFrom t (t.length + 1 - acc.length) i).2)
  cnt : acc.length ≤ i
  le : i ≤ t.length
theorem lexAt_start (t : List UInt8) : LexAt t [] (passTo t 0) := ⟨rfl, Nat.zero_le _, passTo_le (Nat.zero_le _)⟩
section
variable {t : List UInt8} {acc : List Tk} {i : Nat}
theorem lexAt_fuel (h : LexAt t acc i) : t.length + 1 - acc.length = (t.length - acc.length) + 1 := by have := h.cnt; have := h.le; omega
theorem lex_ends (h : LexAt t acc i) (hi : ¬ i < t.length) : lexS t = (acc, i, true) := by
  have := h.all
  rw [lexAt_fuel h, lexFrom, if_neg hi, List.append_nil] at this
  exact this
theorem lex_fails (h : LexAt t acc i) (hi : i < t.length) (hz : (oneT (t.drop i)).2 = 0) : lexS t = (acc, i, false) := by
  have := h.all
  rw [lexAt_fuel h, lexFrom, if_pos hi, if_pos hz, List.append_nil] at this
  exact this
theorem lex_goes (h : LexAt t acc i) (hi : i < t.length) (hz : (oneT (t.drop i)).2 ≠ 0) : LexAt t (acc ++ [tkAt (oneT (t.drop i)).1 i]) (passTo t (i + (oneT (t.drop i)).2)) := by
  have ha := h.all
  rw [lexAt_fuel h, lexFrom, if_pos hi, if_neg hz] at ha
  have hle := oneT_le (t.drop i)
  rw [List.length_drop] at hle
  have hg := passTo_ge t (i + (oneT (t.drop i)).2)
  refine ⟨?_, by rw [List.length_append]; have := h.cnt; simp; omega, passTo_le (by omega)⟩
  rw [List.length_append, show t.length + 1 - (acc.length + [tkAt (oneT (t.drop i)).1 i].length) = t.length - acc.length by simp, List.append_assoc]
  exact ha
end

theorem tkCells_length (x : Tk) : (tkCells x).length = 5 := rfl
def tkRow (l : List Tk) : List Value := l.flatMap tkCells
theorem tkRow_length (l : List Tk) : (tkRow l).length = l.length * 5 := flat_length tkCells 5 tkCells_length l
theorem tkRow_snoc (l : List Tk) (x : Tk) : tkRow (l ++ [x]) = tkRow l ++ tkCells x := by simp [tkRow]
theorem tkCells_one (x : Tk) : ∀ u ∈ tkCells x, u.oneCell' = true := by
  intro u hu
  simp [tkCells] at hu
  rcases hu with rfl | rfl | rfl | rfl | rfl <;> rfl
/-- A slice that reads as these tokens. -/
structure Toks (w : World) (A : Option Addr) (cap : Nat) (l : List Tk) : Prop where
  le : l.length ≤ cap
  max : cap ≤ 9223372036854775807
  cells : ∀ (j : Nat) x, l[j]? = some x → ∃ g off, A = some ⟨g, off, none⟩ ∧ ∀ i u, (tkCells x)[i]? = some u → w.cell? ⟨g, off + j * 5 + i, none⟩ = some u
theorem toks_nil (w : World) (A : Option Addr) (cap : Nat) (h : cap ≤ 9223372036854775807) : Toks w A cap [] := ⟨Nat.zero_le _, h, fun j x hj => by simp at hj⟩
theorem toks_bel {w w' : World} {A : Option Addr} {cap : Nat} {l : List Tk} (h : Toks w A cap l) (hb : Below w.heap.size w w') : Toks w' A cap l :=
  ⟨h.le, h.max, fun j x hj => by
    obtain ⟨g, off, e, hc⟩ := h.cells j x hj
    refine ⟨g, off, e, fun i u hu => ?_⟩
    have h1 := hc i u hu
    exact (hb.cell (p := ⟨g, off + j * 5 + i, none⟩) (World.block_lt_of_cell? w _ h1)).trans h1⟩
/-- A row of the call's own reads so. -/
theorem toks_own {w : World} {base : Nat} {t : TypeId} {v : Value} {n : Nat} {l : List Tk} (h : w.ownsRow base t 5 v n (tkRow l)) : n = l.length ∧ ∃ A cap, v = .slice A l.length cap ∧ Toks w A cap l := by
  have hn : n = l.length := by have := h.1; rw [tkRow_length] at this; omega
  subst hn
  obtain ⟨A, cap, rfl, h1, h2, h3, _⟩ := own_form h
  refine ⟨rfl, A, cap, rfl, h1, by unfold maxLen at h2; omega, fun j x hj => ?_⟩
  have hjl := (List.getElem?_eq_some_iff.mp hj).1
  obtain ⟨g, cp, hv, _, _, _, _⟩ := own_pos h (by omega)
  injection hv with e1 e2 e3
  subst e1 e3
  refine ⟨g, 0, rfl, fun i u hu => ?_⟩
  have hi : i < 5 := by have := (List.getElem?_eq_some_iff.mp hu).1; rwa [tkCells_length] at this
  have hg : (tkRow l)[j * 5 + i]? = some u := by rw [Nat.mul_comm j 5]; exact (flat_get tkCells 5 tkCells_length l j x i hj hi).trans hu
  have := own_cell h (g := g) rfl hg
  rwa [Nat.zero_add]
end Go.Proofs.YtpbhokmpbcmdcaaGreatDoor
