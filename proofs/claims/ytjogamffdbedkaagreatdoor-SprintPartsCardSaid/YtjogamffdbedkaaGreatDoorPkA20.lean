/- Several texts in one: RiC, IwA, IwB, LexMath, LexNum, RiD, RiE, IdLaw, RlC, RlF, LexQu. What each proves, and its conditions, stands at its own head. -/
import Derived.Test.YtjogamffdbedkaaGreatDoorPkA2
import Derived.Test.YtjogamffdbedkaaGreatDoorPkA19
import Derived.Test.YtjogamffdbedkaaGreatDoorPkA4
import Derived.Test.YtjogamffdbedkaaGreatDoorPkA0
import Derived.IntWalk
import Derived.Test.YtjogamffdbedkaaGreatDoorChecked
import Derived.WalkKit
import Derived.RowKitTokens
import Derived.OwnWalk
import Derived.Deep.LoopGhost
/- The document's names: Letter, words, Right. Conditions: those that each theorem names. -/
namespace Go.Proofs.YtjogamffdbedkaaGreatDoor
open Go.RowKit
set_option linter.unusedVariables false
set_option maxRecDepth 100000

def letterB (c : UInt8) : Bool := (decide (97 ≤ c.toNat) && decide (c.toNat ≤ 122)) || (decide (65 ≤ c.toNat) && decide (c.toNat ≤ 90))
def charB (c : UInt8) : Bool := letterB c || (decide (48 ≤ c.toNat) && decide (c.toNat ≤ 57)) || decide (c.toNat = 95)
/-- The words that are no names. -/
def wordsL : List (List UInt8) := [[101, 110, 117, 109], [109, 101, 115, 115, 97, 103, 101], [111, 110, 101, 111, 102], [114, 101, 112, 101, 97, 116, 101, 100], [114, 101, 115, 101, 114, 118, 101, 100], [108, 111, 111, 115, 101], [105, 110, 116, 51, 50], [105, 110, 116, 54, 52], [117, 105, 110, 116, 51, 50], [117, 105, 110, 116, 54, 52], [115, 105, 110, 116, 51, 50], [115, 105, 110, 116, 54, 52], [98, 111, 111, 108], [102, 105, 120, 101, 100, 51, 50], [102, 105, 120, 101, 100, 54, 52], [115, 102, 105, 120, 101, 100, 51, 50], [115, 102, 105, 120, 101, 100, 54, 52], [115, 116, 114, 105, 110, 103], [98, 121, 116, 101, 115], [114, 101, 110, 97, 109, 101], [114, 101, 110, 117, 109, 98, 101, 114], [114, 101, 116, 121, 112, 101], [115, 112, 108, 105, 116], [106, 111, 105, 110], [119, 114, 97, 112], [117, 110, 119, 114, 97, 112], [97, 100, 100], [100, 114, 111, 112], [116, 111], [105, 110, 116, 111], [97, 115], [111, 102], [100, 101, 102, 97, 117, 108, 116], [116, 114, 117, 101], [102, 97, 108, 115, 101]]
theorem words_length : wordsL.length = 35 := by decide
def nameB (t : List UInt8) : Bool := decide (1 ≤ t.length) && decide (t.length ≤ 12) && (match t with | [] => false | c :: _ => letterB c) && t.all charB && !(wordsL.contains t)

theorem rletter_any (c : UInt8) (w : World) : Calls Tryz.prog 93 #[.int .u8 (c.toNat : Int)] w fun e w' => e = .returned (.bool (letterB c)) ∧ w = w' := by
  have HL : Hid (letterB c = ((decide (97 ≤ c.toNat) && decide (c.toNat ≤ 122)) || (decide (65 ≤ c.toNat) && decide (c.toNat ≤ 90)))) := Lib.hid rfl
  obtain ⟨n, hn⟩ : ∃ n, n = c.toNat := ⟨_, rfl⟩
  rw [← hn] at HL ⊢
  clear hn
  by_cases h1 : 97 ≤ n <;> by_cases h2 : n ≤ 122 <;> by_cases h3 : 65 ≤ n <;> by_cases h4 : n ≤ 90
  all_goals first
    | omega
    | (have g1 : decide ((97 : Int) ≤ (n : Int)) = decide (97 ≤ n) := decide_eq_decide.mpr (by omega)
       have g2 : decide ((n : Int) ≤ 122) = decide (n ≤ 122) := decide_eq_decide.mpr (by omega)
       have g3 : decide ((65 : Int) ≤ (n : Int)) = decide (65 ≤ n) := decide_eq_decide.mpr (by omega)
       have g4 : decide ((n : Int) ≤ 90) = decide (n ≤ 90) := decide_eq_decide.mpr (by omega)
       simp only [h1, h2, h3, h4, decide_true, decide_false] at g1 g2 g3 g4 HL
       go_enter Tryz.func93, Tryz.ntmps93
       go_wp2
       go_ret
       exact ⟨ret_bool' HL.out.symm, rfl⟩)
theorem rwords_any (w : World) : Calls Tryz.prog 94 #[] w fun e w' => e = .returned (.slice (some ⟨w.heap.size, 0, none⟩) 35 35) ∧ w' = w.alloc (.cells (txts wordsL).toArray 9) := by
  go_enter Tryz.func94, Tryz.ntmps94
  go_wp2
  go_ret
  exact ⟨rfl, rfl⟩
end Go.Proofs.YtjogamffdbedkaaGreatDoor

/- The program's layer 9: letter, digit. Conditions: those that each theorem names. -/
namespace Go.Proofs.YtjogamffdbedkaaGreatDoor
open Go.RowKit
set_option linter.unusedVariables false
set_option maxRecDepth 100000

def letterN (n : Nat) : Bool := (decide (97 ≤ n) && decide (n ≤ 122)) || (decide (65 ≤ n) && decide (n ≤ 90))
def digitN (n : Nat) : Bool := decide (48 ≤ n) && decide (n ≤ 57)
theorem pletter_any (n : Nat) (hr : n ≤ 2147483647) (w : World) : Calls Tryz.prog 114 #[.int .i32 (n : Int)] w fun e w' => e = .returned (.bool (letterN n)) ∧ w = w' := by
  have HL : Hid (letterN n = ((decide (97 ≤ n) && decide (n ≤ 122)) || (decide (65 ≤ n) && decide (n ≤ 90)))) := Lib.hid rfl
  by_cases h1 : 97 ≤ n <;> by_cases h2 : n ≤ 122 <;> by_cases h3 : 65 ≤ n <;> by_cases h4 : n ≤ 90
  all_goals first
    | omega
    | (have g1 : decide ((97 : Int) ≤ (n : Int)) = decide (97 ≤ n) := decide_eq_decide.mpr (by omega)
       have g2 : decide ((n : Int) ≤ 122) = decide (n ≤ 122) := decide_eq_decide.mpr (by omega)
       have g3 : decide ((65 : Int) ≤ (n : Int)) = decide (65 ≤ n) := decide_eq_decide.mpr (by omega)
       have g4 : decide ((n : Int) ≤ 90) = decide (n ≤ 90) := decide_eq_decide.mpr (by omega)
       simp only [h1, h2, h3, h4, decide_true, decide_false] at g1 g2 g3 g4 HL
       clear hr
       go_enter Tryz.func114, Tryz.ntmps114
       go_wp2
       go_ret
       exact ⟨ret_bool' HL.out.symm, rfl⟩)
theorem pdigit_any (n : Nat) (hr : n ≤ 2147483647) (w : World) : Calls Tryz.prog 115 #[.int .i32 (n : Int)] w fun e w' => e = .returned (.bool (digitN n)) ∧ w = w' := by
  have HL : Hid (digitN n = (decide (48 ≤ n) && decide (n ≤ 57))) := Lib.hid rfl
  by_cases h1 : 48 ≤ n <;> by_cases h2 : n ≤ 57
  all_goals first
    | omega
    | (have g1 : decide ((48 : Int) ≤ (n : Int)) = decide (48 ≤ n) := decide_eq_decide.mpr (by omega)
       have g2 : decide ((n : Int) ≤ 57) = decide (n ≤ 57) := decide_eq_decide.mpr (by omega)
       simp only [h1, h2, decide_true, decide_false] at g1 g2 HL
       clear hr
       go_enter Tryz.func115, Tryz.ntmps115
       go_wp2
       go_ret
       exact ⟨ret_bool' HL.out.symm, rfl⟩)
end Go.Proofs.YtjogamffdbedkaaGreatDoor

/- The program's layer 9: word. Conditions: those that each theorem names. -/
namespace Go.Proofs.YtjogamffdbedkaaGreatDoor
open Go.RowKit
set_option linter.unusedVariables false
set_option maxRecDepth 100000

theorem pword_0 (w : World) : Calls Tryz.prog 113 #[.string (strOf [101, 110, 117, 109])] w fun e w' => e = .returned (.bool true) ∧ w = w' := by
  obtain ⟨str, hstr⟩ : ∃ str, str = strOf [101, 110, 117, 109] := ⟨_, rfl⟩
  have hl : str.toList = [101, 110, 117, 109] := by rw [hstr, str_list]
  rw [← hstr]
  have b0 : (str.toList == [101, 110, 117, 109]) = true := by rw [hl]; decide
  clear hl hstr
  go_enter Tryz.func113, Tryz.ntmps113
  go_wp2
  go_ret
  exact ⟨rfl, rfl⟩
theorem pword_1 (w : World) : Calls Tryz.prog 113 #[.string (strOf [109, 101, 115, 115, 97, 103, 101])] w fun e w' => e = .returned (.bool true) ∧ w = w' := by
  obtain ⟨str, hstr⟩ : ∃ str, str = strOf [109, 101, 115, 115, 97, 103, 101] := ⟨_, rfl⟩
  have hl : str.toList = [109, 101, 115, 115, 97, 103, 101] := by rw [hstr, str_list]
  rw [← hstr]
  have b0 : (str.toList == [101, 110, 117, 109]) = false := by rw [hl]; decide
  have b1 : (str.toList == [109, 101, 115, 115, 97, 103, 101]) = true := by rw [hl]; decide
  clear hl hstr
  go_enter Tryz.func113, Tryz.ntmps113
  go_wp2
  go_ret
  exact ⟨rfl, rfl⟩
theorem pword_2 (w : World) : Calls Tryz.prog 113 #[.string (strOf [111, 110, 101, 111, 102])] w fun e w' => e = .returned (.bool true) ∧ w = w' := by
  obtain ⟨str, hstr⟩ : ∃ str, str = strOf [111, 110, 101, 111, 102] := ⟨_, rfl⟩
  have hl : str.toList = [111, 110, 101, 111, 102] := by rw [hstr, str_list]
  rw [← hstr]
  have b0 : (str.toList == [101, 110, 117, 109]) = false := by rw [hl]; decide
  have b1 : (str.toList == [109, 101, 115, 115, 97, 103, 101]) = false := by rw [hl]; decide
  have b2 : (str.toList == [111, 110, 101, 111, 102]) = true := by rw [hl]; decide
  clear hl hstr
  go_enter Tryz.func113, Tryz.ntmps113
  go_wp2
  go_ret
  exact ⟨rfl, rfl⟩
theorem pword_3 (w : World) : Calls Tryz.prog 113 #[.string (strOf [114, 101, 112, 101, 97, 116, 101, 100])] w fun e w' => e = .returned (.bool true) ∧ w = w' := by
  obtain ⟨str, hstr⟩ : ∃ str, str = strOf [114, 101, 112, 101, 97, 116, 101, 100] := ⟨_, rfl⟩
  have hl : str.toList = [114, 101, 112, 101, 97, 116, 101, 100] := by rw [hstr, str_list]
  rw [← hstr]
  have b0 : (str.toList == [101, 110, 117, 109]) = false := by rw [hl]; decide
  have b1 : (str.toList == [109, 101, 115, 115, 97, 103, 101]) = false := by rw [hl]; decide
  have b2 : (str.toList == [111, 110, 101, 111, 102]) = false := by rw [hl]; decide
  have b3 : (str.toList == [114, 101, 112, 101, 97, 116, 101, 100]) = true := by rw [hl]; decide
  clear hl hstr
  go_enter Tryz.func113, Tryz.ntmps113
  go_wp2
  go_ret
  exact ⟨rfl, rfl⟩
theorem pword_4 (w : World) : Calls Tryz.prog 113 #[.string (strOf [114, 101, 115, 101, 114, 118, 101, 100])] w fun e w' => e = .returned (.bool true) ∧ w = w' := by
  obtain ⟨str, hstr⟩ : ∃ str, str = strOf [114, 101, 115, 101, 114, 118, 101, 100] := ⟨_, rfl⟩
  have hl : str.toList = [114, 101, 115, 101, 114, 118, 101, 100] := by rw [hstr, str_list]
  rw [← hstr]
  have b0 : (str.toList == [101, 110, 117, 109]) = false := by rw [hl]; decide
  have b1 : (str.toList == [109, 101, 115, 115, 97, 103, 101]) = false := by rw [hl]; decide
  have b2 : (str.toList == [111, 110, 101, 111, 102]) = false := by rw [hl]; decide
  have b3 : (str.toList == [114, 101, 112, 101, 97, 116, 101, 100]) = false := by rw [hl]; decide
  have b4 : (str.toList == [114, 101, 115, 101, 114, 118, 101, 100]) = true := by rw [hl]; decide
  clear hl hstr
  go_enter Tryz.func113, Tryz.ntmps113
  go_wp2
  go_ret
  exact ⟨rfl, rfl⟩
theorem pword_5 (w : World) : Calls Tryz.prog 113 #[.string (strOf [108, 111, 111, 115, 101])] w fun e w' => e = .returned (.bool true) ∧ w = w' := by
  obtain ⟨str, hstr⟩ : ∃ str, str = strOf [108, 111, 111, 115, 101] := ⟨_, rfl⟩
  have hl : str.toList = [108, 111, 111, 115, 101] := by rw [hstr, str_list]
  rw [← hstr]
  have b0 : (str.toList == [101, 110, 117, 109]) = false := by rw [hl]; decide
  have b1 : (str.toList == [109, 101, 115, 115, 97, 103, 101]) = false := by rw [hl]; decide
  have b2 : (str.toList == [111, 110, 101, 111, 102]) = false := by rw [hl]; decide
  have b3 : (str.toList == [114, 101, 112, 101, 97, 116, 101, 100]) = false := by rw [hl]; decide
  have b4 : (str.toList == [114, 101, 115, 101, 114, 118, 101, 100]) = false := by rw [hl]; decide
  have b5 : (str.toList == [108, 111, 111, 115, 101]) = true := by rw [hl]; decide
  clear hl hstr
  go_enter Tryz.func113, Tryz.ntmps113
  go_wp2
  go_ret
  exact ⟨rfl, rfl⟩
theorem pword_6 (w : World) : Calls Tryz.prog 113 #[.string (strOf [105, 110, 116, 51, 50])] w fun e w' => e = .returned (.bool true) ∧ w = w' := by
  obtain ⟨str, hstr⟩ : ∃ str, str = strOf [105, 110, 116, 51, 50] := ⟨_, rfl⟩
  have hl : str.toList = [105, 110, 116, 51, 50] := by rw [hstr, str_list]
  rw [← hstr]
  have b0 : (str.toList == [101, 110, 117, 109]) = false := by rw [hl]; decide
  have b1 : (str.toList == [109, 101, 115, 115, 97, 103, 101]) = false := by rw [hl]; decide
  have b2 : (str.toList == [111, 110, 101, 111, 102]) = false := by rw [hl]; decide
  have b3 : (str.toList == [114, 101, 112, 101, 97, 116, 101, 100]) = false := by rw [hl]; decide
  have b4 : (str.toList == [114, 101, 115, 101, 114, 118, 101, 100]) = false := by rw [hl]; decide
  have b5 : (str.toList == [108, 111, 111, 115, 101]) = false := by rw [hl]; decide
  have b6 : (str.toList == [105, 110, 116, 51, 50]) = true := by rw [hl]; decide
  clear hl hstr
  go_enter Tryz.func113, Tryz.ntmps113
  go_wp2
  go_ret
  exact ⟨rfl, rfl⟩
theorem pword_7 (w : World) : Calls Tryz.prog 113 #[.string (strOf [105, 110, 116, 54, 52])] w fun e w' => e = .returned (.bool true) ∧ w = w' := by
  obtain ⟨str, hstr⟩ : ∃ str, str = strOf [105, 110, 116, 54, 52] := ⟨_, rfl⟩
  have hl : str.toList = [105, 110, 116, 54, 52] := by rw [hstr, str_list]
  rw [← hstr]
  have b0 : (str.toList == [101, 110, 117, 109]) = false := by rw [hl]; decide
  have b1 : (str.toList == [109, 101, 115, 115, 97, 103, 101]) = false := by rw [hl]; decide
  have b2 : (str.toList == [111, 110, 101, 111, 102]) = false := by rw [hl]; decide
  have b3 : (str.toList == [114, 101, 112, 101, 97, 116, 101, 100]) = false := by rw [hl]; decide
  have b4 : (str.toList == [114, 101, 115, 101, 114, 118, 101, 100]) = false := by rw [hl]; decide
  have b5 : (str.toList == [108, 111, 111, 115, 101]) = false := by rw [hl]; decide
  have b6 : (str.toList == [105, 110, 116, 51, 50]) = false := by rw [hl]; decide
  have b7 : (str.toList == [105, 110, 116, 54, 52]) = true := by rw [hl]; decide
  clear hl hstr
  go_enter Tryz.func113, Tryz.ntmps113
  go_wp2
  go_ret
  exact ⟨rfl, rfl⟩
theorem pword_8 (w : World) : Calls Tryz.prog 113 #[.string (strOf [117, 105, 110, 116, 51, 50])] w fun e w' => e = .returned (.bool true) ∧ w = w' := by
  obtain ⟨str, hstr⟩ : ∃ str, str = strOf [117, 105, 110, 116, 51, 50] := ⟨_, rfl⟩
  have hl : str.toList = [117, 105, 110, 116, 51, 50] := by rw [hstr, str_list]
  rw [← hstr]
  have b0 : (str.toList == [101, 110, 117, 109]) = false := by rw [hl]; decide
  have b1 : (str.toList == [109, 101, 115, 115, 97, 103, 101]) = false := by rw [hl]; decide
  have b2 : (str.toList == [111, 110, 101, 111, 102]) = false := by rw [hl]; decide
  have b3 : (str.toList == [114, 101, 112, 101, 97, 116, 101, 100]) = false := by rw [hl]; decide
  have b4 : (str.toList == [114, 101, 115, 101, 114, 118, 101, 100]) = false := by rw [hl]; decide
  have b5 : (str.toList == [108, 111, 111, 115, 101]) = false := by rw [hl]; decide
  have b6 : (str.toList == [105, 110, 116, 51, 50]) = false := by rw [hl]; decide
  have b7 : (str.toList == [105, 110, 116, 54, 52]) = false := by rw [hl]; decide
  have b8 : (str.toList == [117, 105, 110, 116, 51, 50]) = true := by rw [hl]; decide
  clear hl hstr
  go_enter Tryz.func113, Tryz.ntmps113
  go_wp2
  go_ret
  exact ⟨rfl, rfl⟩
theorem pword_9 (w : World) : Calls Tryz.prog 113 #[.string (strOf [117, 105, 110, 116, 54, 52])] w fun e w' => e = .returned (.bool true) ∧ w = w' := by
  obtain ⟨str, hstr⟩ : ∃ str, str = strOf [117, 105, 110, 116, 54, 52] := ⟨_, rfl⟩
  have hl : str.toList = [117, 105, 110, 116, 54, 52] := by rw [hstr, str_list]
  rw [← hstr]
  have b0 : (str.toList == [101, 110, 117, 109]) = false := by rw [hl]; decide
  have b1 : (str.toList == [109, 101, 115, 115, 97, 103, 101]) = false := by rw [hl]; decide
  have b2 : (str.toList == [111, 110, 101, 111, 102]) = false := by rw [hl]; decide
  have b3 : (str.toList == [114, 101, 112, 101, 97, 116, 101, 100]) = false := by rw [hl]; decide
  have b4 : (str.toList == [114, 101, 115, 101, 114, 118, 101, 100]) = false := by rw [hl]; decide
  have b5 : (str.toList == [108, 111, 111, 115, 101]) = false := by rw [hl]; decide
  have b6 : (str.toList == [105, 110, 116, 51, 50]) = false := by rw [hl]; decide
  have b7 : (str.toList == [105, 110, 116, 54, 52]) = false := by rw [hl]; decide
  have b8 : (str.toList == [117, 105, 110, 116, 51, 50]) = false := by rw [hl]; decide
  have b9 : (str.toList == [117, 105, 110, 116, 54, 52]) = true := by rw [hl]; decide
  clear hl hstr
  go_enter Tryz.func113, Tryz.ntmps113
  go_wp2
  go_ret
  exact ⟨rfl, rfl⟩
theorem pword_10 (w : World) : Calls Tryz.prog 113 #[.string (strOf [115, 105, 110, 116, 51, 50])] w fun e w' => e = .returned (.bool true) ∧ w = w' := by
  obtain ⟨str, hstr⟩ : ∃ str, str = strOf [115, 105, 110, 116, 51, 50] := ⟨_, rfl⟩
  have hl : str.toList = [115, 105, 110, 116, 51, 50] := by rw [hstr, str_list]
  rw [← hstr]
  have b0 : (str.toList == [101, 110, 117, 109]) = false := by rw [hl]; decide
  have b1 : (str.toList == [109, 101, 115, 115, 97, 103, 101]) = false := by rw [hl]; decide
  have b2 : (str.toList == [111, 110, 101, 111, 102]) = false := by rw [hl]; decide
  have b3 : (str.toList == [114, 101, 112, 101, 97, 116, 101, 100]) = false := by rw [hl]; decide
  have b4 : (str.toList == [114, 101, 115, 101, 114, 118, 101, 100]) = false := by rw [hl]; decide
  have b5 : (str.toList == [108, 111, 111, 115, 101]) = false := by rw [hl]; decide
  have b6 : (str.toList == [105, 110, 116, 51, 50]) = false := by rw [hl]; decide
  have b7 : (str.toList == [105, 110, 116, 54, 52]) = false := by rw [hl]; decide
  have b8 : (str.toList == [117, 105, 110, 116, 51, 50]) = false := by rw [hl]; decide
  have b9 : (str.toList == [117, 105, 110, 116, 54, 52]) = false := by rw [hl]; decide
  have b10 : (str.toList == [115, 105, 110, 116, 51, 50]) = true := by rw [hl]; decide
  clear hl hstr
  go_enter Tryz.func113, Tryz.ntmps113
  go_wp2
  go_ret
  exact ⟨rfl, rfl⟩
theorem pword_11 (w : World) : Calls Tryz.prog 113 #[.string (strOf [115, 105, 110, 116, 54, 52])] w fun e w' => e = .returned (.bool true) ∧ w = w' := by
  obtain ⟨str, hstr⟩ : ∃ str, str = strOf [115, 105, 110, 116, 54, 52] := ⟨_, rfl⟩
  have hl : str.toList = [115, 105, 110, 116, 54, 52] := by rw [hstr, str_list]
  rw [← hstr]
  have b0 : (str.toList == [101, 110, 117, 109]) = false := by rw [hl]; decide
  have b1 : (str.toList == [109, 101, 115, 115, 97, 103, 101]) = false := by rw [hl]; decide
  have b2 : (str.toList == [111, 110, 101, 111, 102]) = false := by rw [hl]; decide
  have b3 : (str.toList == [114, 101, 112, 101, 97, 116, 101, 100]) = false := by rw [hl]; decide
  have b4 : (str.toList == [114, 101, 115, 101, 114, 118, 101, 100]) = false := by rw [hl]; decide
  have b5 : (str.toList == [108, 111, 111, 115, 101]) = false := by rw [hl]; decide
  have b6 : (str.toList == [105, 110, 116, 51, 50]) = false := by rw [hl]; decide
  have b7 : (str.toList == [105, 110, 116, 54, 52]) = false := by rw [hl]; decide
  have b8 : (str.toList == [117, 105, 110, 116, 51, 50]) = false := by rw [hl]; decide
  have b9 : (str.toList == [117, 105, 110, 116, 54, 52]) = false := by rw [hl]; decide
  have b10 : (str.toList == [115, 105, 110, 116, 51, 50]) = false := by rw [hl]; decide
  have b11 : (str.toList == [115, 105, 110, 116, 54, 52]) = true := by rw [hl]; decide
  clear hl hstr
  go_enter Tryz.func113, Tryz.ntmps113
  go_wp2
  go_ret
  exact ⟨rfl, rfl⟩
theorem pword_12 (w : World) : Calls Tryz.prog 113 #[.string (strOf [98, 111, 111, 108])] w fun e w' => e = .returned (.bool true) ∧ w = w' := by
  obtain ⟨str, hstr⟩ : ∃ str, str = strOf [98, 111, 111, 108] := ⟨_, rfl⟩
  have hl : str.toList = [98, 111, 111, 108] := by rw [hstr, str_list]
  rw [← hstr]
  have b0 : (str.toList == [101, 110, 117, 109]) = false := by rw [hl]; decide
  have b1 : (str.toList == [109, 101, 115, 115, 97, 103, 101]) = false := by rw [hl]; decide
  have b2 : (str.toList == [111, 110, 101, 111, 102]) = false := by rw [hl]; decide
  have b3 : (str.toList == [114, 101, 112, 101, 97, 116, 101, 100]) = false := by rw [hl]; decide
  have b4 : (str.toList == [114, 101, 115, 101, 114, 118, 101, 100]) = false := by rw [hl]; decide
  have b5 : (str.toList == [108, 111, 111, 115, 101]) = false := by rw [hl]; decide
  have b6 : (str.toList == [105, 110, 116, 51, 50]) = false := by rw [hl]; decide
  have b7 : (str.toList == [105, 110, 116, 54, 52]) = false := by rw [hl]; decide
  have b8 : (str.toList == [117, 105, 110, 116, 51, 50]) = false := by rw [hl]; decide
  have b9 : (str.toList == [117, 105, 110, 116, 54, 52]) = false := by rw [hl]; decide
  have b10 : (str.toList == [115, 105, 110, 116, 51, 50]) = false := by rw [hl]; decide
  have b11 : (str.toList == [115, 105, 110, 116, 54, 52]) = false := by rw [hl]; decide
  have b12 : (str.toList == [98, 111, 111, 108]) = true := by rw [hl]; decide
  clear hl hstr
  go_enter Tryz.func113, Tryz.ntmps113
  go_wp2
  go_ret
  exact ⟨rfl, rfl⟩
theorem pword_13 (w : World) : Calls Tryz.prog 113 #[.string (strOf [102, 105, 120, 101, 100, 51, 50])] w fun e w' => e = .returned (.bool true) ∧ w = w' := by
  obtain ⟨str, hstr⟩ : ∃ str, str = strOf [102, 105, 120, 101, 100, 51, 50] := ⟨_, rfl⟩
  have hl : str.toList = [102, 105, 120, 101, 100, 51, 50] := by rw [hstr, str_list]
  rw [← hstr]
  have b0 : (str.toList == [101, 110, 117, 109]) = false := by rw [hl]; decide
  have b1 : (str.toList == [109, 101, 115, 115, 97, 103, 101]) = false := by rw [hl]; decide
  have b2 : (str.toList == [111, 110, 101, 111, 102]) = false := by rw [hl]; decide
  have b3 : (str.toList == [114, 101, 112, 101, 97, 116, 101, 100]) = false := by rw [hl]; decide
  have b4 : (str.toList == [114, 101, 115, 101, 114, 118, 101, 100]) = false := by rw [hl]; decide
  have b5 : (str.toList == [108, 111, 111, 115, 101]) = false := by rw [hl]; decide
  have b6 : (str.toList == [105, 110, 116, 51, 50]) = false := by rw [hl]; decide
  have b7 : (str.toList == [105, 110, 116, 54, 52]) = false := by rw [hl]; decide
  have b8 : (str.toList == [117, 105, 110, 116, 51, 50]) = false := by rw [hl]; decide
  have b9 : (str.toList == [117, 105, 110, 116, 54, 52]) = false := by rw [hl]; decide
  have b10 : (str.toList == [115, 105, 110, 116, 51, 50]) = false := by rw [hl]; decide
  have b11 : (str.toList == [115, 105, 110, 116, 54, 52]) = false := by rw [hl]; decide
  have b12 : (str.toList == [98, 111, 111, 108]) = false := by rw [hl]; decide
  have b13 : (str.toList == [102, 105, 120, 101, 100, 51, 50]) = true := by rw [hl]; decide
  clear hl hstr
  go_enter Tryz.func113, Tryz.ntmps113
  go_wp2
  go_ret
  exact ⟨rfl, rfl⟩
theorem pword_14 (w : World) : Calls Tryz.prog 113 #[.string (strOf [102, 105, 120, 101, 100, 54, 52])] w fun e w' => e = .returned (.bool true) ∧ w = w' := by
  obtain ⟨str, hstr⟩ : ∃ str, str = strOf [102, 105, 120, 101, 100, 54, 52] := ⟨_, rfl⟩
  have hl : str.toList = [102, 105, 120, 101, 100, 54, 52] := by rw [hstr, str_list]
  rw [← hstr]
  have b0 : (str.toList == [101, 110, 117, 109]) = false := by rw [hl]; decide
  have b1 : (str.toList == [109, 101, 115, 115, 97, 103, 101]) = false := by rw [hl]; decide
  have b2 : (str.toList == [111, 110, 101, 111, 102]) = false := by rw [hl]; decide
  have b3 : (str.toList == [114, 101, 112, 101, 97, 116, 101, 100]) = false := by rw [hl]; decide
  have b4 : (str.toList == [114, 101, 115, 101, 114, 118, 101, 100]) = false := by rw [hl]; decide
  have b5 : (str.toList == [108, 111, 111, 115, 101]) = false := by rw [hl]; decide
  have b6 : (str.toList == [105, 110, 116, 51, 50]) = false := by rw [hl]; decide
  have b7 : (str.toList == [105, 110, 116, 54, 52]) = false := by rw [hl]; decide
  have b8 : (str.toList == [117, 105, 110, 116, 51, 50]) = false := by rw [hl]; decide
  have b9 : (str.toList == [117, 105, 110, 116, 54, 52]) = false := by rw [hl]; decide
  have b10 : (str.toList == [115, 105, 110, 116, 51, 50]) = false := by rw [hl]; decide
  have b11 : (str.toList == [115, 105, 110, 116, 54, 52]) = false := by rw [hl]; decide
  have b12 : (str.toList == [98, 111, 111, 108]) = false := by rw [hl]; decide
  have b13 : (str.toList == [102, 105, 120, 101, 100, 51, 50]) = false := by rw [hl]; decide
  have b14 : (str.toList == [102, 105, 120, 101, 100, 54, 52]) = true := by rw [hl]; decide
  clear hl hstr
  go_enter Tryz.func113, Tryz.ntmps113
  go_wp2
  go_ret
  exact ⟨rfl, rfl⟩
theorem pword_15 (w : World) : Calls Tryz.prog 113 #[.string (strOf [115, 102, 105, 120, 101, 100, 51, 50])] w fun e w' => e = .returned (.bool true) ∧ w = w' := by
  obtain ⟨str, hstr⟩ : ∃ str, str = strOf [115, 102, 105, 120, 101, 100, 51, 50] := ⟨_, rfl⟩
  have hl : str.toList = [115, 102, 105, 120, 101, 100, 51, 50] := by rw [hstr, str_list]
  rw [← hstr]
  have b0 : (str.toList == [101, 110, 117, 109]) = false := by rw [hl]; decide
  have b1 : (str.toList == [109, 101, 115, 115, 97, 103, 101]) = false := by rw [hl]; decide
  have b2 : (str.toList == [111, 110, 101, 111, 102]) = false := by rw [hl]; decide
  have b3 : (str.toList == [114, 101, 112, 101, 97, 116, 101, 100]) = false := by rw [hl]; decide
  have b4 : (str.toList == [114, 101, 115, 101, 114, 118, 101, 100]) = false := by rw [hl]; decide
  have b5 : (str.toList == [108, 111, 111, 115, 101]) = false := by rw [hl]; decide
  have b6 : (str.toList == [105, 110, 116, 51, 50]) = false := by rw [hl]; decide
  have b7 : (str.toList == [105, 110, 116, 54, 52]) = false := by rw [hl]; decide
  have b8 : (str.toList == [117, 105, 110, 116, 51, 50]) = false := by rw [hl]; decide
  have b9 : (str.toList == [117, 105, 110, 116, 54, 52]) = false := by rw [hl]; decide
  have b10 : (str.toList == [115, 105, 110, 116, 51, 50]) = false := by rw [hl]; decide
  have b11 : (str.toList == [115, 105, 110, 116, 54, 52]) = false := by rw [hl]; decide
  have b12 : (str.toList == [98, 111, 111, 108]) = false := by rw [hl]; decide
  have b13 : (str.toList == [102, 105, 120, 101, 100, 51, 50]) = false := by rw [hl]; decide
  have b14 : (str.toList == [102, 105, 120, 101, 100, 54, 52]) = false := by rw [hl]; decide
  have b15 : (str.toList == [115, 102, 105, 120, 101, 100, 51, 50]) = true := by rw [hl]; decide
  clear hl hstr
  go_enter Tryz.func113, Tryz.ntmps113
  go_wp2
  go_ret
  exact ⟨rfl, rfl⟩
theorem pword_16 (w : World) : Calls Tryz.prog 113 #[.string (strOf [115, 102, 105, 120, 101, 100, 54, 52])] w fun e w' => e = .returned (.bool true) ∧ w = w' := by
  obtain ⟨str, hstr⟩ : ∃ str, str = strOf [115, 102, 105, 120, 101, 100, 54, 52] := ⟨_, rfl⟩
  have hl : str.toList = [115, 102, 105, 120, 101, 100, 54, 52] := by rw [hstr, str_list]
  rw [← hstr]
  have b0 : (str.toList == [101, 110, 117, 109]) = false := by rw [hl]; decide
  have b1 : (str.toList == [109, 101, 115, 115, 97, 103, 101]) = false := by rw [hl]; decide
  have b2 : (str.toList == [111, 110, 101, 111, 102]) = false := by rw [hl]; decide
  have b3 : (str.toList == [114, 101, 112, 101, 97, 116, 101, 100]) = false := by rw [hl]; decide
  have b4 : (str.toList == [114, 101, 115, 101, 114, 118, 101, 100]) = false := by rw [hl]; decide
  have b5 : (str.toList == [108, 111, 111, 115, 101]) = false := by rw [hl]; decide
  have b6 : (str.toList == [105, 110, 116, 51, 50]) = false := by rw [hl]; decide
  have b7 : (str.toList == [105, 110, 116, 54, 52]) = false := by rw [hl]; decide
  have b8 : (str.toList == [117, 105, 110, 116, 51, 50]) = false := by rw [hl]; decide
  have b9 : (str.toList == [117, 105, 110, 116, 54, 52]) = false := by rw [hl]; decide
  have b10 : (str.toList == [115, 105, 110, 116, 51, 50]) = false := by rw [hl]; decide
  have b11 : (str.toList == [115, 105, 110, 116, 54, 52]) = false := by rw [hl]; decide
  have b12 : (str.toList == [98, 111, 111, 108]) = false := by rw [hl]; decide
  have b13 : (str.toList == [102, 105, 120, 101, 100, 51, 50]) = false := by rw [hl]; decide
  have b14 : (str.toList == [102, 105, 120, 101, 100, 54, 52]) = false := by rw [hl]; decide
  have b15 : (str.toList == [115, 102, 105, 120, 101, 100, 51, 50]) = false := by rw [hl]; decide
  have b16 : (str.toList == [115, 102, 105, 120, 101, 100, 54, 52]) = true := by rw [hl]; decide
  clear hl hstr
  go_enter Tryz.func113, Tryz.ntmps113
  go_wp2
  go_ret
  exact ⟨rfl, rfl⟩
theorem pword_17 (w : World) : Calls Tryz.prog 113 #[.string (strOf [115, 116, 114, 105, 110, 103])] w fun e w' => e = .returned (.bool true) ∧ w = w' := by
  obtain ⟨str, hstr⟩ : ∃ str, str = strOf [115, 116, 114, 105, 110, 103] := ⟨_, rfl⟩
  have hl : str.toList = [115, 116, 114, 105, 110, 103] := by rw [hstr, str_list]
  rw [← hstr]
  have b0 : (str.toList == [101, 110, 117, 109]) = false := by rw [hl]; decide
  have b1 : (str.toList == [109, 101, 115, 115, 97, 103, 101]) = false := by rw [hl]; decide
  have b2 : (str.toList == [111, 110, 101, 111, 102]) = false := by rw [hl]; decide
  have b3 : (str.toList == [114, 101, 112, 101, 97, 116, 101, 100]) = false := by rw [hl]; decide
  have b4 : (str.toList == [114, 101, 115, 101, 114, 118, 101, 100]) = false := by rw [hl]; decide
  have b5 : (str.toList == [108, 111, 111, 115, 101]) = false := by rw [hl]; decide
  have b6 : (str.toList == [105, 110, 116, 51, 50]) = false := by rw [hl]; decide
  have b7 : (str.toList == [105, 110, 116, 54, 52]) = false := by rw [hl]; decide
  have b8 : (str.toList == [117, 105, 110, 116, 51, 50]) = false := by rw [hl]; decide
  have b9 : (str.toList == [117, 105, 110, 116, 54, 52]) = false := by rw [hl]; decide
  have b10 : (str.toList == [115, 105, 110, 116, 51, 50]) = false := by rw [hl]; decide
  have b11 : (str.toList == [115, 105, 110, 116, 54, 52]) = false := by rw [hl]; decide
  have b12 : (str.toList == [98, 111, 111, 108]) = false := by rw [hl]; decide
  have b13 : (str.toList == [102, 105, 120, 101, 100, 51, 50]) = false := by rw [hl]; decide
  have b14 : (str.toList == [102, 105, 120, 101, 100, 54, 52]) = false := by rw [hl]; decide
  have b15 : (str.toList == [115, 102, 105, 120, 101, 100, 51, 50]) = false := by rw [hl]; decide
  have b16 : (str.toList == [115, 102, 105, 120, 101, 100, 54, 52]) = false := by rw [hl]; decide
  have b17 : (str.toList == [115, 116, 114, 105, 110, 103]) = true := by rw [hl]; decide
  clear hl hstr
  go_enter Tryz.func113, Tryz.ntmps113
  go_wp2
  go_ret
  exact ⟨rfl, rfl⟩
theorem pword_18 (w : World) : Calls Tryz.prog 113 #[.string (strOf [98, 121, 116, 101, 115])] w fun e w' => e = .returned (.bool true) ∧ w = w' := by
  obtain ⟨str, hstr⟩ : ∃ str, str = strOf [98, 121, 116, 101, 115] := ⟨_, rfl⟩
  have hl : str.toList = [98, 121, 116, 101, 115] := by rw [hstr, str_list]
  rw [← hstr]
  have b0 : (str.toList == [101, 110, 117, 109]) = false := by rw [hl]; decide
  have b1 : (str.toList == [109, 101, 115, 115, 97, 103, 101]) = false := by rw [hl]; decide
  have b2 : (str.toList == [111, 110, 101, 111, 102]) = false := by rw [hl]; decide
  have b3 : (str.toList == [114, 101, 112, 101, 97, 116, 101, 100]) = false := by rw [hl]; decide
  have b4 : (str.toList == [114, 101, 115, 101, 114, 118, 101, 100]) = false := by rw [hl]; decide
  have b5 : (str.toList == [108, 111, 111, 115, 101]) = false := by rw [hl]; decide
  have b6 : (str.toList == [105, 110, 116, 51, 50]) = false := by rw [hl]; decide
  have b7 : (str.toList == [105, 110, 116, 54, 52]) = false := by rw [hl]; decide
  have b8 : (str.toList == [117, 105, 110, 116, 51, 50]) = false := by rw [hl]; decide
  have b9 : (str.toList == [117, 105, 110, 116, 54, 52]) = false := by rw [hl]; decide
  have b10 : (str.toList == [115, 105, 110, 116, 51, 50]) = false := by rw [hl]; decide
  have b11 : (str.toList == [115, 105, 110, 116, 54, 52]) = false := by rw [hl]; decide
  have b12 : (str.toList == [98, 111, 111, 108]) = false := by rw [hl]; decide
  have b13 : (str.toList == [102, 105, 120, 101, 100, 51, 50]) = false := by rw [hl]; decide
  have b14 : (str.toList == [102, 105, 120, 101, 100, 54, 52]) = false := by rw [hl]; decide
  have b15 : (str.toList == [115, 102, 105, 120, 101, 100, 51, 50]) = false := by rw [hl]; decide
  have b16 : (str.toList == [115, 102, 105, 120, 101, 100, 54, 52]) = false := by rw [hl]; decide
  have b17 : (str.toList == [115, 116, 114, 105, 110, 103]) = false := by rw [hl]; decide
  have b18 : (str.toList == [98, 121, 116, 101, 115]) = true := by rw [hl]; decide
  clear hl hstr
  go_enter Tryz.func113, Tryz.ntmps113
  go_wp2
  go_ret
  exact ⟨rfl, rfl⟩
theorem pword_19 (w : World) : Calls Tryz.prog 113 #[.string (strOf [114, 101, 110, 97, 109, 101])] w fun e w' => e = .returned (.bool true) ∧ w = w' := by
  obtain ⟨str, hstr⟩ : ∃ str, str = strOf [114, 101, 110, 97, 109, 101] := ⟨_, rfl⟩
  have hl : str.toList = [114, 101, 110, 97, 109, 101] := by rw [hstr, str_list]
  rw [← hstr]
  have b0 : (str.toList == [101, 110, 117, 109]) = false := by rw [hl]; decide
  have b1 : (str.toList == [109, 101, 115, 115, 97, 103, 101]) = false := by rw [hl]; decide
  have b2 : (str.toList == [111, 110, 101, 111, 102]) = false := by rw [hl]; decide
  have b3 : (str.toList == [114, 101, 112, 101, 97, 116, 101, 100]) = false := by rw [hl]; decide
  have b4 : (str.toList == [114, 101, 115, 101, 114, 118, 101, 100]) = false := by rw [hl]; decide
  have b5 : (str.toList == [108, 111, 111, 115, 101]) = false := by rw [hl]; decide
  have b6 : (str.toList == [105, 110, 116, 51, 50]) = false := by rw [hl]; decide
  have b7 : (str.toList == [105, 110, 116, 54, 52]) = false := by rw [hl]; decide
  have b8 : (str.toList == [117, 105, 110, 116, 51, 50]) = false := by rw [hl]; decide
  have b9 : (str.toList == [117, 105, 110, 116, 54, 52]) = false := by rw [hl]; decide
  have b10 : (str.toList == [115, 105, 110, 116, 51, 50]) = false := by rw [hl]; decide
  have b11 : (str.toList == [115, 105, 110, 116, 54, 52]) = false := by rw [hl]; decide
  have b12 : (str.toList == [98, 111, 111, 108]) = false := by rw [hl]; decide
  have b13 : (str.toList == [102, 105, 120, 101, 100, 51, 50]) = false := by rw [hl]; decide
  have b14 : (str.toList == [102, 105, 120, 101, 100, 54, 52]) = false := by rw [hl]; decide
  have b15 : (str.toList == [115, 102, 105, 120, 101, 100, 51, 50]) = false := by rw [hl]; decide
  have b16 : (str.toList == [115, 102, 105, 120, 101, 100, 54, 52]) = false := by rw [hl]; decide
  have b17 : (str.toList == [115, 116, 114, 105, 110, 103]) = false := by rw [hl]; decide
  have b18 : (str.toList == [98, 121, 116, 101, 115]) = false := by rw [hl]; decide
  have b19 : (str.toList == [114, 101, 110, 97, 109, 101]) = true := by rw [hl]; decide
  clear hl hstr
  go_enter Tryz.func113, Tryz.ntmps113
  go_wp2
  go_ret
  exact ⟨rfl, rfl⟩
theorem pword_20 (w : World) : Calls Tryz.prog 113 #[.string (strOf [114, 101, 110, 117, 109, 98, 101, 114])] w fun e w' => e = .returned (.bool true) ∧ w = w' := by
  obtain ⟨str, hstr⟩ : ∃ str, str = strOf [114, 101, 110, 117, 109, 98, 101, 114] := ⟨_, rfl⟩
  have hl : str.toList = [114, 101, 110, 117, 109, 98, 101, 114] := by rw [hstr, str_list]
  rw [← hstr]
  have b0 : (str.toList == [101, 110, 117, 109]) = false := by rw [hl]; decide
  have b1 : (str.toList == [109, 101, 115, 115, 97, 103, 101]) = false := by rw [hl]; decide
  have b2 : (str.toList == [111, 110, 101, 111, 102]) = false := by rw [hl]; decide
  have b3 : (str.toList == [114, 101, 112, 101, 97, 116, 101, 100]) = false := by rw [hl]; decide
  have b4 : (str.toList == [114, 101, 115, 101, 114, 118, 101, 100]) = false := by rw [hl]; decide
  have b5 : (str.toList == [108, 111, 111, 115, 101]) = false := by rw [hl]; decide
  have b6 : (str.toList == [105, 110, 116, 51, 50]) = false := by rw [hl]; decide
  have b7 : (str.toList == [105, 110, 116, 54, 52]) = false := by rw [hl]; decide
  have b8 : (str.toList == [117, 105, 110, 116, 51, 50]) = false := by rw [hl]; decide
  have b9 : (str.toList == [117, 105, 110, 116, 54, 52]) = false := by rw [hl]; decide
  have b10 : (str.toList == [115, 105, 110, 116, 51, 50]) = false := by rw [hl]; decide
  have b11 : (str.toList == [115, 105, 110, 116, 54, 52]) = false := by rw [hl]; decide
  have b12 : (str.toList == [98, 111, 111, 108]) = false := by rw [hl]; decide
  have b13 : (str.toList == [102, 105, 120, 101, 100, 51, 50]) = false := by rw [hl]; decide
  have b14 : (str.toList == [102, 105, 120, 101, 100, 54, 52]) = false := by rw [hl]; decide
  have b15 : (str.toList == [115, 102, 105, 120, 101, 100, 51, 50]) = false := by rw [hl]; decide
  have b16 : (str.toList == [115, 102, 105, 120, 101, 100, 54, 52]) = false := by rw [hl]; decide
  have b17 : (str.toList == [115, 116, 114, 105, 110, 103]) = false := by rw [hl]; decide
  have b18 : (str.toList == [98, 121, 116, 101, 115]) = false := by rw [hl]; decide
  have b19 : (str.toList == [114, 101, 110, 97, 109, 101]) = false := by rw [hl]; decide
  have b20 : (str.toList == [114, 101, 110, 117, 109, 98, 101, 114]) = true := by rw [hl]; decide
  clear hl hstr
  go_enter Tryz.func113, Tryz.ntmps113
  go_wp2
  go_ret
  exact ⟨rfl, rfl⟩
theorem pword_21 (w : World) : Calls Tryz.prog 113 #[.string (strOf [114, 101, 116, 121, 112, 101])] w fun e w' => e = .returned (.bool true) ∧ w = w' := by
  obtain ⟨str, hstr⟩ : ∃ str, str = strOf [114, 101, 116, 121, 112, 101] := ⟨_, rfl⟩
  have hl : str.toList = [114, 101, 116, 121, 112, 101] := by rw [hstr, str_list]
  rw [← hstr]
  have b0 : (str.toList == [101, 110, 117, 109]) = false := by rw [hl]; decide
  have b1 : (str.toList == [109, 101, 115, 115, 97, 103, 101]) = false := by rw [hl]; decide
  have b2 : (str.toList == [111, 110, 101, 111, 102]) = false := by rw [hl]; decide
  have b3 : (str.toList == [114, 101, 112, 101, 97, 116, 101, 100]) = false := by rw [hl]; decide
  have b4 : (str.toList == [114, 101, 115, 101, 114, 118, 101, 100]) = false := by rw [hl]; decide
  have b5 : (str.toList == [108, 111, 111, 115, 101]) = false := by rw [hl]; decide
  have b6 : (str.toList == [105, 110, 116, 51, 50]) = false := by rw [hl]; decide
  have b7 : (str.toList == [105, 110, 116, 54, 52]) = false := by rw [hl]; decide
  have b8 : (str.toList == [117, 105, 110, 116, 51, 50]) = false := by rw [hl]; decide
  have b9 : (str.toList == [117, 105, 110, 116, 54, 52]) = false := by rw [hl]; decide
  have b10 : (str.toList == [115, 105, 110, 116, 51, 50]) = false := by rw [hl]; decide
  have b11 : (str.toList == [115, 105, 110, 116, 54, 52]) = false := by rw [hl]; decide
  have b12 : (str.toList == [98, 111, 111, 108]) = false := by rw [hl]; decide
  have b13 : (str.toList == [102, 105, 120, 101, 100, 51, 50]) = false := by rw [hl]; decide
  have b14 : (str.toList == [102, 105, 120, 101, 100, 54, 52]) = false := by rw [hl]; decide
  have b15 : (str.toList == [115, 102, 105, 120, 101, 100, 51, 50]) = false := by rw [hl]; decide
  have b16 : (str.toList == [115, 102, 105, 120, 101, 100, 54, 52]) = false := by rw [hl]; decide
  have b17 : (str.toList == [115, 116, 114, 105, 110, 103]) = false := by rw [hl]; decide
  have b18 : (str.toList == [98, 121, 116, 101, 115]) = false := by rw [hl]; decide
  have b19 : (str.toList == [114, 101, 110, 97, 109, 101]) = false := by rw [hl]; decide
  have b20 : (str.toList == [114, 101, 110, 117, 109, 98, 101, 114]) = false := by rw [hl]; decide
  have b21 : (str.toList == [114, 101, 116, 121, 112, 101]) = true := by rw [hl]; decide
  clear hl hstr
  go_enter Tryz.func113, Tryz.ntmps113
  go_wp2
  go_ret
  exact ⟨rfl, rfl⟩
theorem pword_22 (w : World) : Calls Tryz.prog 113 #[.string (strOf [115, 112, 108, 105, 116])] w fun e w' => e = .returned (.bool true) ∧ w = w' := by
  obtain ⟨str, hstr⟩ : ∃ str, str = strOf [115, 112, 108, 105, 116] := ⟨_, rfl⟩
  have hl : str.toList = [115, 112, 108, 105, 116] := by rw [hstr, str_list]
  rw [← hstr]
  have b0 : (str.toList == [101, 110, 117, 109]) = false := by rw [hl]; decide
  have b1 : (str.toList == [109, 101, 115, 115, 97, 103, 101]) = false := by rw [hl]; decide
  have b2 : (str.toList == [111, 110, 101, 111, 102]) = false := by rw [hl]; decide
  have b3 : (str.toList == [114, 101, 112, 101, 97, 116, 101, 100]) = false := by rw [hl]; decide
  have b4 : (str.toList == [114, 101, 115, 101, 114, 118, 101, 100]) = false := by rw [hl]; decide
  have b5 : (str.toList == [108, 111, 111, 115, 101]) = false := by rw [hl]; decide
  have b6 : (str.toList == [105, 110, 116, 51, 50]) = false := by rw [hl]; decide
  have b7 : (str.toList == [105, 110, 116, 54, 52]) = false := by rw [hl]; decide
  have b8 : (str.toList == [117, 105, 110, 116, 51, 50]) = false := by rw [hl]; decide
  have b9 : (str.toList == [117, 105, 110, 116, 54, 52]) = false := by rw [hl]; decide
  have b10 : (str.toList == [115, 105, 110, 116, 51, 50]) = false := by rw [hl]; decide
  have b11 : (str.toList == [115, 105, 110, 116, 54, 52]) = false := by rw [hl]; decide
  have b12 : (str.toList == [98, 111, 111, 108]) = false := by rw [hl]; decide
  have b13 : (str.toList == [102, 105, 120, 101, 100, 51, 50]) = false := by rw [hl]; decide
  have b14 : (str.toList == [102, 105, 120, 101, 100, 54, 52]) = false := by rw [hl]; decide
  have b15 : (str.toList == [115, 102, 105, 120, 101, 100, 51, 50]) = false := by rw [hl]; decide
  have b16 : (str.toList == [115, 102, 105, 120, 101, 100, 54, 52]) = false := by rw [hl]; decide
  have b17 : (str.toList == [115, 116, 114, 105, 110, 103]) = false := by rw [hl]; decide
  have b18 : (str.toList == [98, 121, 116, 101, 115]) = false := by rw [hl]; decide
  have b19 : (str.toList == [114, 101, 110, 97, 109, 101]) = false := by rw [hl]; decide
  have b20 : (str.toList == [114, 101, 110, 117, 109, 98, 101, 114]) = false := by rw [hl]; decide
  have b21 : (str.toList == [114, 101, 116, 121, 112, 101]) = false := by rw [hl]; decide
  have b22 : (str.toList == [115, 112, 108, 105, 116]) = true := by rw [hl]; decide
  clear hl hstr
  go_enter Tryz.func113, Tryz.ntmps113
  go_wp2
  go_ret
  exact ⟨rfl, rfl⟩
theorem pword_23 (w : World) : Calls Tryz.prog 113 #[.string (strOf [106, 111, 105, 110])] w fun e w' => e = .returned (.bool true) ∧ w = w' := by
  obtain ⟨str, hstr⟩ : ∃ str, str = strOf [106, 111, 105, 110] := ⟨_, rfl⟩
  have hl : str.toList = [106, 111, 105, 110] := by rw [hstr, str_list]
  rw [← hstr]
  have b0 : (str.toList == [101, 110, 117, 109]) = false := by rw [hl]; decide
  have b1 : (str.toList == [109, 101, 115, 115, 97, 103, 101]) = false := by rw [hl]; decide
  have b2 : (str.toList == [111, 110, 101, 111, 102]) = false := by rw [hl]; decide
  have b3 : (str.toList == [114, 101, 112, 101, 97, 116, 101, 100]) = false := by rw [hl]; decide
  have b4 : (str.toList == [114, 101, 115, 101, 114, 118, 101, 100]) = false := by rw [hl]; decide
  have b5 : (str.toList == [108, 111, 111, 115, 101]) = false := by rw [hl]; decide
  have b6 : (str.toList == [105, 110, 116, 51, 50]) = false := by rw [hl]; decide
  have b7 : (str.toList == [105, 110, 116, 54, 52]) = false := by rw [hl]; decide
  have b8 : (str.toList == [117, 105, 110, 116, 51, 50]) = false := by rw [hl]; decide
  have b9 : (str.toList == [117, 105, 110, 116, 54, 52]) = false := by rw [hl]; decide
  have b10 : (str.toList == [115, 105, 110, 116, 51, 50]) = false := by rw [hl]; decide
  have b11 : (str.toList == [115, 105, 110, 116, 54, 52]) = false := by rw [hl]; decide
  have b12 : (str.toList == [98, 111, 111, 108]) = false := by rw [hl]; decide
  have b13 : (str.toList == [102, 105, 120, 101, 100, 51, 50]) = false := by rw [hl]; decide
  have b14 : (str.toList == [102, 105, 120, 101, 100, 54, 52]) = false := by rw [hl]; decide
  have b15 : (str.toList == [115, 102, 105, 120, 101, 100, 51, 50]) = false := by rw [hl]; decide
  have b16 : (str.toList == [115, 102, 105, 120, 101, 100, 54, 52]) = false := by rw [hl]; decide
  have b17 : (str.toList == [115, 116, 114, 105, 110, 103]) = false := by rw [hl]; decide
  have b18 : (str.toList == [98, 121, 116, 101, 115]) = false := by rw [hl]; decide
  have b19 : (str.toList == [114, 101, 110, 97, 109, 101]) = false := by rw [hl]; decide
  have b20 : (str.toList == [114, 101, 110, 117, 109, 98, 101, 114]) = false := by rw [hl]; decide
  have b21 : (str.toList == [114, 101, 116, 121, 112, 101]) = false := by rw [hl]; decide
  have b22 : (str.toList == [115, 112, 108, 105, 116]) = false := by rw [hl]; decide
  have b23 : (str.toList == [106, 111, 105, 110]) = true := by rw [hl]; decide
  clear hl hstr
  go_enter Tryz.func113, Tryz.ntmps113
  go_wp2
  go_ret
  exact ⟨rfl, rfl⟩
theorem pword_24 (w : World) : Calls Tryz.prog 113 #[.string (strOf [119, 114, 97, 112])] w fun e w' => e = .returned (.bool true) ∧ w = w' := by
  obtain ⟨str, hstr⟩ : ∃ str, str = strOf [119, 114, 97, 112] := ⟨_, rfl⟩
  have hl : str.toList = [119, 114, 97, 112] := by rw [hstr, str_list]
  rw [← hstr]
  have b0 : (str.toList == [101, 110, 117, 109]) = false := by rw [hl]; decide
  have b1 : (str.toList == [109, 101, 115, 115, 97, 103, 101]) = false := by rw [hl]; decide
  have b2 : (str.toList == [111, 110, 101, 111, 102]) = false := by rw [hl]; decide
  have b3 : (str.toList == [114, 101, 112, 101, 97, 116, 101, 100]) = false := by rw [hl]; decide
  have b4 : (str.toList == [114, 101, 115, 101, 114, 118, 101, 100]) = false := by rw [hl]; decide
  have b5 : (str.toList == [108, 111, 111, 115, 101]) = false := by rw [hl]; decide
  have b6 : (str.toList == [105, 110, 116, 51, 50]) = false := by rw [hl]; decide
  have b7 : (str.toList == [105, 110, 116, 54, 52]) = false := by rw [hl]; decide
  have b8 : (str.toList == [117, 105, 110, 116, 51, 50]) = false := by rw [hl]; decide
  have b9 : (str.toList == [117, 105, 110, 116, 54, 52]) = false := by rw [hl]; decide
  have b10 : (str.toList == [115, 105, 110, 116, 51, 50]) = false := by rw [hl]; decide
  have b11 : (str.toList == [115, 105, 110, 116, 54, 52]) = false := by rw [hl]; decide
  have b12 : (str.toList == [98, 111, 111, 108]) = false := by rw [hl]; decide
  have b13 : (str.toList == [102, 105, 120, 101, 100, 51, 50]) = false := by rw [hl]; decide
  have b14 : (str.toList == [102, 105, 120, 101, 100, 54, 52]) = false := by rw [hl]; decide
  have b15 : (str.toList == [115, 102, 105, 120, 101, 100, 51, 50]) = false := by rw [hl]; decide
  have b16 : (str.toList == [115, 102, 105, 120, 101, 100, 54, 52]) = false := by rw [hl]; decide
  have b17 : (str.toList == [115, 116, 114, 105, 110, 103]) = false := by rw [hl]; decide
  have b18 : (str.toList == [98, 121, 116, 101, 115]) = false := by rw [hl]; decide
  have b19 : (str.toList == [114, 101, 110, 97, 109, 101]) = false := by rw [hl]; decide
  have b20 : (str.toList == [114, 101, 110, 117, 109, 98, 101, 114]) = false := by rw [hl]; decide
  have b21 : (str.toList == [114, 101, 116, 121, 112, 101]) = false := by rw [hl]; decide
  have b22 : (str.toList == [115, 112, 108, 105, 116]) = false := by rw [hl]; decide
  have b23 : (str.toList == [106, 111, 105, 110]) = false := by rw [hl]; decide
  have b24 : (str.toList == [119, 114, 97, 112]) = true := by rw [hl]; decide
  clear hl hstr
  go_enter Tryz.func113, Tryz.ntmps113
  go_wp2
  go_ret
  exact ⟨rfl, rfl⟩
theorem pword_25 (w : World) : Calls Tryz.prog 113 #[.string (strOf [117, 110, 119, 114, 97, 112])] w fun e w' => e = .returned (.bool true) ∧ w = w' := by
  obtain ⟨str, hstr⟩ : ∃ str, str = strOf [117, 110, 119, 114, 97, 112] := ⟨_, rfl⟩
  have hl : str.toList = [117, 110, 119, 114, 97, 112] := by rw [hstr, str_list]
  rw [← hstr]
  have b0 : (str.toList == [101, 110, 117, 109]) = false := by rw [hl]; decide
  have b1 : (str.toList == [109, 101, 115, 115, 97, 103, 101]) = false := by rw [hl]; decide
  have b2 : (str.toList == [111, 110, 101, 111, 102]) = false := by rw [hl]; decide
  have b3 : (str.toList == [114, 101, 112, 101, 97, 116, 101, 100]) = false := by rw [hl]; decide
  have b4 : (str.toList == [114, 101, 115, 101, 114, 118, 101, 100]) = false := by rw [hl]; decide
  have b5 : (str.toList == [108, 111, 111, 115, 101]) = false := by rw [hl]; decide
  have b6 : (str.toList == [105, 110, 116, 51, 50]) = false := by rw [hl]; decide
  have b7 : (str.toList == [105, 110, 116, 54, 52]) = false := by rw [hl]; decide
  have b8 : (str.toList == [117, 105, 110, 116, 51, 50]) = false := by rw [hl]; decide
  have b9 : (str.toList == [117, 105, 110, 116, 54, 52]) = false := by rw [hl]; decide
  have b10 : (str.toList == [115, 105, 110, 116, 51, 50]) = false := by rw [hl]; decide
  have b11 : (str.toList == [115, 105, 110, 116, 54, 52]) = false := by rw [hl]; decide
  have b12 : (str.toList == [98, 111, 111, 108]) = false := by rw [hl]; decide
  have b13 : (str.toList == [102, 105, 120, 101, 100, 51, 50]) = false := by rw [hl]; decide
  have b14 : (str.toList == [102, 105, 120, 101, 100, 54, 52]) = false := by rw [hl]; decide
  have b15 : (str.toList == [115, 102, 105, 120, 101, 100, 51, 50]) = false := by rw [hl]; decide
  have b16 : (str.toList == [115, 102, 105, 120, 101, 100, 54, 52]) = false := by rw [hl]; decide
  have b17 : (str.toList == [115, 116, 114, 105, 110, 103]) = false := by rw [hl]; decide
  have b18 : (str.toList == [98, 121, 116, 101, 115]) = false := by rw [hl]; decide
  have b19 : (str.toList == [114, 101, 110, 97, 109, 101]) = false := by rw [hl]; decide
  have b20 : (str.toList == [114, 101, 110, 117, 109, 98, 101, 114]) = false := by rw [hl]; decide
  have b21 : (str.toList == [114, 101, 116, 121, 112, 101]) = false := by rw [hl]; decide
  have b22 : (str.toList == [115, 112, 108, 105, 116]) = false := by rw [hl]; decide
  have b23 : (str.toList == [106, 111, 105, 110]) = false := by rw [hl]; decide
  have b24 : (str.toList == [119, 114, 97, 112]) = false := by rw [hl]; decide
  have b25 : (str.toList == [117, 110, 119, 114, 97, 112]) = true := by rw [hl]; decide
  clear hl hstr
  go_enter Tryz.func113, Tryz.ntmps113
  go_wp2
  go_ret
  exact ⟨rfl, rfl⟩
theorem pword_26 (w : World) : Calls Tryz.prog 113 #[.string (strOf [97, 100, 100])] w fun e w' => e = .returned (.bool true) ∧ w = w' := by
  obtain ⟨str, hstr⟩ : ∃ str, str = strOf [97, 100, 100] := ⟨_, rfl⟩
  have hl : str.toList = [97, 100, 100] := by rw [hstr, str_list]
  rw [← hstr]
  have b0 : (str.toList == [101, 110, 117, 109]) = false := by rw [hl]; decide
  have b1 : (str.toList == [109, 101, 115, 115, 97, 103, 101]) = false := by rw [hl]; decide
  have b2 : (str.toList == [111, 110, 101, 111, 102]) = false := by rw [hl]; decide
  have b3 : (str.toList == [114, 101, 112, 101, 97, 116, 101, 100]) = false := by rw [hl]; decide
  have b4 : (str.toList == [114, 101, 115, 101, 114, 118, 101, 100]) = false := by rw [hl]; decide
  have b5 : (str.toList == [108, 111, 111, 115, 101]) = false := by rw [hl]; decide
  have b6 : (str.toList == [105, 110, 116, 51, 50]) = false := by rw [hl]; decide
  have b7 : (str.toList == [105, 110, 116, 54, 52]) = false := by rw [hl]; decide
  have b8 : (str.toList == [117, 105, 110, 116, 51, 50]) = false := by rw [hl]; decide
  have b9 : (str.toList == [117, 105, 110, 116, 54, 52]) = false := by rw [hl]; decide
  have b10 : (str.toList == [115, 105, 110, 116, 51, 50]) = false := by rw [hl]; decide
  have b11 : (str.toList == [115, 105, 110, 116, 54, 52]) = false := by rw [hl]; decide
  have b12 : (str.toList == [98, 111, 111, 108]) = false := by rw [hl]; decide
  have b13 : (str.toList == [102, 105, 120, 101, 100, 51, 50]) = false := by rw [hl]; decide
  have b14 : (str.toList == [102, 105, 120, 101, 100, 54, 52]) = false := by rw [hl]; decide
  have b15 : (str.toList == [115, 102, 105, 120, 101, 100, 51, 50]) = false := by rw [hl]; decide
  have b16 : (str.toList == [115, 102, 105, 120, 101, 100, 54, 52]) = false := by rw [hl]; decide
  have b17 : (str.toList == [115, 116, 114, 105, 110, 103]) = false := by rw [hl]; decide
  have b18 : (str.toList == [98, 121, 116, 101, 115]) = false := by rw [hl]; decide
  have b19 : (str.toList == [114, 101, 110, 97, 109, 101]) = false := by rw [hl]; decide
  have b20 : (str.toList == [114, 101, 110, 117, 109, 98, 101, 114]) = false := by rw [hl]; decide
  have b21 : (str.toList == [114, 101, 116, 121, 112, 101]) = false := by rw [hl]; decide
  have b22 : (str.toList == [115, 112, 108, 105, 116]) = false := by rw [hl]; decide
  have b23 : (str.toList == [106, 111, 105, 110]) = false := by rw [hl]; decide
  have b24 : (str.toList == [119, 114, 97, 112]) = false := by rw [hl]; decide
  have b25 : (str.toList == [117, 110, 119, 114, 97, 112]) = false := by rw [hl]; decide
  have b26 : (str.toList == [97, 100, 100]) = true := by rw [hl]; decide
  clear hl hstr
  go_enter Tryz.func113, Tryz.ntmps113
  go_wp2
  go_ret
  exact ⟨rfl, rfl⟩
theorem pword_27 (w : World) : Calls Tryz.prog 113 #[.string (strOf [100, 114, 111, 112])] w fun e w' => e = .returned (.bool true) ∧ w = w' := by
  obtain ⟨str, hstr⟩ : ∃ str, str = strOf [100, 114, 111, 112] := ⟨_, rfl⟩
  have hl : str.toList = [100, 114, 111, 112] := by rw [hstr, str_list]
  rw [← hstr]
  have b0 : (str.toList == [101, 110, 117, 109]) = false := by rw [hl]; decide
  have b1 : (str.toList == [109, 101, 115, 115, 97, 103, 101]) = false := by rw [hl]; decide
  have b2 : (str.toList == [111, 110, 101, 111, 102]) = false := by rw [hl]; decide
  have b3 : (str.toList == [114, 101, 112, 101, 97, 116, 101, 100]) = false := by rw [hl]; decide
  have b4 : (str.toList == [114, 101, 115, 101, 114, 118, 101, 100]) = false := by rw [hl]; decide
  have b5 : (str.toList == [108, 111, 111, 115, 101]) = false := by rw [hl]; decide
  have b6 : (str.toList == [105, 110, 116, 51, 50]) = false := by rw [hl]; decide
  have b7 : (str.toList == [105, 110, 116, 54, 52]) = false := by rw [hl]; decide
  have b8 : (str.toList == [117, 105, 110, 116, 51, 50]) = false := by rw [hl]; decide
  have b9 : (str.toList == [117, 105, 110, 116, 54, 52]) = false := by rw [hl]; decide
  have b10 : (str.toList == [115, 105, 110, 116, 51, 50]) = false := by rw [hl]; decide
  have b11 : (str.toList == [115, 105, 110, 116, 54, 52]) = false := by rw [hl]; decide
  have b12 : (str.toList == [98, 111, 111, 108]) = false := by rw [hl]; decide
  have b13 : (str.toList == [102, 105, 120, 101, 100, 51, 50]) = false := by rw [hl]; decide
  have b14 : (str.toList == [102, 105, 120, 101, 100, 54, 52]) = false := by rw [hl]; decide
  have b15 : (str.toList == [115, 102, 105, 120, 101, 100, 51, 50]) = false := by rw [hl]; decide
  have b16 : (str.toList == [115, 102, 105, 120, 101, 100, 54, 52]) = false := by rw [hl]; decide
  have b17 : (str.toList == [115, 116, 114, 105, 110, 103]) = false := by rw [hl]; decide
  have b18 : (str.toList == [98, 121, 116, 101, 115]) = false := by rw [hl]; decide
  have b19 : (str.toList == [114, 101, 110, 97, 109, 101]) = false := by rw [hl]; decide
  have b20 : (str.toList == [114, 101, 110, 117, 109, 98, 101, 114]) = false := by rw [hl]; decide
  have b21 : (str.toList == [114, 101, 116, 121, 112, 101]) = false := by rw [hl]; decide
  have b22 : (str.toList == [115, 112, 108, 105, 116]) = false := by rw [hl]; decide
  have b23 : (str.toList == [106, 111, 105, 110]) = false := by rw [hl]; decide
  have b24 : (str.toList == [119, 114, 97, 112]) = false := by rw [hl]; decide
  have b25 : (str.toList == [117, 110, 119, 114, 97, 112]) = false := by rw [hl]; decide
  have b26 : (str.toList == [97, 100, 100]) = false := by rw [hl]; decide
  have b27 : (str.toList == [100, 114, 111, 112]) = true := by rw [hl]; decide
  clear hl hstr
  go_enter Tryz.func113, Tryz.ntmps113
  go_wp2
  go_ret
  exact ⟨rfl, rfl⟩
theorem pword_28 (w : World) : Calls Tryz.prog 113 #[.string (strOf [116, 111])] w fun e w' => e = .returned (.bool true) ∧ w = w' := by
  obtain ⟨str, hstr⟩ : ∃ str, str = strOf [116, 111] := ⟨_, rfl⟩
  have hl : str.toList = [116, 111] := by rw [hstr, str_list]
  rw [← hstr]
  have b0 : (str.toList == [101, 110, 117, 109]) = false := by rw [hl]; decide
  have b1 : (str.toList == [109, 101, 115, 115, 97, 103, 101]) = false := by rw [hl]; decide
  have b2 : (str.toList == [111, 110, 101, 111, 102]) = false := by rw [hl]; decide
  have b3 : (str.toList == [114, 101, 112, 101, 97, 116, 101, 100]) = false := by rw [hl]; decide
  have b4 : (str.toList == [114, 101, 115, 101, 114, 118, 101, 100]) = false := by rw [hl]; decide
  have b5 : (str.toList == [108, 111, 111, 115, 101]) = false := by rw [hl]; decide
  have b6 : (str.toList == [105, 110, 116, 51, 50]) = false := by rw [hl]; decide
  have b7 : (str.toList == [105, 110, 116, 54, 52]) = false := by rw [hl]; decide
  have b8 : (str.toList == [117, 105, 110, 116, 51, 50]) = false := by rw [hl]; decide
  have b9 : (str.toList == [117, 105, 110, 116, 54, 52]) = false := by rw [hl]; decide
  have b10 : (str.toList == [115, 105, 110, 116, 51, 50]) = false := by rw [hl]; decide
  have b11 : (str.toList == [115, 105, 110, 116, 54, 52]) = false := by rw [hl]; decide
  have b12 : (str.toList == [98, 111, 111, 108]) = false := by rw [hl]; decide
  have b13 : (str.toList == [102, 105, 120, 101, 100, 51, 50]) = false := by rw [hl]; decide
  have b14 : (str.toList == [102, 105, 120, 101, 100, 54, 52]) = false := by rw [hl]; decide
  have b15 : (str.toList == [115, 102, 105, 120, 101, 100, 51, 50]) = false := by rw [hl]; decide
  have b16 : (str.toList == [115, 102, 105, 120, 101, 100, 54, 52]) = false := by rw [hl]; decide
  have b17 : (str.toList == [115, 116, 114, 105, 110, 103]) = false := by rw [hl]; decide
  have b18 : (str.toList == [98, 121, 116, 101, 115]) = false := by rw [hl]; decide
  have b19 : (str.toList == [114, 101, 110, 97, 109, 101]) = false := by rw [hl]; decide
  have b20 : (str.toList == [114, 101, 110, 117, 109, 98, 101, 114]) = false := by rw [hl]; decide
  have b21 : (str.toList == [114, 101, 116, 121, 112, 101]) = false := by rw [hl]; decide
  have b22 : (str.toList == [115, 112, 108, 105, 116]) = false := by rw [hl]; decide
  have b23 : (str.toList == [106, 111, 105, 110]) = false := by rw [hl]; decide
  have b24 : (str.toList == [119, 114, 97, 112]) = false := by rw [hl]; decide
  have b25 : (str.toList == [117, 110, 119, 114, 97, 112]) = false := by rw [hl]; decide
  have b26 : (str.toList == [97, 100, 100]) = false := by rw [hl]; decide
  have b27 : (str.toList == [100, 114, 111, 112]) = false := by rw [hl]; decide
  have b28 : (str.toList == [116, 111]) = true := by rw [hl]; decide
  clear hl hstr
  go_enter Tryz.func113, Tryz.ntmps113
  go_wp2
  go_ret
  exact ⟨rfl, rfl⟩
theorem pword_29 (w : World) : Calls Tryz.prog 113 #[.string (strOf [105, 110, 116, 111])] w fun e w' => e = .returned (.bool true) ∧ w = w' := by
  obtain ⟨str, hstr⟩ : ∃ str, str = strOf [105, 110, 116, 111] := ⟨_, rfl⟩
  have hl : str.toList = [105, 110, 116, 111] := by rw [hstr, str_list]
  rw [← hstr]
  have b0 : (str.toList == [101, 110, 117, 109]) = false := by rw [hl]; decide
  have b1 : (str.toList == [109, 101, 115, 115, 97, 103, 101]) = false := by rw [hl]; decide
  have b2 : (str.toList == [111, 110, 101, 111, 102]) = false := by rw [hl]; decide
  have b3 : (str.toList == [114, 101, 112, 101, 97, 116, 101, 100]) = false := by rw [hl]; decide
  have b4 : (str.toList == [114, 101, 115, 101, 114, 118, 101, 100]) = false := by rw [hl]; decide
  have b5 : (str.toList == [108, 111, 111, 115, 101]) = false := by rw [hl]; decide
  have b6 : (str.toList == [105, 110, 116, 51, 50]) = false := by rw [hl]; decide
  have b7 : (str.toList == [105, 110, 116, 54, 52]) = false := by rw [hl]; decide
  have b8 : (str.toList == [117, 105, 110, 116, 51, 50]) = false := by rw [hl]; decide
  have b9 : (str.toList == [117, 105, 110, 116, 54, 52]) = false := by rw [hl]; decide
  have b10 : (str.toList == [115, 105, 110, 116, 51, 50]) = false := by rw [hl]; decide
  have b11 : (str.toList == [115, 105, 110, 116, 54, 52]) = false := by rw [hl]; decide
  have b12 : (str.toList == [98, 111, 111, 108]) = false := by rw [hl]; decide
  have b13 : (str.toList == [102, 105, 120, 101, 100, 51, 50]) = false := by rw [hl]; decide
  have b14 : (str.toList == [102, 105, 120, 101, 100, 54, 52]) = false := by rw [hl]; decide
  have b15 : (str.toList == [115, 102, 105, 120, 101, 100, 51, 50]) = false := by rw [hl]; decide
  have b16 : (str.toList == [115, 102, 105, 120, 101, 100, 54, 52]) = false := by rw [hl]; decide
  have b17 : (str.toList == [115, 116, 114, 105, 110, 103]) = false := by rw [hl]; decide
  have b18 : (str.toList == [98, 121, 116, 101, 115]) = false := by rw [hl]; decide
  have b19 : (str.toList == [114, 101, 110, 97, 109, 101]) = false := by rw [hl]; decide
  have b20 : (str.toList == [114, 101, 110, 117, 109, 98, 101, 114]) = false := by rw [hl]; decide
  have b21 : (str.toList == [114, 101, 116, 121, 112, 101]) = false := by rw [hl]; decide
  have b22 : (str.toList == [115, 112, 108, 105, 116]) = false := by rw [hl]; decide
  have b23 : (str.toList == [106, 111, 105, 110]) = false := by rw [hl]; decide
  have b24 : (str.toList == [119, 114, 97, 112]) = false := by rw [hl]; decide
  have b25 : (str.toList == [117, 110, 119, 114, 97, 112]) = false := by rw [hl]; decide
  have b26 : (str.toList == [97, 100, 100]) = false := by rw [hl]; decide
  have b27 : (str.toList == [100, 114, 111, 112]) = false := by rw [hl]; decide
  have b28 : (str.toList == [116, 111]) = false := by rw [hl]; decide
  have b29 : (str.toList == [105, 110, 116, 111]) = true := by rw [hl]; decide
  clear hl hstr
  go_enter Tryz.func113, Tryz.ntmps113
  go_wp2
  go_ret
  exact ⟨rfl, rfl⟩
theorem pword_30 (w : World) : Calls Tryz.prog 113 #[.string (strOf [97, 115])] w fun e w' => e = .returned (.bool true) ∧ w = w' := by
  obtain ⟨str, hstr⟩ : ∃ str, str = strOf [97, 115] := ⟨_, rfl⟩
  have hl : str.toList = [97, 115] := by rw [hstr, str_list]
  rw [← hstr]
  have b0 : (str.toList == [101, 110, 117, 109]) = false := by rw [hl]; decide
  have b1 : (str.toList == [109, 101, 115, 115, 97, 103, 101]) = false := by rw [hl]; decide
  have b2 : (str.toList == [111, 110, 101, 111, 102]) = false := by rw [hl]; decide
  have b3 : (str.toList == [114, 101, 112, 101, 97, 116, 101, 100]) = false := by rw [hl]; decide
  have b4 : (str.toList == [114, 101, 115, 101, 114, 118, 101, 100]) = false := by rw [hl]; decide
  have b5 : (str.toList == [108, 111, 111, 115, 101]) = false := by rw [hl]; decide
  have b6 : (str.toList == [105, 110, 116, 51, 50]) = false := by rw [hl]; decide
  have b7 : (str.toList == [105, 110, 116, 54, 52]) = false := by rw [hl]; decide
  have b8 : (str.toList == [117, 105, 110, 116, 51, 50]) = false := by rw [hl]; decide
  have b9 : (str.toList == [117, 105, 110, 116, 54, 52]) = false := by rw [hl]; decide
  have b10 : (str.toList == [115, 105, 110, 116, 51, 50]) = false := by rw [hl]; decide
  have b11 : (str.toList == [115, 105, 110, 116, 54, 52]) = false := by rw [hl]; decide
  have b12 : (str.toList == [98, 111, 111, 108]) = false := by rw [hl]; decide
  have b13 : (str.toList == [102, 105, 120, 101, 100, 51, 50]) = false := by rw [hl]; decide
  have b14 : (str.toList == [102, 105, 120, 101, 100, 54, 52]) = false := by rw [hl]; decide
  have b15 : (str.toList == [115, 102, 105, 120, 101, 100, 51, 50]) = false := by rw [hl]; decide
  have b16 : (str.toList == [115, 102, 105, 120, 101, 100, 54, 52]) = false := by rw [hl]; decide
  have b17 : (str.toList == [115, 116, 114, 105, 110, 103]) = false := by rw [hl]; decide
  have b18 : (str.toList == [98, 121, 116, 101, 115]) = false := by rw [hl]; decide
  have b19 : (str.toList == [114, 101, 110, 97, 109, 101]) = false := by rw [hl]; decide
  have b20 : (str.toList == [114, 101, 110, 117, 109, 98, 101, 114]) = false := by rw [hl]; decide
  have b21 : (str.toList == [114, 101, 116, 121, 112, 101]) = false := by rw [hl]; decide
  have b22 : (str.toList == [115, 112, 108, 105, 116]) = false := by rw [hl]; decide
  have b23 : (str.toList == [106, 111, 105, 110]) = false := by rw [hl]; decide
  have b24 : (str.toList == [119, 114, 97, 112]) = false := by rw [hl]; decide
  have b25 : (str.toList == [117, 110, 119, 114, 97, 112]) = false := by rw [hl]; decide
  have b26 : (str.toList == [97, 100, 100]) = false := by rw [hl]; decide
  have b27 : (str.toList == [100, 114, 111, 112]) = false := by rw [hl]; decide
  have b28 : (str.toList == [116, 111]) = false := by rw [hl]; decide
  have b29 : (str.toList == [105, 110, 116, 111]) = false := by rw [hl]; decide
  have b30 : (str.toList == [97, 115]) = true := by rw [hl]; decide
  clear hl hstr
  go_enter Tryz.func113, Tryz.ntmps113
  go_wp2
  go_ret
  exact ⟨rfl, rfl⟩
theorem pword_31 (w : World) : Calls Tryz.prog 113 #[.string (strOf [111, 102])] w fun e w' => e = .returned (.bool true) ∧ w = w' := by
  obtain ⟨str, hstr⟩ : ∃ str, str = strOf [111, 102] := ⟨_, rfl⟩
  have hl : str.toList = [111, 102] := by rw [hstr, str_list]
  rw [← hstr]
  have b0 : (str.toList == [101, 110, 117, 109]) = false := by rw [hl]; decide
  have b1 : (str.toList == [109, 101, 115, 115, 97, 103, 101]) = false := by rw [hl]; decide
  have b2 : (str.toList == [111, 110, 101, 111, 102]) = false := by rw [hl]; decide
  have b3 : (str.toList == [114, 101, 112, 101, 97, 116, 101, 100]) = false := by rw [hl]; decide
  have b4 : (str.toList == [114, 101, 115, 101, 114, 118, 101, 100]) = false := by rw [hl]; decide
  have b5 : (str.toList == [108, 111, 111, 115, 101]) = false := by rw [hl]; decide
  have b6 : (str.toList == [105, 110, 116, 51, 50]) = false := by rw [hl]; decide
  have b7 : (str.toList == [105, 110, 116, 54, 52]) = false := by rw [hl]; decide
  have b8 : (str.toList == [117, 105, 110, 116, 51, 50]) = false := by rw [hl]; decide
  have b9 : (str.toList == [117, 105, 110, 116, 54, 52]) = false := by rw [hl]; decide
  have b10 : (str.toList == [115, 105, 110, 116, 51, 50]) = false := by rw [hl]; decide
  have b11 : (str.toList == [115, 105, 110, 116, 54, 52]) = false := by rw [hl]; decide
  have b12 : (str.toList == [98, 111, 111, 108]) = false := by rw [hl]; decide
  have b13 : (str.toList == [102, 105, 120, 101, 100, 51, 50]) = false := by rw [hl]; decide
  have b14 : (str.toList == [102, 105, 120, 101, 100, 54, 52]) = false := by rw [hl]; decide
  have b15 : (str.toList == [115, 102, 105, 120, 101, 100, 51, 50]) = false := by rw [hl]; decide
  have b16 : (str.toList == [115, 102, 105, 120, 101, 100, 54, 52]) = false := by rw [hl]; decide
  have b17 : (str.toList == [115, 116, 114, 105, 110, 103]) = false := by rw [hl]; decide
  have b18 : (str.toList == [98, 121, 116, 101, 115]) = false := by rw [hl]; decide
  have b19 : (str.toList == [114, 101, 110, 97, 109, 101]) = false := by rw [hl]; decide
  have b20 : (str.toList == [114, 101, 110, 117, 109, 98, 101, 114]) = false := by rw [hl]; decide
  have b21 : (str.toList == [114, 101, 116, 121, 112, 101]) = false := by rw [hl]; decide
  have b22 : (str.toList == [115, 112, 108, 105, 116]) = false := by rw [hl]; decide
  have b23 : (str.toList == [106, 111, 105, 110]) = false := by rw [hl]; decide
  have b24 : (str.toList == [119, 114, 97, 112]) = false := by rw [hl]; decide
  have b25 : (str.toList == [117, 110, 119, 114, 97, 112]) = false := by rw [hl]; decide
  have b26 : (str.toList == [97, 100, 100]) = false := by rw [hl]; decide
  have b27 : (str.toList == [100, 114, 111, 112]) = false := by rw [hl]; decide
  have b28 : (str.toList == [116, 111]) = false := by rw [hl]; decide
  have b29 : (str.toList == [105, 110, 116, 111]) = false := by rw [hl]; decide
  have b30 : (str.toList == [97, 115]) = false := by rw [hl]; decide
  have b31 : (str.toList == [111, 102]) = true := by rw [hl]; decide
  clear hl hstr
  go_enter Tryz.func113, Tryz.ntmps113
  go_wp2
  go_ret
  exact ⟨rfl, rfl⟩
theorem pword_32 (w : World) : Calls Tryz.prog 113 #[.string (strOf [100, 101, 102, 97, 117, 108, 116])] w fun e w' => e = .returned (.bool true) ∧ w = w' := by
  obtain ⟨str, hstr⟩ : ∃ str, str = strOf [100, 101, 102, 97, 117, 108, 116] := ⟨_, rfl⟩
  have hl : str.toList = [100, 101, 102, 97, 117, 108, 116] := by rw [hstr, str_list]
  rw [← hstr]
  have b0 : (str.toList == [101, 110, 117, 109]) = false := by rw [hl]; decide
  have b1 : (str.toList == [109, 101, 115, 115, 97, 103, 101]) = false := by rw [hl]; decide
  have b2 : (str.toList == [111, 110, 101, 111, 102]) = false := by rw [hl]; decide
  have b3 : (str.toList == [114, 101, 112, 101, 97, 116, 101, 100]) = false := by rw [hl]; decide
  have b4 : (str.toList == [114, 101, 115, 101, 114, 118, 101, 100]) = false := by rw [hl]; decide
  have b5 : (str.toList == [108, 111, 111, 115, 101]) = false := by rw [hl]; decide
  have b6 : (str.toList == [105, 110, 116, 51, 50]) = false := by rw [hl]; decide
  have b7 : (str.toList == [105, 110, 116, 54, 52]) = false := by rw [hl]; decide
  have b8 : (str.toList == [117, 105, 110, 116, 51, 50]) = false := by rw [hl]; decide
  have b9 : (str.toList == [117, 105, 110, 116, 54, 52]) = false := by rw [hl]; decide
  have b10 : (str.toList == [115, 105, 110, 116, 51, 50]) = false := by rw [hl]; decide
  have b11 : (str.toList == [115, 105, 110, 116, 54, 52]) = false := by rw [hl]; decide
  have b12 : (str.toList == [98, 111, 111, 108]) = false := by rw [hl]; decide
  have b13 : (str.toList == [102, 105, 120, 101, 100, 51, 50]) = false := by rw [hl]; decide
  have b14 : (str.toList == [102, 105, 120, 101, 100, 54, 52]) = false := by rw [hl]; decide
  have b15 : (str.toList == [115, 102, 105, 120, 101, 100, 51, 50]) = false := by rw [hl]; decide
  have b16 : (str.toList == [115, 102, 105, 120, 101, 100, 54, 52]) = false := by rw [hl]; decide
  have b17 : (str.toList == [115, 116, 114, 105, 110, 103]) = false := by rw [hl]; decide
  have b18 : (str.toList == [98, 121, 116, 101, 115]) = false := by rw [hl]; decide
  have b19 : (str.toList == [114, 101, 110, 97, 109, 101]) = false := by rw [hl]; decide
  have b20 : (str.toList == [114, 101, 110, 117, 109, 98, 101, 114]) = false := by rw [hl]; decide
  have b21 : (str.toList == [114, 101, 116, 121, 112, 101]) = false := by rw [hl]; decide
  have b22 : (str.toList == [115, 112, 108, 105, 116]) = false := by rw [hl]; decide
  have b23 : (str.toList == [106, 111, 105, 110]) = false := by rw [hl]; decide
  have b24 : (str.toList == [119, 114, 97, 112]) = false := by rw [hl]; decide
  have b25 : (str.toList == [117, 110, 119, 114, 97, 112]) = false := by rw [hl]; decide
  have b26 : (str.toList == [97, 100, 100]) = false := by rw [hl]; decide
  have b27 : (str.toList == [100, 114, 111, 112]) = false := by rw [hl]; decide
  have b28 : (str.toList == [116, 111]) = false := by rw [hl]; decide
  have b29 : (str.toList == [105, 110, 116, 111]) = false := by rw [hl]; decide
  have b30 : (str.toList == [97, 115]) = false := by rw [hl]; decide
  have b31 : (str.toList == [111, 102]) = false := by rw [hl]; decide
  have b32 : (str.toList == [100, 101, 102, 97, 117, 108, 116]) = true := by rw [hl]; decide
  clear hl hstr
  go_enter Tryz.func113, Tryz.ntmps113
  go_wp2
  go_ret
  exact ⟨rfl, rfl⟩
theorem pword_33 (w : World) : Calls Tryz.prog 113 #[.string (strOf [116, 114, 117, 101])] w fun e w' => e = .returned (.bool true) ∧ w = w' := by
  obtain ⟨str, hstr⟩ : ∃ str, str = strOf [116, 114, 117, 101] := ⟨_, rfl⟩
  have hl : str.toList = [116, 114, 117, 101] := by rw [hstr, str_list]
  rw [← hstr]
  have b0 : (str.toList == [101, 110, 117, 109]) = false := by rw [hl]; decide
  have b1 : (str.toList == [109, 101, 115, 115, 97, 103, 101]) = false := by rw [hl]; decide
  have b2 : (str.toList == [111, 110, 101, 111, 102]) = false := by rw [hl]; decide
  have b3 : (str.toList == [114, 101, 112, 101, 97, 116, 101, 100]) = false := by rw [hl]; decide
  have b4 : (str.toList == [114, 101, 115, 101, 114, 118, 101, 100]) = false := by rw [hl]; decide
  have b5 : (str.toList == [108, 111, 111, 115, 101]) = false := by rw [hl]; decide
  have b6 : (str.toList == [105, 110, 116, 51, 50]) = false := by rw [hl]; decide
  have b7 : (str.toList == [105, 110, 116, 54, 52]) = false := by rw [hl]; decide
  have b8 : (str.toList == [117, 105, 110, 116, 51, 50]) = false := by rw [hl]; decide
  have b9 : (str.toList == [117, 105, 110, 116, 54, 52]) = false := by rw [hl]; decide
  have b10 : (str.toList == [115, 105, 110, 116, 51, 50]) = false := by rw [hl]; decide
  have b11 : (str.toList == [115, 105, 110, 116, 54, 52]) = false := by rw [hl]; decide
  have b12 : (str.toList == [98, 111, 111, 108]) = false := by rw [hl]; decide
  have b13 : (str.toList == [102, 105, 120, 101, 100, 51, 50]) = false := by rw [hl]; decide
  have b14 : (str.toList == [102, 105, 120, 101, 100, 54, 52]) = false := by rw [hl]; decide
  have b15 : (str.toList == [115, 102, 105, 120, 101, 100, 51, 50]) = false := by rw [hl]; decide
  have b16 : (str.toList == [115, 102, 105, 120, 101, 100, 54, 52]) = false := by rw [hl]; decide
  have b17 : (str.toList == [115, 116, 114, 105, 110, 103]) = false := by rw [hl]; decide
  have b18 : (str.toList == [98, 121, 116, 101, 115]) = false := by rw [hl]; decide
  have b19 : (str.toList == [114, 101, 110, 97, 109, 101]) = false := by rw [hl]; decide
  have b20 : (str.toList == [114, 101, 110, 117, 109, 98, 101, 114]) = false := by rw [hl]; decide
  have b21 : (str.toList == [114, 101, 116, 121, 112, 101]) = false := by rw [hl]; decide
  have b22 : (str.toList == [115, 112, 108, 105, 116]) = false := by rw [hl]; decide
  have b23 : (str.toList == [106, 111, 105, 110]) = false := by rw [hl]; decide
  have b24 : (str.toList == [119, 114, 97, 112]) = false := by rw [hl]; decide
  have b25 : (str.toList == [117, 110, 119, 114, 97, 112]) = false := by rw [hl]; decide
  have b26 : (str.toList == [97, 100, 100]) = false := by rw [hl]; decide
  have b27 : (str.toList == [100, 114, 111, 112]) = false := by rw [hl]; decide
  have b28 : (str.toList == [116, 111]) = false := by rw [hl]; decide
  have b29 : (str.toList == [105, 110, 116, 111]) = false := by rw [hl]; decide
  have b30 : (str.toList == [97, 115]) = false := by rw [hl]; decide
  have b31 : (str.toList == [111, 102]) = false := by rw [hl]; decide
  have b32 : (str.toList == [100, 101, 102, 97, 117, 108, 116]) = false := by rw [hl]; decide
  have b33 : (str.toList == [116, 114, 117, 101]) = true := by rw [hl]; decide
  clear hl hstr
  go_enter Tryz.func113, Tryz.ntmps113
  go_wp2
  go_ret
  exact ⟨rfl, rfl⟩
theorem pword_34 (w : World) : Calls Tryz.prog 113 #[.string (strOf [102, 97, 108, 115, 101])] w fun e w' => e = .returned (.bool true) ∧ w = w' := by
  obtain ⟨str, hstr⟩ : ∃ str, str = strOf [102, 97, 108, 115, 101] := ⟨_, rfl⟩
  have hl : str.toList = [102, 97, 108, 115, 101] := by rw [hstr, str_list]
  rw [← hstr]
  have b0 : (str.toList == [101, 110, 117, 109]) = false := by rw [hl]; decide
  have b1 : (str.toList == [109, 101, 115, 115, 97, 103, 101]) = false := by rw [hl]; decide
  have b2 : (str.toList == [111, 110, 101, 111, 102]) = false := by rw [hl]; decide
  have b3 : (str.toList == [114, 101, 112, 101, 97, 116, 101, 100]) = false := by rw [hl]; decide
  have b4 : (str.toList == [114, 101, 115, 101, 114, 118, 101, 100]) = false := by rw [hl]; decide
  have b5 : (str.toList == [108, 111, 111, 115, 101]) = false := by rw [hl]; decide
  have b6 : (str.toList == [105, 110, 116, 51, 50]) = false := by rw [hl]; decide
  have b7 : (str.toList == [105, 110, 116, 54, 52]) = false := by rw [hl]; decide
  have b8 : (str.toList == [117, 105, 110, 116, 51, 50]) = false := by rw [hl]; decide
  have b9 : (str.toList == [117, 105, 110, 116, 54, 52]) = false := by rw [hl]; decide
  have b10 : (str.toList == [115, 105, 110, 116, 51, 50]) = false := by rw [hl]; decide
  have b11 : (str.toList == [115, 105, 110, 116, 54, 52]) = false := by rw [hl]; decide
  have b12 : (str.toList == [98, 111, 111, 108]) = false := by rw [hl]; decide
  have b13 : (str.toList == [102, 105, 120, 101, 100, 51, 50]) = false := by rw [hl]; decide
  have b14 : (str.toList == [102, 105, 120, 101, 100, 54, 52]) = false := by rw [hl]; decide
  have b15 : (str.toList == [115, 102, 105, 120, 101, 100, 51, 50]) = false := by rw [hl]; decide
  have b16 : (str.toList == [115, 102, 105, 120, 101, 100, 54, 52]) = false := by rw [hl]; decide
  have b17 : (str.toList == [115, 116, 114, 105, 110, 103]) = false := by rw [hl]; decide
  have b18 : (str.toList == [98, 121, 116, 101, 115]) = false := by rw [hl]; decide
  have b19 : (str.toList == [114, 101, 110, 97, 109, 101]) = false := by rw [hl]; decide
  have b20 : (str.toList == [114, 101, 110, 117, 109, 98, 101, 114]) = false := by rw [hl]; decide
  have b21 : (str.toList == [114, 101, 116, 121, 112, 101]) = false := by rw [hl]; decide
  have b22 : (str.toList == [115, 112, 108, 105, 116]) = false := by rw [hl]; decide
  have b23 : (str.toList == [106, 111, 105, 110]) = false := by rw [hl]; decide
  have b24 : (str.toList == [119, 114, 97, 112]) = false := by rw [hl]; decide
  have b25 : (str.toList == [117, 110, 119, 114, 97, 112]) = false := by rw [hl]; decide
  have b26 : (str.toList == [97, 100, 100]) = false := by rw [hl]; decide
  have b27 : (str.toList == [100, 114, 111, 112]) = false := by rw [hl]; decide
  have b28 : (str.toList == [116, 111]) = false := by rw [hl]; decide
  have b29 : (str.toList == [105, 110, 116, 111]) = false := by rw [hl]; decide
  have b30 : (str.toList == [97, 115]) = false := by rw [hl]; decide
  have b31 : (str.toList == [111, 102]) = false := by rw [hl]; decide
  have b32 : (str.toList == [100, 101, 102, 97, 117, 108, 116]) = false := by rw [hl]; decide
  have b33 : (str.toList == [116, 114, 117, 101]) = false := by rw [hl]; decide
  have b34 : (str.toList == [102, 97, 108, 115, 101]) = true := by rw [hl]; decide
  clear hl hstr
  go_enter Tryz.func113, Tryz.ntmps113
  go_wp2
  go_ret
  exact ⟨rfl, rfl⟩
set_option maxHeartbeats 4000000 in
theorem pword_none (t : List UInt8) (h : wordsL.contains t = false) (w : World) : Calls Tryz.prog 113 #[.string (strOf t)] w fun e w' => e = .returned (.bool false) ∧ w = w' := by
  have hall : ∀ x ∈ wordsL, ¬ (strOf t).toList = x := fun x hx e => by
    rw [str_list] at e
    subst e
    rw [List.contains_iff_mem.mpr hx] at h
    cases h
  obtain ⟨str, hstr⟩ : ∃ str, str = strOf t := ⟨_, rfl⟩
  rw [← hstr] at hall ⊢
  clear h hstr
  have b0 : (str.toList == [101, 110, 117, 109]) = false := beq_false_of_ne (hall _ (by decide))
  have b1 : (str.toList == [109, 101, 115, 115, 97, 103, 101]) = false := beq_false_of_ne (hall _ (by decide))
  have b2 : (str.toList == [111, 110, 101, 111, 102]) = false := beq_false_of_ne (hall _ (by decide))
  have b3 : (str.toList == [114, 101, 112, 101, 97, 116, 101, 100]) = false := beq_false_of_ne (hall _ (by decide))
  have b4 : (str.toList == [114, 101, 115, 101, 114, 118, 101, 100]) = false := beq_false_of_ne (hall _ (by decide))
  have b5 : (str.toList == [108, 111, 111, 115, 101]) = false := beq_false_of_ne (hall _ (by decide))
  have b6 : (str.toList == [105, 110, 116, 51, 50]) = false := beq_false_of_ne (hall _ (by decide))
  have b7 : (str.toList == [105, 110, 116, 54, 52]) = false := beq_false_of_ne (hall _ (by decide))
  have b8 : (str.toList == [117, 105, 110, 116, 51, 50]) = false := beq_false_of_ne (hall _ (by decide))
  have b9 : (str.toList == [117, 105, 110, 116, 54, 52]) = false := beq_false_of_ne (hall _ (by decide))
  have b10 : (str.toList == [115, 105, 110, 116, 51, 50]) = false := beq_false_of_ne (hall _ (by decide))
  have b11 : (str.toList == [115, 105, 110, 116, 54, 52]) = false := beq_false_of_ne (hall _ (by decide))
  have b12 : (str.toList == [98, 111, 111, 108]) = false := beq_false_of_ne (hall _ (by decide))
  have b13 : (str.toList == [102, 105, 120, 101, 100, 51, 50]) = false := beq_false_of_ne (hall _ (by decide))
  have b14 : (str.toList == [102, 105, 120, 101, 100, 54, 52]) = false := beq_false_of_ne (hall _ (by decide))
  have b15 : (str.toList == [115, 102, 105, 120, 101, 100, 51, 50]) = false := beq_false_of_ne (hall _ (by decide))
  have b16 : (str.toList == [115, 102, 105, 120, 101, 100, 54, 52]) = false := beq_false_of_ne (hall _ (by decide))
  have b17 : (str.toList == [115, 116, 114, 105, 110, 103]) = false := beq_false_of_ne (hall _ (by decide))
  have b18 : (str.toList == [98, 121, 116, 101, 115]) = false := beq_false_of_ne (hall _ (by decide))
  have b19 : (str.toList == [114, 101, 110, 97, 109, 101]) = false := beq_false_of_ne (hall _ (by decide))
  have b20 : (str.toList == [114, 101, 110, 117, 109, 98, 101, 114]) = false := beq_false_of_ne (hall _ (by decide))
  have b21 : (str.toList == [114, 101, 116, 121, 112, 101]) = false := beq_false_of_ne (hall _ (by decide))
  have b22 : (str.toList == [115, 112, 108, 105, 116]) = false := beq_false_of_ne (hall _ (by decide))
  have b23 : (str.toList == [106, 111, 105, 110]) = false := beq_false_of_ne (hall _ (by decide))
  have b24 : (str.toList == [119, 114, 97, 112]) = false := beq_false_of_ne (hall _ (by decide))
  have b25 : (str.toList == [117, 110, 119, 114, 97, 112]) = false := beq_false_of_ne (hall _ (by decide))
  have b26 : (str.toList == [97, 100, 100]) = false := beq_false_of_ne (hall _ (by decide))
  have b27 : (str.toList == [100, 114, 111, 112]) = false := beq_false_of_ne (hall _ (by decide))
  have b28 : (str.toList == [116, 111]) = false := beq_false_of_ne (hall _ (by decide))
  have b29 : (str.toList == [105, 110, 116, 111]) = false := beq_false_of_ne (hall _ (by decide))
  have b30 : (str.toList == [97, 115]) = false := beq_false_of_ne (hall _ (by decide))
  have b31 : (str.toList == [111, 102]) = false := beq_false_of_ne (hall _ (by decide))
  have b32 : (str.toList == [100, 101, 102, 97, 117, 108, 116]) = false := beq_false_of_ne (hall _ (by decide))
  have b33 : (str.toList == [116, 114, 117, 101]) = false := beq_false_of_ne (hall _ (by decide))
  have b34 : (str.toList == [102, 97, 108, 115, 101]) = false := beq_false_of_ne (hall _ (by decide))
  clear hall
  go_enter Tryz.func113, Tryz.ntmps113
  go_wp2
  go_ret
  exact ⟨rfl, rfl⟩
theorem pword_any (t : List UInt8) (w : World) : Calls Tryz.prog 113 #[.string (strOf t)] w fun e w' => e = .returned (.bool (wordsL.contains t)) ∧ w = w' := by
  cases h : wordsL.contains t with
  | false => exact pword_none t h w
  | true =>
    have hm := List.contains_iff_mem.mp h
    clear h
    simp only [wordsL, List.mem_cons, List.not_mem_nil, or_false] at hm
    rcases hm with rfl | rfl | rfl | rfl | rfl | rfl | rfl | rfl | rfl | rfl | rfl | rfl | rfl | rfl | rfl | rfl | rfl | rfl | rfl | rfl | rfl | rfl | rfl | rfl | rfl | rfl | rfl | rfl | rfl | rfl | rfl | rfl | rfl | rfl | rfl
    · exact pword_0 w
    · exact pword_1 w
    · exact pword_2 w
    · exact pword_3 w
    · exact pword_4 w
    · exact pword_5 w
    · exact pword_6 w
    · exact pword_7 w
    · exact pword_8 w
    · exact pword_9 w
    · exact pword_10 w
    · exact pword_11 w
    · exact pword_12 w
    · exact pword_13 w
    · exact pword_14 w
    · exact pword_15 w
    · exact pword_16 w
    · exact pword_17 w
    · exact pword_18 w
    · exact pword_19 w
    · exact pword_20 w
    · exact pword_21 w
    · exact pword_22 w
    · exact pword_23 w
    · exact pword_24 w
    · exact pword_25 w
    · exact pword_26 w
    · exact pword_27 w
    · exact pword_28 w
    · exact pword_29 w
    · exact pword_30 w
    · exact pword_31 w
    · exact pword_32 w
    · exact pword_33 w
    · exact pword_34 w
end Go.Proofs.YtjogamffdbedkaaGreatDoor

/- Layer 10 in plain words (no program here): what is passed over, how long a name is, digits, quotes, numbers, texts, tokens. -/
namespace Go.Proofs.YtjogamffdbedkaaGreatDoor
set_option linter.unusedVariables false

def digitB (c : UInt8) : Bool := decide (48 ≤ c.toNat) && decide (c.toNat ≤ 57)
/-- A number's digits. -/
def decOf (n : Nat) : List UInt8 := if h : n = 0 then [] else decOf (n / 10) ++ [(48 + n % 10).toUInt8]
termination_by n
decreasing_by omega
def digitsT (n : Nat) (neg : Bool) : List UInt8 := if n = 0 then [48] else if neg = true then 45 :: decOf n else decOf n
theorem decOf_zero : decOf 0 = [] := by rw [decOf]; rfl
theorem decOf_pos {n : Nat} (h : n ≠ 0) : decOf n = decOf (n / 10) ++ [(48 + n % 10).toUInt8] := by
  conv => lhs; rw [decOf]
  rw [dif_neg h]
theorem decOf_length : ∀ (k n : Nat), n < 10 ^ k → (decOf n).length ≤ k
  | 0, n, h => by
    have : n = 0 := by simpa using h
    subst this
    rw [decOf_zero]; exact Nat.le_refl _
  | k + 1, n, h => by
    by_cases h0 : n = 0
    · subst h0; rw [decOf_zero]; exact Nat.zero_le _
    · rw [decOf_pos h0, List.length_append]
      have := decOf_length k (n / 10) (by rw [Nat.pow_succ] at h; omega)
      simp; omega
theorem decOf_len64 {n : Nat} (h : n < 18446744073709551616) : (decOf n).length ≤ 20 := decOf_length 20 n (by omega)
theorem wrap64_in2 (n : Int) (h : -9223372036854775808 ≤ n ∧ n ≤ 9223372036854775807) : Go.RowKit.wrap64 n = n := by unfold Go.RowKit.wrap64; omega
theorem strOf_append (a b : List UInt8) : strOf a ++ strOf b = strOf (a ++ b) := by
  apply ByteArray.ext
  rw [ByteArray.data_append]
  simp [strOf]
theorem drop_get {t : List UInt8} {n : Nat} {c : UInt8} (h : t[n]? = some c) : t.drop n = c :: t.drop (n + 1) := by
  obtain ⟨h1, rfl⟩ := List.getElem?_eq_some_iff.mp h
  exact List.drop_eq_getElem_cons h1
end Go.Proofs.YtjogamffdbedkaaGreatDoor

/- Layer 10 in plain words (no program here): the number that a text begins with. -/
namespace Go.Proofs.YtjogamffdbedkaaGreatDoor
set_option linter.unusedVariables false

def digs (t : List UInt8) : List UInt8 := t.takeWhile digitB
def valOf (acc : Nat) (l : List UInt8) : Nat := l.foldl (fun a c => 10 * a + (c.toNat - 48)) acc
theorem valOf_append (a b : List UInt8) (acc : Nat) : valOf acc (a ++ b) = valOf (valOf acc a) b := List.foldl_append ..
theorem valOf_cons (acc : Nat) (c : UInt8) (r : List UInt8) : valOf acc (c :: r) = valOf (10 * acc + (c.toNat - 48)) r := by unfold valOf; rw [List.foldl_cons]
theorem valOf_ge : ∀ (a : List UInt8) (acc : Nat), acc ≤ valOf acc a
  | [], acc => Nat.le_refl _
  | c :: a, acc => by have := valOf_ge a (10 * acc + (c.toNat - 48)); rw [valOf_cons]; omega
def numNeg (t : List UInt8) : Bool := match t with
  | [] => false
  | c :: _ => decide (c.toNat = 45)
def numFrom (t : List UInt8) : Nat := if numNeg t = true then 1 else 0
def numDs (t : List UInt8) : List UInt8 := digs (t.drop (numFrom t))
def numV (t : List UInt8) : Nat := valOf 0 (numDs t)
def numI (t : List UInt8) : Nat := numFrom t + (numDs t).length
/-- Is none there? -/
def numBad (t : List UInt8) : Bool := decide (numDs t = []) || (decide (18446744073709551616 ≤ numV t) || (decide (digitsT (numV t) (numNeg t) ≠ t.take (numI t)) || (numNeg t && decide (9223372036854775808 < numV t))))
def numT (t : List UInt8) : Nat × Bool × Nat := if numBad t = true then (0, false, 0) else (numV t, numNeg t, numI t)
theorem digs_cons_yes {c : UInt8} {r : List UInt8} (h : digitB c = true) : digs (c :: r) = c :: digs r := by unfold digs; rw [List.takeWhile_cons_of_pos h]
theorem digitB_iff (c : UInt8) : digitB c = true ↔ 48 ≤ c.toNat ∧ c.toNat ≤ 57 := by unfold digitB; simp
/-- So many digits were read. -/
structure NumAt (t pre : List UInt8) (i n : Nat) : Prop where
  ds : numDs t = pre ++ digs (t.drop i)
  i_ : i = numFrom t + pre.length
  n_ : n = valOf 0 pre
  lt : n < 18446744073709551616
  le : i ≤ t.length
section
variable {t pre : List UInt8} {i n : Nat} {c : UInt8}
theorem NumAt.over (h : NumAt t pre i n) (hc : t[i]? = some c) (hd : digitB c = true) (hn : 18446744073709551616 ≤ 10 * n + (c.toNat - 48)) : numT t = (0, false, 0) := by
  unfold numT
  rw [if_pos]
  have h1 : 18446744073709551616 ≤ numV t := by
    unfold numV
    rw [h.ds, drop_get hc, digs_cons_yes hd, valOf_append, valOf_cons, ← h.n_]
    exact Nat.le_trans hn (valOf_ge _ _)
  unfold numBad
  rw [decide_eq_true h1]
  simp
theorem NumAt.stop (h : NumAt t pre i n) (hs : digs (t.drop i) = []) : numDs t = pre ∧ numV t = n ∧ numI t = i := by
  have e : numDs t = pre := by rw [h.ds, hs, List.append_nil]
  exact ⟨e, by unfold numV; rw [e, h.n_], by unfold numI; rw [e, h.i_]⟩
theorem NumAt.first (h : NumAt t pre i n) (hs : digs (t.drop i) = []) (he : i = numFrom t) : numT t = (0, false, 0) := by
  have e := (h.stop hs).1
  have : pre = [] := List.eq_nil_of_length_eq_zero (by have := h.i_; omega)
  unfold numT
  rw [if_pos]
  unfold numBad
  rw [e, this]
  simp
end
end Go.Proofs.YtjogamffdbedkaaGreatDoor

/- The document's Right of names: what is none at once. Conditions: those that each theorem names. -/
namespace Go.Proofs.YtjogamffdbedkaaGreatDoor
open Go.RowKit
set_option linter.unusedVariables false
set_option maxRecDepth 100000

/-- No name: too short. -/
theorem rname_short (w : World) (t : List UInt8) (h : t.length < 1) : Calls Tryz.prog 48 #[.string (strOf t)] w fun e w' => e = .returned (.bool (nameB t)) ∧ Below w.heap.size w w' := by
  have HF : Hid (nameB t = false) := Lib.hid (by unfold nameB; rw [decide_eq_false (by omega)]; rfl)
  obtain ⟨n, hn⟩ : ∃ n, n = t.length := ⟨_, rfl⟩
  obtain ⟨str, hstr⟩ : ∃ str, str = strOf t := ⟨_, rfl⟩
  have hsz : str.size = n := by rw [hstr, str_size, hn]
  rw [← hstr]
  have g1 : decide ((n : Int) < 1) = true := decide_eq_true (by omega)
  clear hstr hn h
  go_enter Tryz.func48, Tryz.ntmps48
  go_wp2
  go_ret
  exact ⟨ret_bool' HF.out.symm, Below.refl _ _⟩
/-- No name: too long. -/
theorem rname_long (w : World) (t : List UInt8) (h : 12 < t.length) : Calls Tryz.prog 48 #[.string (strOf t)] w fun e w' => e = .returned (.bool (nameB t)) ∧ Below w.heap.size w w' := by
  have HF : Hid (nameB t = false) := Lib.hid (by unfold nameB; rw [decide_eq_false (show ¬ t.length ≤ 12 by omega)]; simp)
  obtain ⟨n, hn⟩ : ∃ n, n = t.length := ⟨_, rfl⟩
  obtain ⟨str, hstr⟩ : ∃ str, str = strOf t := ⟨_, rfl⟩
  have hsz : str.size = n := by rw [hstr, str_size, hn]
  rw [← hstr]
  have g1 : decide ((n : Int) < 1) = false := decide_eq_false (by omega)
  have g2 : decide ((n : Int) > 12) = true := decide_eq_true (by omega)
  clear hstr hn h
  go_enter Tryz.func48, Tryz.ntmps48
  go_wp2
  go_ret
  exact ⟨ret_bool' HF.out.symm, Below.refl _ _⟩
/-- No name: its first is no letter. -/
theorem rname_first (w : World) (c : UInt8) (r : List UInt8) (h12 : (c :: r).length ≤ 12) (hl : letterB c = false) : Calls Tryz.prog 48 #[.string (strOf (c :: r))] w fun e w' => e = .returned (.bool (nameB (c :: r))) ∧ Below w.heap.size w w' := by
  have HF : Hid (nameB (c :: r) = false) := Lib.hid (by unfold nameB; simp only [hl, Bool.and_false, Bool.false_and])
  have h1 : 1 ≤ (c :: r).length := by simp
  obtain ⟨n, hn⟩ : ∃ n, n = (c :: r).length := ⟨_, rfl⟩
  obtain ⟨str, hstr⟩ : ∃ str, str = strOf (c :: r) := ⟨_, rfl⟩
  have hsz : str.size = n := by rw [hstr, str_size, hn]
  rw [← hn] at h1 h12
  have hs0 : 0 < str.size := by omega
  have EA : Hid (str[0]'hs0 = c) := by
    show _ = _
    have := hstr
    subst this
    rfl
  rw [← hstr]
  have g1 : decide ((n : Int) < 1) = false := decide_eq_false (by omega)
  have g2 : decide ((n : Int) > 12) = false := decide_eq_false (by omega)
  have hp0 : (0 : Int) < (n : Int) := by omega
  have HL := Lib.hid (fun w => rletter_any c w)
  rw [hl] at HL
  clear hl hn hstr
  go_enter Tryz.func48, Tryz.ntmps48
  go_wp2_with (go_at_call 93; rw [EA.out]; refine (HL.out _).mono ?_; rintro e w2 ⟨rfl, rfl⟩)
  go_ret
  exact ⟨ret_bool' HF.out.symm, Below.refl _ _⟩
end Go.Proofs.YtjogamffdbedkaaGreatDoor

/- The document's Right of names: the walk through the letters and the words. Conditions: those that each theorem names. -/
namespace Go.Proofs.YtjogamffdbedkaaGreatDoor
open Go.RowKit
set_option linter.unusedVariables false
set_option maxRecDepth 100000

theorem words_sl (w : World) : Sl (w.alloc (.cells (txts wordsL).toArray 9)) (some ⟨w.heap.size, 0, none⟩) 35 (txts wordsL) :=
  ⟨by rw [txts_length, words_length]; exact Nat.le_refl _, by decide, (fun h => by cases h), fun j u hj => ⟨w.heap.size, 0, rfl, by
    rw [World.cell?_alloc_at _ _ _ _ rfl, Nat.zero_add, List.getElem?_toArray]; exact hj⟩⟩
set_option maxHeartbeats 2000000 in
theorem rname_loops (w : World) (c : UInt8) (r t : List UInt8) (ht : t = c :: r) (h12 : t.length ≤ 12) (hl : letterB c = true) : Calls Tryz.prog 48 #[.string (strOf t)] w fun e w' => e = .returned (.bool (nameB t)) ∧ Below w.heap.size w w' := by
  have HT : Hid (nameB t = (t.all charB && !(wordsL.contains t))) := Lib.hid (by unfold nameB; rw [decide_eq_true h12, ht]; simp [hl])
  have h1 : 1 ≤ t.length := by rw [ht]; simp
  obtain ⟨n, hn⟩ : ∃ n, n = t.length := ⟨_, rfl⟩
  obtain ⟨str, hstr⟩ : ∃ str, str = strOf t := ⟨_, rfl⟩
  have hsz : str.size = n := by rw [hstr, str_size, hn]
  rw [← hn] at h1 h12
  have hs0 : 0 < str.size := by omega
  have EA : Hid (str[0]'hs0 = c) := by
    show _ = _
    have := hstr
    subst this
    subst ht
    rfl
  rw [← hstr]
  have HN := Lib.hid hn
  have HST := Lib.hid hstr
  have g1 : decide ((n : Int) < 1) = false := decide_eq_false (by omega)
  have g2 : decide ((n : Int) > 12) = false := decide_eq_false (by omega)
  have hp0 : (0 : Int) < (n : Int) := by omega
  have HL := Lib.hid (fun w => rletter_any c w)
  rw [hl] at HL
  clear hl hn hstr ht
  go_enter Tryz.func48, Tryz.ntmps48
  go_wp2_with (go_at_call 93; rw [EA.out]; refine (HL.out _).mono ?_; rintro e w2 ⟨rfl, rfl⟩)
  clear EA HL
  go_loop [3] (fun x => ∃ k : Nat, k ≤ n ∧ x = .int .i64 (k : Int) ∧ ∀ (j : Nat) a, j < k → t[j]? = some a → charB a = true) (fun x => n - (intOf x).toNat)
  case atStart => exact ⟨0, Nat.zero_le _, rfl, fun j a hj => absurd hj (Nat.not_lt_zero _)⟩
  case round =>
    obtain ⟨k, hk, rfl, hall⟩ := hrel
    have HALL := Lib.hid hall
    clear hall
    by_cases hlt : k < n
    · have g3 : decide ((k : Int) < (n : Int)) = true := decide_eq_true (by omega)
      obtain ⟨a, ha⟩ : ∃ a, t[k]? = some a := ⟨_, List.getElem?_eq_getElem (by have := HN.out; omega)⟩
      have hsk : k < str.size := by omega
      have EK : str[k]'hsk = a := by
        obtain ⟨q1, q2⟩ := List.getElem?_eq_some_iff.mp ha
        have := HST.out
        subst this
        exact q2
      have hk0 : 0 ≤ (k : Int) := by omega
      have hk1 : (k : Int) < (n : Int) := by omega
      have HLA := Lib.hid (fun w => rletter_any a w)
      have HA := Lib.hid ha
      have HCH : Hid (charB a = (letterB a || (decide (48 ≤ a.toNat) && decide (a.toNat ≤ 57)) || decide (a.toNat = 95))) := Lib.hid rfl
      clear ha
      cases hla : letterB a with
      | true =>
        rw [hla] at HCH HLA
        have HC : Hid (charB a = true) := Lib.hid (by rw [HCH.out]; rfl)
        clear hla
        go_wp2_with (go_at_call 93; (try rw [EK]); refine (HLA.out _).mono ?_; rintro e w2 ⟨rfl, rfl⟩)
        go_round
        case rel =>
          refine ⟨k + 1, by omega, by go_num, fun j b hj hb => ?_⟩
          by_cases hjk : j < k
          · exact HALL.out j b hjk hb
          · have : j = k := by omega
            subst this
            have e1 := HA.out.symm.trans hb
            injection e1 with e1
            subst e1
            exact HC.out
        case measure => simp [intOf]; omega
      | false =>
        rw [hla] at HCH HLA
        clear hla
        by_cases h48 : a.toNat < 48
        · have g4 : decide ((a.toNat : Int) < 48) = true := decide_eq_true (by omega)
          have hne : ¬ ((a.toNat : Int) = 95) := by omega
          have hne2 : ((a.toNat : Int) == 95) = false := beq_false_of_ne hne
          have HC : Hid (charB a = false) := Lib.hid (by rw [HCH.out, decide_eq_false (show ¬ 48 ≤ a.toNat by omega), decide_eq_false (show ¬ a.toNat = 95 by omega)]; rfl)
          have HF : Hid (nameB t = false) := Lib.hid (by rw [HT.out, show t.all charB = false from by rw [List.all_eq_false]; exact ⟨a, List.mem_of_getElem? HA.out, by rw [HC.out]; simp⟩]; rfl)
          go_wp2_with (go_at_call 93; (try rw [EK]); refine (HLA.out _).mono ?_; rintro e w2 ⟨rfl, rfl⟩)
          go_ret
          exact ⟨ret_bool' HF.out.symm, Below.refl _ _⟩
        · have g4 : decide ((a.toNat : Int) < 48) = false := decide_eq_false (by omega)
          by_cases h57 : a.toNat ≤ 57
          · have g5 : decide ((a.toNat : Int) > 57) = false := decide_eq_false (by omega)
            have HC : Hid (charB a = true) := Lib.hid (by rw [HCH.out, decide_eq_true (show 48 ≤ a.toNat by omega), decide_eq_true h57]; rfl)
            go_wp2_with (go_at_call 93; (try rw [EK]); refine (HLA.out _).mono ?_; rintro e w2 ⟨rfl, rfl⟩)
            go_round
            case rel =>
              refine ⟨k + 1, by omega, by go_num, fun j b hj hb => ?_⟩
              by_cases hjk : j < k
              · exact HALL.out j b hjk hb
              · have : j = k := by omega
                subst this
                have e1 := HA.out.symm.trans hb
                injection e1 with e1
                subst e1
                exact HC.out
            case measure => simp [intOf]; omega
          · have g5 : decide ((a.toNat : Int) > 57) = true := decide_eq_true (by omega)
            by_cases h95 : a.toNat = 95
            · have hne : ((a.toNat : Int) = 95) := by omega
              have HC : Hid (charB a = true) := Lib.hid (by rw [HCH.out, decide_eq_true h95]; simp)
              have HLB : Hid (∀ w, Calls Tryz.prog 93 #[.int .u8 (95 : Int)] w fun e w' => e = .returned (.bool false) ∧ w = w') := Lib.hid (fun w => by have := HLA.out w; rw [hne] at this; exact this)
              go_wp2_with (go_at_call 93; (try rw [EK]); (try rw [hne]); with_reducible refine (HLB.out _).mono ?_; rintro e w2 ⟨rfl, rfl⟩)
              go_round
              case rel =>
                refine ⟨k + 1, by omega, by go_num, fun j b hj hb => ?_⟩
                by_cases hjk : j < k
                · exact HALL.out j b hjk hb
                · have : j = k := by omega
                  subst this
                  have e1 := HA.out.symm.trans hb
                  injection e1 with e1
                  subst e1
                  exact HC.out
              case measure => simp [intOf]; omega
            · have hne : ¬ ((a.toNat : Int) = 95) := by omega
              have hne2 : ((a.toNat : Int) == 95) = false := beq_false_of_ne hne
              have HC : Hid (charB a = false) := Lib.hid (by rw [HCH.out, decide_eq_false h57, decide_eq_false h95]; simp)
              have HF : Hid (nameB t = false) := Lib.hid (by rw [HT.out, show t.all charB = false from by rw [List.all_eq_false]; exact ⟨a, List.mem_of_getElem? HA.out, by rw [HC.out]; simp⟩]; rfl)
              go_wp2_with (go_at_call 93; (try rw [EK]); refine (HLA.out _).mono ?_; rintro e w2 ⟨rfl, rfl⟩)
              go_ret
              exact ⟨ret_bool' HF.out.symm, Below.refl _ _⟩
    · have g3 : decide ((k : Int) < (n : Int)) = false := decide_eq_false (by omega)
      have hal : t.all charB = true := by
        rw [List.all_eq_true]
        intro x hx
        obtain ⟨j, hj⟩ := List.getElem?_of_mem hx
        exact HALL.out j x (by have := (List.getElem?_eq_some_iff.mp hj).1; have := HN.out; omega) hj
      have HA2 : Hid (nameB t = !(wordsL.contains t)) := Lib.hid (by rw [HT.out, hal]; rfl)
      have HW := Lib.hid (words_sl w)
      clear hal
      go_wp2_with (go_at_call 94; refine (rwords_any _).mono ?_; rintro e w2 ⟨rfl, rfl⟩)
      obtain ⟨w1, hw1⟩ : ∃ w1, w1 = w.alloc (.cells (txts wordsL).toArray 9) := ⟨_, rfl⟩
      rw [← hw1] at HW ⊢
      have HB1 : Hid (Below w.heap.size w w1) := Lib.hid (hw1 ▸ (Below.refl _ _).alloc (Nat.le_refl _) _)
      clear hw1
      go_loopg [5] 35 (fun h y wr => ∃ i : Nat, y = .int .i64 (i : Int) ∧ i + h = 35 ∧ wr = w1 ∧ ∀ (q : Nat) b, q < i → wordsL[q]? = some b → b ≠ t)
      case atStart => exact ⟨0, rfl, by omega, rfl, fun q b hq => absurd hq (Nat.not_lt_zero _)⟩
      case round =>
        obtain ⟨i, rfl, hi, rfl, hin⟩ := hrel
        obtain ⟨h0, hh0⟩ : ∃ h0, h0 = gk := ⟨_, rfl⟩
        subst hh0
        have HIN := Lib.hid hin
        clear hin
        by_cases hli : i < 35
        · have g4 : decide ((i : Int) < 35) = true := decide_eq_true (by omega)
          obtain ⟨b, hb⟩ : ∃ b, wordsL[i]? = some b := ⟨_, List.getElem?_eq_getElem (by rw [words_length]; exact hli)⟩
          obtain ⟨g', off', e', c1⟩ := HW.out.at_ i (.string (strOf b)) (by rw [txts, List.getElem?_map, hb]; rfl)
          cases e'
          rw [Nat.zero_add] at c1
          have HB := Lib.hid hb
          by_cases hab : b = t
          · subst hab
            rw [← HST.out] at c1
            have HF : Hid (nameB b = false) := Lib.hid (by rw [HA2.out, List.contains_iff_mem.mpr (List.mem_of_getElem? HB.out)]; rfl)
            clear hb
            go_wp2
            go_ret
            exact ⟨ret_bool' HF.out.symm, HB1.out⟩
          · obtain ⟨sb, hsb⟩ : ∃ sb, sb = strOf b := ⟨_, rfl⟩
            have hne : ¬ sb.toList = str.toList := by rw [HST.out, hsb, str_list, str_list]; exact hab
            have hne2 : (sb.toList == str.toList) = false := by rw [HST.out, hsb, strOf_beq]; exact decide_eq_false hab
            rw [← hsb] at c1
            have HAB := Lib.hid hab
            clear hb hsb hab
            go_wp2
            go_roundg (h0 - 1)
            case measure => omega
            case rel =>
              refine ⟨i + 1, by go_num, by omega, rfl, fun q c hq hc => ?_⟩
              by_cases hqk : q < i
              · exact HIN.out q c hqk hc
              · have : q = i := by omega
                subst this
                have e1 := HB.out.symm.trans hc
                injection e1 with e1
                subst e1
                exact HAB.out
        · have g4 : decide ((i : Int) < 35) = false := decide_eq_false (by omega)
          have HF : Hid (nameB t = true) := Lib.hid (by
            rw [HA2.out, Bool.not_eq_true']
            cases hc : wordsL.contains t with
            | false => rfl
            | true =>
              obtain ⟨j, hj⟩ := List.getElem?_of_mem (List.contains_iff_mem.mp hc)
              exact absurd rfl (HIN.out j t (by have := (List.getElem?_eq_some_iff.mp hj).1; rw [words_length] at this; omega) hj))
          go_wp2
          go_ret
          exact ⟨ret_bool' HF.out.symm, HB1.out⟩
theorem rname_any (w : World) (t : List UInt8) : Calls Tryz.prog 48 #[.string (strOf t)] w fun e w' => e = .returned (.bool (nameB t)) ∧ Below w.heap.size w w' := by
  by_cases h1 : t.length < 1
  · exact rname_short w t h1
  · by_cases h12 : 12 < t.length
    · exact rname_long w t h12
    · cases t with
      | nil => simp at h1
      | cons c r =>
        cases hl : letterB c with
        | false => exact rname_first w c r (by omega) hl
        | true => exact rname_loops w c r _ rfl (by omega) hl
end Go.Proofs.YtjogamffdbedkaaGreatDoor

/- What is asked of the program's layer 9, and the walks of IdentRight and IdentLists. Conditions: those that each theorem names. -/
namespace Go.Proofs.YtjogamffdbedkaaGreatDoor
open Go.RowKit
set_option linter.unusedVariables false
set_option maxRecDepth 100000

/-- What is asked of layer 9. -/
structure IdOk : Prop where
  right : ∀ w t, Calls Tryz.prog 78 #[.string (strOf t)] w fun e w' => e = .returned (.bool (nameB t)) ∧ Below w.heap.size w w'
  rise : ∀ w A cap n ts, Sl w A cap (txts ts) → n = ts.length → Calls Tryz.prog 82 #[.slice A n cap] w fun e w' => e = .returned (.bool (riseB ts)) ∧ Below w.heap.size w w'
  once : ∀ w A cap n ts, Sl w A cap (txts ts) → n = ts.length → n ≤ 1000000 → Calls Tryz.prog 79 #[.slice A n cap] w fun e w' => e = .returned (.bool (onceB ts)) ∧ Below w.heap.size w w'
theorem below_drewN {B : Nat} {a w : World} (h : Below B a w) (k : Nat) : Below B a (w.drewN k) :=
  ⟨h.os, h.tape, h.output, h.size, h.block⟩
end Go.Proofs.YtjogamffdbedkaaGreatDoor

/- The document's digits of a number, and a text quoted. Conditions: those that each theorem names. -/
namespace Go.Proofs.YtjogamffdbedkaaGreatDoor
open Go.RowKit
set_option linter.unusedVariables false
set_option maxRecDepth 100000

theorem strOf_nil : strOf [] = ⟨#[]⟩ := rfl
set_option maxHeartbeats 2000000 in
theorem rldigits_any (n : Nat) (neg : Bool) (w : World) (hn : n < 18446744073709551616) : Calls Tryz.prog 35 #[.int .u64 (n : Int), .bool neg] w fun e w' => e = .returned (.string (strOf (digitsT n neg))) ∧ Below w.heap.size w w' := by
  by_cases h0 : n = 0
  · subst h0
    go_enter Tryz.func35, Tryz.ntmps35
    go_wp2
    go_ret
    exact ⟨rfl, Below.refl _ _⟩
  · have e0 : ((n : Int) == 0) = false := beq_false_of_ne (by omega)
    have f0 : ¬ (n : Int) = 0 := by omega
    have HD := Lib.hid (decOf_len64 hn)
    have HT : Hid (digitsT n neg = if neg = true then 45 :: decOf n else decOf n) := Lib.hid (by unfold digitsT; rw [if_neg h0])
    go_enter Tryz.func35, Tryz.ntmps35
    go_wp2
    go_loopw [5, 6] (fun v x wr => ∃ (u : Nat) (l : List UInt8) (o : ByteArray), x = .int .u64 (u : Int) ∧ v = .string o ∧ o = strOf l ∧ u < 18446744073709551616 ∧ decOf n = decOf u ++ l ∧ Below w.heap.size w wr) (fun _ x _ => (intOf x).toNat)
    case atStart => exact ⟨n, [], _, rfl, rfl, strOf_nil.symm, hn, (List.append_nil _).symm, Below.refl _ _⟩
    case round =>
      obtain ⟨u, l, o, rfl, rfl, ho, hu, hd, hbel⟩ := hrel
      have hll : l.length ≤ 20 := by have := HD.out; rw [hd, List.length_append] at this; omega
      have hos : o.size = l.length := by rw [ho, str_size]
      have HO := Lib.hid ho
      have HDD := Lib.hid hd
      have HB := Lib.hid hbel
      clear ho hd hbel
      by_cases hu0 : u = 0
      · subst hu0
        have HL : Hid (decOf n = l) := Lib.hid (by rw [HDD.out, decOf_zero, List.nil_append])
        have hc : ¬ 9223372036854775807 < 1 + o.size := by omega
        cases neg with
        | true =>
          rw [if_pos rfl] at HT
          go_wp2
          go_ret
          refine ⟨?_, HB.out⟩
          rw [HT.out, HL.out, show (45 :: l) = [45] ++ l from rfl, ← strOf_append, ← HO.out]
          rfl
        | false =>
          rw [if_neg (by simp)] at HT
          go_wp2
          go_ret
          exact ⟨by rw [HT.out, HL.out, ← HO.out]; rfl, HB.out⟩
      · have g2 : decide ((u : Int) > 0) = true := decide_eq_true (by omega)
        have g3 : decide (0 < u) = true := decide_eq_true (by omega)
        have g4 : 0 < u := by omega
        obtain ⟨d, hd⟩ : ∃ d : UInt8, d = (48 + u % 10).toUInt8 := ⟨_, rfl⟩
        have hdn : (d.toNat : Int) = 48 + (u : Int) % 10 := by
          rw [hd, show ((48 + u % 10).toUInt8).toNat = (48 + u % 10) % 256 from rfl]; omega
        obtain ⟨sd, hsd⟩ : ∃ sd, sd = strOf [d] := ⟨_, rfl⟩
        have hcap : ¬ 9223372036854775807 < sd.size + o.size := by rw [hsd, str_size, List.length_singleton]; omega
        have hcv : (convert 45 9 (.slice (some ⟨wr.heap.size, 0, none⟩) 1 1)).run Tryz.prog (wr.alloc (.cells #[.int .u8 (48 + (u : Int) % 10)] 5)) = .ok (.string sd) (wr.alloc (.cells #[.int .u8 (48 + (u : Int) % 10)] 5)) := by
          rw [hsd]
          exact run_string_bytes (P := Tryz.prog) (Bs.lit wr _ _ [d] (by simp [cellsOf, hdn]) (by simp only [List.length_cons, List.length_nil]; unfold maxLen; omega)) Tryz.underlying45 Tryz.underlying5 Tryz.underlying9
        have HSD := Lib.hid hsd
        have HDE := Lib.hid hd
        clear hsd hd hdn
        go_wp2
        go_roundw
        case rel =>
          refine ⟨u / 10, d :: l, _, by go_num, rfl, ?_, by omega, ?_, HB.out.alloc HB.out.size _⟩
          · rw [HSD.out, HO.out, strOf_append]; rfl
          · rw [HDD.out, decOf_pos hu0, List.append_assoc, ← HDE.out]; rfl
        case measure => simp [intOf]; omega

end Go.Proofs.YtjogamffdbedkaaGreatDoor

/- The document's token that a text begins with. Conditions: what number answers; those that each theorem names. -/
namespace Go.Proofs.YtjogamffdbedkaaGreatDoor
open Go.RowKit
set_option linter.unusedVariables false
set_option maxRecDepth 100000

structure Tk where
  kind : Int
  s : List UInt8
  n : Nat
  neg : Bool
  pos : Nat
end Go.Proofs.YtjogamffdbedkaaGreatDoor

/- Layer 10 in plain words (no program here): what is quoted, and what is written as digits, is read as it. -/
namespace Go.Proofs.YtjogamffdbedkaaGreatDoor
set_option linter.unusedVariables false

theorem digit_nat (d : Nat) (h : d < 10) : ((48 + d).toUInt8).toNat = 48 + d := by
  show (48 + d) % 256 = 48 + d
  omega
theorem decOf_digits : ∀ (k n : Nat), n ≤ k → ∀ c ∈ decOf n, digitB c = true
  | 0, n, h, c, hc => by
    obtain rfl : n = 0 := by omega
    rw [decOf_zero] at hc
    cases hc
  | k + 1, n, h, c, hc => by
    by_cases h0 : n = 0
    · subst h0; rw [decOf_zero] at hc; cases hc
    · rw [decOf_pos h0, List.mem_append] at hc
      rcases hc with hc | hc
      · exact decOf_digits k (n / 10) (by omega) c hc
      · rw [List.mem_singleton] at hc
        rw [hc, digitB_iff, digit_nat (n % 10) (by omega)]
        omega
theorem decOf_val : ∀ (k n : Nat), n ≤ k → valOf 0 (decOf n) = n
  | 0, n, h => by
    obtain rfl : n = 0 := by omega
    rw [decOf_zero]; rfl
  | k + 1, n, h => by
    by_cases h0 : n = 0
    · subst h0; rw [decOf_zero]; rfl
    · rw [decOf_pos h0, valOf_append, decOf_val k (n / 10) (by omega), valOf_cons, digit_nat _ (by omega)]
      show 10 * (n / 10) + (48 + n % 10 - 48) = n
      omega
end Go.Proofs.YtjogamffdbedkaaGreatDoor
