/- The program's layer 9: word. Conditions: those that each theorem names. -/
import Derived.Test.YtnbjpeefndcheaaDoorIwA
namespace Go.Proofs.YtnbjpeefndcheaaDoor
open Go.RowKit
set_option linter.unusedVariables false
set_option maxRecDepth 100000

theorem pword_0 (w : World) : Calls Tryd.prog 30 #[.string (strOf [101, 110, 117, 109])] w fun e w' => e = .returned (.bool true) ∧ w = w' := by
  obtain ⟨str, hstr⟩ : ∃ str, str = strOf [101, 110, 117, 109] := ⟨_, rfl⟩
  have hl : str.toList = [101, 110, 117, 109] := by rw [hstr, str_list]
  rw [← hstr]
  have b0 : (str.toList == [101, 110, 117, 109]) = true := by rw [hl]; decide
  clear hl hstr
  go_enter Tryd.func30, Tryd.ntmps30
  go_wp2
  go_ret
  exact ⟨rfl, rfl⟩
theorem pword_1 (w : World) : Calls Tryd.prog 30 #[.string (strOf [109, 101, 115, 115, 97, 103, 101])] w fun e w' => e = .returned (.bool true) ∧ w = w' := by
  obtain ⟨str, hstr⟩ : ∃ str, str = strOf [109, 101, 115, 115, 97, 103, 101] := ⟨_, rfl⟩
  have hl : str.toList = [109, 101, 115, 115, 97, 103, 101] := by rw [hstr, str_list]
  rw [← hstr]
  have b0 : (str.toList == [101, 110, 117, 109]) = false := by rw [hl]; decide
  have b1 : (str.toList == [109, 101, 115, 115, 97, 103, 101]) = true := by rw [hl]; decide
  clear hl hstr
  go_enter Tryd.func30, Tryd.ntmps30
  go_wp2
  go_ret
  exact ⟨rfl, rfl⟩
theorem pword_2 (w : World) : Calls Tryd.prog 30 #[.string (strOf [111, 110, 101, 111, 102])] w fun e w' => e = .returned (.bool true) ∧ w = w' := by
  obtain ⟨str, hstr⟩ : ∃ str, str = strOf [111, 110, 101, 111, 102] := ⟨_, rfl⟩
  have hl : str.toList = [111, 110, 101, 111, 102] := by rw [hstr, str_list]
  rw [← hstr]
  have b0 : (str.toList == [101, 110, 117, 109]) = false := by rw [hl]; decide
  have b1 : (str.toList == [109, 101, 115, 115, 97, 103, 101]) = false := by rw [hl]; decide
  have b2 : (str.toList == [111, 110, 101, 111, 102]) = true := by rw [hl]; decide
  clear hl hstr
  go_enter Tryd.func30, Tryd.ntmps30
  go_wp2
  go_ret
  exact ⟨rfl, rfl⟩
theorem pword_3 (w : World) : Calls Tryd.prog 30 #[.string (strOf [114, 101, 112, 101, 97, 116, 101, 100])] w fun e w' => e = .returned (.bool true) ∧ w = w' := by
  obtain ⟨str, hstr⟩ : ∃ str, str = strOf [114, 101, 112, 101, 97, 116, 101, 100] := ⟨_, rfl⟩
  have hl : str.toList = [114, 101, 112, 101, 97, 116, 101, 100] := by rw [hstr, str_list]
  rw [← hstr]
  have b0 : (str.toList == [101, 110, 117, 109]) = false := by rw [hl]; decide
  have b1 : (str.toList == [109, 101, 115, 115, 97, 103, 101]) = false := by rw [hl]; decide
  have b2 : (str.toList == [111, 110, 101, 111, 102]) = false := by rw [hl]; decide
  have b3 : (str.toList == [114, 101, 112, 101, 97, 116, 101, 100]) = true := by rw [hl]; decide
  clear hl hstr
  go_enter Tryd.func30, Tryd.ntmps30
  go_wp2
  go_ret
  exact ⟨rfl, rfl⟩
theorem pword_4 (w : World) : Calls Tryd.prog 30 #[.string (strOf [114, 101, 115, 101, 114, 118, 101, 100])] w fun e w' => e = .returned (.bool true) ∧ w = w' := by
  obtain ⟨str, hstr⟩ : ∃ str, str = strOf [114, 101, 115, 101, 114, 118, 101, 100] := ⟨_, rfl⟩
  have hl : str.toList = [114, 101, 115, 101, 114, 118, 101, 100] := by rw [hstr, str_list]
  rw [← hstr]
  have b0 : (str.toList == [101, 110, 117, 109]) = false := by rw [hl]; decide
  have b1 : (str.toList == [109, 101, 115, 115, 97, 103, 101]) = false := by rw [hl]; decide
  have b2 : (str.toList == [111, 110, 101, 111, 102]) = false := by rw [hl]; decide
  have b3 : (str.toList == [114, 101, 112, 101, 97, 116, 101, 100]) = false := by rw [hl]; decide
  have b4 : (str.toList == [114, 101, 115, 101, 114, 118, 101, 100]) = true := by rw [hl]; decide
  clear hl hstr
  go_enter Tryd.func30, Tryd.ntmps30
  go_wp2
  go_ret
  exact ⟨rfl, rfl⟩
theorem pword_5 (w : World) : Calls Tryd.prog 30 #[.string (strOf [108, 111, 111, 115, 101])] w fun e w' => e = .returned (.bool true) ∧ w = w' := by
  obtain ⟨str, hstr⟩ : ∃ str, str = strOf [108, 111, 111, 115, 101] := ⟨_, rfl⟩
  have hl : str.toList = [108, 111, 111, 115, 101] := by rw [hstr, str_list]
  rw [← hstr]
  have b0 : (str.toList == [101, 110, 117, 109]) = false := by rw [hl]; decide
  have b1 : (str.toList == [109, 101, 115, 115, 97, 103, 101]) = false := by rw [hl]; decide
  have b2 : (str.toList == [111, 110, 101, 111, 102]) = false := by rw [hl]; decide
  have b3 : (str.toList == [114, 101, 112, 101, 97, 116, 101, 100]) = false := by rw [hl]; decide
  have b4 : (str.toList == [114, 101, 115, 101, 114, 118, 101, 100]) = false := by rw [hl]; decide
  have b5 : (str.toList == [108, 111, 111, 115, 101]) = true := by rw [hl]; decide
  clear hl hstr
  go_enter Tryd.func30, Tryd.ntmps30
  go_wp2
  go_ret
  exact ⟨rfl, rfl⟩
theorem pword_6 (w : World) : Calls Tryd.prog 30 #[.string (strOf [105, 110, 116, 51, 50])] w fun e w' => e = .returned (.bool true) ∧ w = w' := by
  obtain ⟨str, hstr⟩ : ∃ str, str = strOf [105, 110, 116, 51, 50] := ⟨_, rfl⟩
  have hl : str.toList = [105, 110, 116, 51, 50] := by rw [hstr, str_list]
  rw [← hstr]
  have b0 : (str.toList == [101, 110, 117, 109]) = false := by rw [hl]; decide
  have b1 : (str.toList == [109, 101, 115, 115, 97, 103, 101]) = false := by rw [hl]; decide
  have b2 : (str.toList == [111, 110, 101, 111, 102]) = false := by rw [hl]; decide
  have b3 : (str.toList == [114, 101, 112, 101, 97, 116, 101, 100]) = false := by rw [hl]; decide
  have b4 : (str.toList == [114, 101, 115, 101, 114, 118, 101, 100]) = false := by rw [hl]; decide
  have b5 : (str.toList == [108, 111, 111, 115, 101]) = false := by rw [hl]; decide
  have b6 : (str.toList == [105, 110, 116, 51, 50]) = true := by rw [hl]; decide
  clear hl hstr
  go_enter Tryd.func30, Tryd.ntmps30
  go_wp2
  go_ret
  exact ⟨rfl, rfl⟩
theorem pword_7 (w : World) : Calls Tryd.prog 30 #[.string (strOf [105, 110, 116, 54, 52])] w fun e w' => e = .returned (.bool true) ∧ w = w' := by
  obtain ⟨str, hstr⟩ : ∃ str, str = strOf [105, 110, 116, 54, 52] := ⟨_, rfl⟩
  have hl : str.toList = [105, 110, 116, 54, 52] := by rw [hstr, str_list]
  rw [← hstr]
  have b0 : (str.toList == [101, 110, 117, 109]) = false := by rw [hl]; decide
  have b1 : (str.toList == [109, 101, 115, 115, 97, 103, 101]) = false := by rw [hl]; decide
  have b2 : (str.toList == [111, 110, 101, 111, 102]) = false := by rw [hl]; decide
  have b3 : (str.toList == [114, 101, 112, 101, 97, 116, 101, 100]) = false := by rw [hl]; decide
  have b4 : (str.toList == [114, 101, 115, 101, 114, 118, 101, 100]) = false := by rw [hl]; decide
  have b5 : (str.toList == [108, 111, 111, 115, 101]) = false := by rw [hl]; decide
  have b6 : (str.toList == [105, 110, 116, 51, 50]) = false := by rw [hl]; decide
  have b7 : (str.toList == [105, 110, 116, 54, 52]) = true := by rw [hl]; decide
  clear hl hstr
  go_enter Tryd.func30, Tryd.ntmps30
  go_wp2
  go_ret
  exact ⟨rfl, rfl⟩
theorem pword_8 (w : World) : Calls Tryd.prog 30 #[.string (strOf [117, 105, 110, 116, 51, 50])] w fun e w' => e = .returned (.bool true) ∧ w = w' := by
  obtain ⟨str, hstr⟩ : ∃ str, str = strOf [117, 105, 110, 116, 51, 50] := ⟨_, rfl⟩
  have hl : str.toList = [117, 105, 110, 116, 51, 50] := by rw [hstr, str_list]
  rw [← hstr]
  have b0 : (str.toList == [101, 110, 117, 109]) = false := by rw [hl]; decide
  have b1 : (str.toList == [109, 101, 115, 115, 97, 103, 101]) = false := by rw [hl]; decide
  have b2 : (str.toList == [111, 110, 101, 111, 102]) = false := by rw [hl]; decide
  have b3 : (str.toList == [114, 101, 112, 101, 97, 116, 101, 100]) = false := by rw [hl]; decide
  have b4 : (str.toList == [114, 101, 115, 101, 114, 118, 101, 100]) = false := by rw [hl]; decide
  have b5 : (str.toList == [108, 111, 111, 115, 101]) = false := by rw [hl]; decide
  have b6 : (str.toList == [105, 110, 116, 51, 50]) = false := by rw [hl]; decide
  have b7 : (str.toList == [105, 110, 116, 54, 52]) = false := by rw [hl]; decide
  have b8 : (str.toList == [117, 105, 110, 116, 51, 50]) = true := by rw [hl]; decide
  clear hl hstr
  go_enter Tryd.func30, Tryd.ntmps30
  go_wp2
  go_ret
  exact ⟨rfl, rfl⟩
theorem pword_9 (w : World) : Calls Tryd.prog 30 #[.string (strOf [117, 105, 110, 116, 54, 52])] w fun e w' => e = .returned (.bool true) ∧ w = w' := by
  obtain ⟨str, hstr⟩ : ∃ str, str = strOf [117, 105, 110, 116, 54, 52] := ⟨_, rfl⟩
  have hl : str.toList = [117, 105, 110, 116, 54, 52] := by rw [hstr, str_list]
  rw [← hstr]
  have b0 : (str.toList == [101, 110, 117, 109]) = false := by rw [hl]; decide
  have b1 : (str.toList == [109, 101, 115, 115, 97, 103, 101]) = false := by rw [hl]; decide
  have b2 : (str.toList == [111, 110, 101, 111, 102]) = false := by rw [hl]; decide
  have b3 : (str.toList == [114, 101, 112, 101, 97, 116, 101, 100]) = false := by rw [hl]; decide
  have b4 : (str.toList == [114, 101, 115, 101, 114, 118, 101, 100]) = false := by rw [hl]; decide
  have b5 : (str.toList == [108, 111, 111, 115, 101]) = false := by rw [hl]; decide
  have b6 : (str.toList == [105, 110, 116, 51, 50]) = false := by rw [hl]; decide
  have b7 : (str.toList == [105, 110, 116, 54, 52]) = false := by rw [hl]; decide
  have b8 : (str.toList == [117, 105, 110, 116, 51, 50]) = false := by rw [hl]; decide
  have b9 : (str.toList == [117, 105, 110, 116, 54, 52]) = true := by rw [hl]; decide
  clear hl hstr
  go_enter Tryd.func30, Tryd.ntmps30
  go_wp2
  go_ret
  exact ⟨rfl, rfl⟩
theorem pword_10 (w : World) : Calls Tryd.prog 30 #[.string (strOf [115, 105, 110, 116, 51, 50])] w fun e w' => e = .returned (.bool true) ∧ w = w' := by
  obtain ⟨str, hstr⟩ : ∃ str, str = strOf [115, 105, 110, 116, 51, 50] := ⟨_, rfl⟩
  have hl : str.toList = [115, 105, 110, 116, 51, 50] := by rw [hstr, str_list]
  rw [← hstr]
  have b0 : (str.toList == [101, 110, 117, 109]) = false := by rw [hl]; decide
  have b1 : (str.toList == [109, 101, 115, 115, 97, 103, 101]) = false := by rw [hl]; decide
  have b2 : (str.toList == [111, 110, 101, 111, 102]) = false := by rw [hl]; decide
  have b3 : (str.toList == [114, 101, 112, 101, 97, 116, 101, 100]) = false := by rw [hl]; decide
  have b4 : (str.toList == [114, 101, 115, 101, 114, 118, 101, 100]) = false := by rw [hl]; decide
  have b5 : (str.toList == [108, 111, 111, 115, 101]) = false := by rw [hl]; decide
  have b6 : (str.toList == [105, 110, 116, 51, 50]) = false := by rw [hl]; decide
  have b7 : (str.toList == [105, 110, 116, 54, 52]) = false := by rw [hl]; decide
  have b8 : (str.toList == [117, 105, 110, 116, 51, 50]) = false := by rw [hl]; decide
  have b9 : (str.toList == [117, 105, 110, 116, 54, 52]) = false := by rw [hl]; decide
  have b10 : (str.toList == [115, 105, 110, 116, 51, 50]) = true := by rw [hl]; decide
  clear hl hstr
  go_enter Tryd.func30, Tryd.ntmps30
  go_wp2
  go_ret
  exact ⟨rfl, rfl⟩
theorem pword_11 (w : World) : Calls Tryd.prog 30 #[.string (strOf [115, 105, 110, 116, 54, 52])] w fun e w' => e = .returned (.bool true) ∧ w = w' := by
  obtain ⟨str, hstr⟩ : ∃ str, str = strOf [115, 105, 110, 116, 54, 52] := ⟨_, rfl⟩
  have hl : str.toList = [115, 105, 110, 116, 54, 52] := by rw [hstr, str_list]
  rw [← hstr]
  have b0 : (str.toList == [101, 110, 117, 109]) = false := by rw [hl]; decide
  have b1 : (str.toList == [109, 101, 115, 115, 97, 103, 101]) = false := by rw [hl]; decide
  have b2 : (str.toList == [111, 110, 101, 111, 102]) = false := by rw [hl]; decide
  have b3 : (str.toList == [114, 101, 112, 101, 97, 116, 101, 100]) = false := by rw [hl]; decide
  have b4 : (str.toList == [114, 101, 115, 101, 114, 118, 101, 100]) = false := by rw [hl]; decide
  have b5 : (str.toList == [108, 111, 111, 115, 101]) = false := by rw [hl]; decide
  have b6 : (str.toList == [105, 110, 116, 51, 50]) = false := by rw [hl]; decide
  have b7 : (str.toList == [105, 110, 116, 54, 52]) = false := by rw [hl]; decide
  have b8 : (str.toList == [117, 105, 110, 116, 51, 50]) = false := by rw [hl]; decide
  have b9 : (str.toList == [117, 105, 110, 116, 54, 52]) = false := by rw [hl]; decide
  have b10 : (str.toList == [115, 105, 110, 116, 51, 50]) = false := by rw [hl]; decide
  have b11 : (str.toList == [115, 105, 110, 116, 54, 52]) = true := by rw [hl]; decide
  clear hl hstr
  go_enter Tryd.func30, Tryd.ntmps30
  go_wp2
  go_ret
  exact ⟨rfl, rfl⟩
theorem pword_12 (w : World) : Calls Tryd.prog 30 #[.string (strOf [98, 111, 111, 108])] w fun e w' => e = .returned (.bool true) ∧ w = w' := by
  obtain ⟨str, hstr⟩ : ∃ str, str = strOf [98, 111, 111, 108] := ⟨_, rfl⟩
  have hl : str.toList = [98, 111, 111, 108] := by rw [hstr, str_list]
  rw [← hstr]
  have b0 : (str.toList == [101, 110, 117, 109]) = false := by rw [hl]; decide
  have b1 : (str.toList == [109, 101, 115, 115, 97, 103, 101]) = false := by rw [hl]; decide
  have b2 : (str.toList == [111, 110, 101, 111, 102]) = false := by rw [hl]; decide
  have b3 : (str.toList == [114, 101, 112, 101, 97, 116, 101, 100]) = false := by rw [hl]; decide
  have b4 : (str.toList == [114, 101, 115, 101, 114, 118, 101, 100]) = false := by rw [hl]; decide
  have b5 : (str.toList == [108, 111, 111, 115, 101]) = false := by rw [hl]; decide
  have b6 : (str.toList == [105, 110, 116, 51, 50]) = false := by rw [hl]; decide
  have b7 : (str.toList == [105, 110, 116, 54, 52]) = false := by rw [hl]; decide
  have b8 : (str.toList == [117, 105, 110, 116, 51, 50]) = false := by rw [hl]; decide
  have b9 : (str.toList == [117, 105, 110, 116, 54, 52]) = false := by rw [hl]; decide
  have b10 : (str.toList == [115, 105, 110, 116, 51, 50]) = false := by rw [hl]; decide
  have b11 : (str.toList == [115, 105, 110, 116, 54, 52]) = false := by rw [hl]; decide
  have b12 : (str.toList == [98, 111, 111, 108]) = true := by rw [hl]; decide
  clear hl hstr
  go_enter Tryd.func30, Tryd.ntmps30
  go_wp2
  go_ret
  exact ⟨rfl, rfl⟩
theorem pword_13 (w : World) : Calls Tryd.prog 30 #[.string (strOf [102, 105, 120, 101, 100, 51, 50])] w fun e w' => e = .returned (.bool true) ∧ w = w' := by
  obtain ⟨str, hstr⟩ : ∃ str, str = strOf [102, 105, 120, 101, 100, 51, 50] := ⟨_, rfl⟩
  have hl : str.toList = [102, 105, 120, 101, 100, 51, 50] := by rw [hstr, str_list]
  rw [← hstr]
  have b0 : (str.toList == [101, 110, 117, 109]) = false := by rw [hl]; decide
  have b1 : (str.toList == [109, 101, 115, 115, 97, 103, 101]) = false := by rw [hl]; decide
  have b2 : (str.toList == [111, 110, 101, 111, 102]) = false := by rw [hl]; decide
  have b3 : (str.toList == [114, 101, 112, 101, 97, 116, 101, 100]) = false := by rw [hl]; decide
  have b4 : (str.toList == [114, 101, 115, 101, 114, 118, 101, 100]) = false := by rw [hl]; decide
  have b5 : (str.toList == [108, 111, 111, 115, 101]) = false := by rw [hl]; decide
  have b6 : (str.toList == [105, 110, 116, 51, 50]) = false := by rw [hl]; decide
  have b7 : (str.toList == [105, 110, 116, 54, 52]) = false := by rw [hl]; decide
  have b8 : (str.toList == [117, 105, 110, 116, 51, 50]) = false := by rw [hl]; decide
  have b9 : (str.toList == [117, 105, 110, 116, 54, 52]) = false := by rw [hl]; decide
  have b10 : (str.toList == [115, 105, 110, 116, 51, 50]) = false := by rw [hl]; decide
  have b11 : (str.toList == [115, 105, 110, 116, 54, 52]) = false := by rw [hl]; decide
  have b12 : (str.toList == [98, 111, 111, 108]) = false := by rw [hl]; decide
  have b13 : (str.toList == [102, 105, 120, 101, 100, 51, 50]) = true := by rw [hl]; decide
  clear hl hstr
  go_enter Tryd.func30, Tryd.ntmps30
  go_wp2
  go_ret
  exact ⟨rfl, rfl⟩
theorem pword_14 (w : World) : Calls Tryd.prog 30 #[.string (strOf [102, 105, 120, 101, 100, 54, 52])] w fun e w' => e = .returned (.bool true) ∧ w = w' := by
  obtain ⟨str, hstr⟩ : ∃ str, str = strOf [102, 105, 120, 101, 100, 54, 52] := ⟨_, rfl⟩
  have hl : str.toList = [102, 105, 120, 101, 100, 54, 52] := by rw [hstr, str_list]
  rw [← hstr]
  have b0 : (str.toList == [101, 110, 117, 109]) = false := by rw [hl]; decide
  have b1 : (str.toList == [109, 101, 115, 115, 97, 103, 101]) = false := by rw [hl]; decide
  have b2 : (str.toList == [111, 110, 101, 111, 102]) = false := by rw [hl]; decide
  have b3 : (str.toList == [114, 101, 112, 101, 97, 116, 101, 100]) = false := by rw [hl]; decide
  have b4 : (str.toList == [114, 101, 115, 101, 114, 118, 101, 100]) = false := by rw [hl]; decide
  have b5 : (str.toList == [108, 111, 111, 115, 101]) = false := by rw [hl]; decide
  have b6 : (str.toList == [105, 110, 116, 51, 50]) = false := by rw [hl]; decide
  have b7 : (str.toList == [105, 110, 116, 54, 52]) = false := by rw [hl]; decide
  have b8 : (str.toList == [117, 105, 110, 116, 51, 50]) = false := by rw [hl]; decide
  have b9 : (str.toList == [117, 105, 110, 116, 54, 52]) = false := by rw [hl]; decide
  have b10 : (str.toList == [115, 105, 110, 116, 51, 50]) = false := by rw [hl]; decide
  have b11 : (str.toList == [115, 105, 110, 116, 54, 52]) = false := by rw [hl]; decide
  have b12 : (str.toList == [98, 111, 111, 108]) = false := by rw [hl]; decide
  have b13 : (str.toList == [102, 105, 120, 101, 100, 51, 50]) = false := by rw [hl]; decide
  have b14 : (str.toList == [102, 105, 120, 101, 100, 54, 52]) = true := by rw [hl]; decide
  clear hl hstr
  go_enter Tryd.func30, Tryd.ntmps30
  go_wp2
  go_ret
  exact ⟨rfl, rfl⟩
theorem pword_15 (w : World) : Calls Tryd.prog 30 #[.string (strOf [115, 102, 105, 120, 101, 100, 51, 50])] w fun e w' => e = .returned (.bool true) ∧ w = w' := by
  obtain ⟨str, hstr⟩ : ∃ str, str = strOf [115, 102, 105, 120, 101, 100, 51, 50] := ⟨_, rfl⟩
  have hl : str.toList = [115, 102, 105, 120, 101, 100, 51, 50] := by rw [hstr, str_list]
  rw [← hstr]
  have b0 : (str.toList == [101, 110, 117, 109]) = false := by rw [hl]; decide
  have b1 : (str.toList == [109, 101, 115, 115, 97, 103, 101]) = false := by rw [hl]; decide
  have b2 : (str.toList == [111, 110, 101, 111, 102]) = false := by rw [hl]; decide
  have b3 : (str.toList == [114, 101, 112, 101, 97, 116, 101, 100]) = false := by rw [hl]; decide
  have b4 : (str.toList == [114, 101, 115, 101, 114, 118, 101, 100]) = false := by rw [hl]; decide
  have b5 : (str.toList == [108, 111, 111, 115, 101]) = false := by rw [hl]; decide
  have b6 : (str.toList == [105, 110, 116, 51, 50]) = false := by rw [hl]; decide
  have b7 : (str.toList == [105, 110, 116, 54, 52]) = false := by rw [hl]; decide
  have b8 : (str.toList == [117, 105, 110, 116, 51, 50]) = false := by rw [hl]; decide
  have b9 : (str.toList == [117, 105, 110, 116, 54, 52]) = false := by rw [hl]; decide
  have b10 : (str.toList == [115, 105, 110, 116, 51, 50]) = false := by rw [hl]; decide
  have b11 : (str.toList == [115, 105, 110, 116, 54, 52]) = false := by rw [hl]; decide
  have b12 : (str.toList == [98, 111, 111, 108]) = false := by rw [hl]; decide
  have b13 : (str.toList == [102, 105, 120, 101, 100, 51, 50]) = false := by rw [hl]; decide
  have b14 : (str.toList == [102, 105, 120, 101, 100, 54, 52]) = false := by rw [hl]; decide
  have b15 : (str.toList == [115, 102, 105, 120, 101, 100, 51, 50]) = true := by rw [hl]; decide
  clear hl hstr
  go_enter Tryd.func30, Tryd.ntmps30
  go_wp2
  go_ret
  exact ⟨rfl, rfl⟩
theorem pword_16 (w : World) : Calls Tryd.prog 30 #[.string (strOf [115, 102, 105, 120, 101, 100, 54, 52])] w fun e w' => e = .returned (.bool true) ∧ w = w' := by
  obtain ⟨str, hstr⟩ : ∃ str, str = strOf [115, 102, 105, 120, 101, 100, 54, 52] := ⟨_, rfl⟩
  have hl : str.toList = [115, 102, 105, 120, 101, 100, 54, 52] := by rw [hstr, str_list]
  rw [← hstr]
  have b0 : (str.toList == [101, 110, 117, 109]) = false := by rw [hl]; decide
  have b1 : (str.toList == [109, 101, 115, 115, 97, 103, 101]) = false := by rw [hl]; decide
  have b2 : (str.toList == [111, 110, 101, 111, 102]) = false := by rw [hl]; decide
  have b3 : (str.toList == [114, 101, 112, 101, 97, 116, 101, 100]) = false := by rw [hl]; decide
  have b4 : (str.toList == [114, 101, 115, 101, 114, 118, 101, 100]) = false := by rw [hl]; decide
  have b5 : (str.toList == [108, 111, 111, 115, 101]) = false := by rw [hl]; decide
  have b6 : (str.toList == [105, 110, 116, 51, 50]) = false := by rw [hl]; decide
  have b7 : (str.toList == [105, 110, 116, 54, 52]) = false := by rw [hl]; decide
  have b8 : (str.toList == [117, 105, 110, 116, 51, 50]) = false := by rw [hl]; decide
  have b9 : (str.toList == [117, 105, 110, 116, 54, 52]) = false := by rw [hl]; decide
  have b10 : (str.toList == [115, 105, 110, 116, 51, 50]) = false := by rw [hl]; decide
  have b11 : (str.toList == [115, 105, 110, 116, 54, 52]) = false := by rw [hl]; decide
  have b12 : (str.toList == [98, 111, 111, 108]) = false := by rw [hl]; decide
  have b13 : (str.toList == [102, 105, 120, 101, 100, 51, 50]) = false := by rw [hl]; decide
  have b14 : (str.toList == [102, 105, 120, 101, 100, 54, 52]) = false := by rw [hl]; decide
  have b15 : (str.toList == [115, 102, 105, 120, 101, 100, 51, 50]) = false := by rw [hl]; decide
  have b16 : (str.toList == [115, 102, 105, 120, 101, 100, 54, 52]) = true := by rw [hl]; decide
  clear hl hstr
  go_enter Tryd.func30, Tryd.ntmps30
  go_wp2
  go_ret
  exact ⟨rfl, rfl⟩
theorem pword_17 (w : World) : Calls Tryd.prog 30 #[.string (strOf [115, 116, 114, 105, 110, 103])] w fun e w' => e = .returned (.bool true) ∧ w = w' := by
  obtain ⟨str, hstr⟩ : ∃ str, str = strOf [115, 116, 114, 105, 110, 103] := ⟨_, rfl⟩
  have hl : str.toList = [115, 116, 114, 105, 110, 103] := by rw [hstr, str_list]
  rw [← hstr]
  have b0 : (str.toList == [101, 110, 117, 109]) = false := by rw [hl]; decide
  have b1 : (str.toList == [109, 101, 115, 115, 97, 103, 101]) = false := by rw [hl]; decide
  have b2 : (str.toList == [111, 110, 101, 111, 102]) = false := by rw [hl]; decide
  have b3 : (str.toList == [114, 101, 112, 101, 97, 116, 101, 100]) = false := by rw [hl]; decide
  have b4 : (str.toList == [114, 101, 115, 101, 114, 118, 101, 100]) = false := by rw [hl]; decide
  have b5 : (str.toList == [108, 111, 111, 115, 101]) = false := by rw [hl]; decide
  have b6 : (str.toList == [105, 110, 116, 51, 50]) = false := by rw [hl]; decide
  have b7 : (str.toList == [105, 110, 116, 54, 52]) = false := by rw [hl]; decide
  have b8 : (str.toList == [117, 105, 110, 116, 51, 50]) = false := by rw [hl]; decide
  have b9 : (str.toList == [117, 105, 110, 116, 54, 52]) = false := by rw [hl]; decide
  have b10 : (str.toList == [115, 105, 110, 116, 51, 50]) = false := by rw [hl]; decide
  have b11 : (str.toList == [115, 105, 110, 116, 54, 52]) = false := by rw [hl]; decide
  have b12 : (str.toList == [98, 111, 111, 108]) = false := by rw [hl]; decide
  have b13 : (str.toList == [102, 105, 120, 101, 100, 51, 50]) = false := by rw [hl]; decide
  have b14 : (str.toList == [102, 105, 120, 101, 100, 54, 52]) = false := by rw [hl]; decide
  have b15 : (str.toList == [115, 102, 105, 120, 101, 100, 51, 50]) = false := by rw [hl]; decide
  have b16 : (str.toList == [115, 102, 105, 120, 101, 100, 54, 52]) = false := by rw [hl]; decide
  have b17 : (str.toList == [115, 116, 114, 105, 110, 103]) = true := by rw [hl]; decide
  clear hl hstr
  go_enter Tryd.func30, Tryd.ntmps30
  go_wp2
  go_ret
  exact ⟨rfl, rfl⟩
theorem pword_18 (w : World) : Calls Tryd.prog 30 #[.string (strOf [98, 121, 116, 101, 115])] w fun e w' => e = .returned (.bool true) ∧ w = w' := by
  obtain ⟨str, hstr⟩ : ∃ str, str = strOf [98, 121, 116, 101, 115] := ⟨_, rfl⟩
  have hl : str.toList = [98, 121, 116, 101, 115] := by rw [hstr, str_list]
  rw [← hstr]
  have b0 : (str.toList == [101, 110, 117, 109]) = false := by rw [hl]; decide
  have b1 : (str.toList == [109, 101, 115, 115, 97, 103, 101]) = false := by rw [hl]; decide
  have b2 : (str.toList == [111, 110, 101, 111, 102]) = false := by rw [hl]; decide
  have b3 : (str.toList == [114, 101, 112, 101, 97, 116, 101, 100]) = false := by rw [hl]; decide
  have b4 : (str.toList == [114, 101, 115, 101, 114, 118, 101, 100]) = false := by rw [hl]; decide
  have b5 : (str.toList == [108, 111, 111, 115, 101]) = false := by rw [hl]; decide
  have b6 : (str.toList == [105, 110, 116, 51, 50]) = false := by rw [hl]; decide
  have b7 : (str.toList == [105, 110, 116, 54, 52]) = false := by rw [hl]; decide
  have b8 : (str.toList == [117, 105, 110, 116, 51, 50]) = false := by rw [hl]; decide
  have b9 : (str.toList == [117, 105, 110, 116, 54, 52]) = false := by rw [hl]; decide
  have b10 : (str.toList == [115, 105, 110, 116, 51, 50]) = false := by rw [hl]; decide
  have b11 : (str.toList == [115, 105, 110, 116, 54, 52]) = false := by rw [hl]; decide
  have b12 : (str.toList == [98, 111, 111, 108]) = false := by rw [hl]; decide
  have b13 : (str.toList == [102, 105, 120, 101, 100, 51, 50]) = false := by rw [hl]; decide
  have b14 : (str.toList == [102, 105, 120, 101, 100, 54, 52]) = false := by rw [hl]; decide
  have b15 : (str.toList == [115, 102, 105, 120, 101, 100, 51, 50]) = false := by rw [hl]; decide
  have b16 : (str.toList == [115, 102, 105, 120, 101, 100, 54, 52]) = false := by rw [hl]; decide
  have b17 : (str.toList == [115, 116, 114, 105, 110, 103]) = false := by rw [hl]; decide
  have b18 : (str.toList == [98, 121, 116, 101, 115]) = true := by rw [hl]; decide
  clear hl hstr
  go_enter Tryd.func30, Tryd.ntmps30
  go_wp2
  go_ret
  exact ⟨rfl, rfl⟩
theorem pword_19 (w : World) : Calls Tryd.prog 30 #[.string (strOf [114, 101, 110, 97, 109, 101])] w fun e w' => e = .returned (.bool true) ∧ w = w' := by
  obtain ⟨str, hstr⟩ : ∃ str, str = strOf [114, 101, 110, 97, 109, 101] := ⟨_, rfl⟩
  have hl : str.toList = [114, 101, 110, 97, 109, 101] := by rw [hstr, str_list]
  rw [← hstr]
  have b0 : (str.toList == [101, 110, 117, 109]) = false := by rw [hl]; decide
  have b1 : (str.toList == [109, 101, 115, 115, 97, 103, 101]) = false := by rw [hl]; decide
  have b2 : (str.toList == [111, 110, 101, 111, 102]) = false := by rw [hl]; decide
  have b3 : (str.toList == [114, 101, 112, 101, 97, 116, 101, 100]) = false := by rw [hl]; decide
  have b4 : (str.toList == [114, 101, 115, 101, 114, 118, 101, 100]) = false := by rw [hl]; decide
  have b5 : (str.toList == [108, 111, 111, 115, 101]) = false := by rw [hl]; decide
  have b6 : (str.toList == [105, 110, 116, 51, 50]) = false := by rw [hl]; decide
  have b7 : (str.toList == [105, 110, 116, 54, 52]) = false := by rw [hl]; decide
  have b8 : (str.toList == [117, 105, 110, 116, 51, 50]) = false := by rw [hl]; decide
  have b9 : (str.toList == [117, 105, 110, 116, 54, 52]) = false := by rw [hl]; decide
  have b10 : (str.toList == [115, 105, 110, 116, 51, 50]) = false := by rw [hl]; decide
  have b11 : (str.toList == [115, 105, 110, 116, 54, 52]) = false := by rw [hl]; decide
  have b12 : (str.toList == [98, 111, 111, 108]) = false := by rw [hl]; decide
  have b13 : (str.toList == [102, 105, 120, 101, 100, 51, 50]) = false := by rw [hl]; decide
  have b14 : (str.toList == [102, 105, 120, 101, 100, 54, 52]) = false := by rw [hl]; decide
  have b15 : (str.toList == [115, 102, 105, 120, 101, 100, 51, 50]) = false := by rw [hl]; decide
  have b16 : (str.toList == [115, 102, 105, 120, 101, 100, 54, 52]) = false := by rw [hl]; decide
  have b17 : (str.toList == [115, 116, 114, 105, 110, 103]) = false := by rw [hl]; decide
  have b18 : (str.toList == [98, 121, 116, 101, 115]) = false := by rw [hl]; decide
  have b19 : (str.toList == [114, 101, 110, 97, 109, 101]) = true := by rw [hl]; decide
  clear hl hstr
  go_enter Tryd.func30, Tryd.ntmps30
  go_wp2
  go_ret
  exact ⟨rfl, rfl⟩
theorem pword_20 (w : World) : Calls Tryd.prog 30 #[.string (strOf [114, 101, 110, 117, 109, 98, 101, 114])] w fun e w' => e = .returned (.bool true) ∧ w = w' := by
  obtain ⟨str, hstr⟩ : ∃ str, str = strOf [114, 101, 110, 117, 109, 98, 101, 114] := ⟨_, rfl⟩
  have hl : str.toList = [114, 101, 110, 117, 109, 98, 101, 114] := by rw [hstr, str_list]
  rw [← hstr]
  have b0 : (str.toList == [101, 110, 117, 109]) = false := by rw [hl]; decide
  have b1 : (str.toList == [109, 101, 115, 115, 97, 103, 101]) = false := by rw [hl]; decide
  have b2 : (str.toList == [111, 110, 101, 111, 102]) = false := by rw [hl]; decide
  have b3 : (str.toList == [114, 101, 112, 101, 97, 116, 101, 100]) = false := by rw [hl]; decide
  have b4 : (str.toList == [114, 101, 115, 101, 114, 118, 101, 100]) = false := by rw [hl]; decide
  have b5 : (str.toList == [108, 111, 111, 115, 101]) = false := by rw [hl]; decide
  have b6 : (str.toList == [105, 110, 116, 51, 50]) = false := by rw [hl]; decide
  have b7 : (str.toList == [105, 110, 116, 54, 52]) = false := by rw [hl]; decide
  have b8 : (str.toList == [117, 105, 110, 116, 51, 50]) = false := by rw [hl]; decide
  have b9 : (str.toList == [117, 105, 110, 116, 54, 52]) = false := by rw [hl]; decide
  have b10 : (str.toList == [115, 105, 110, 116, 51, 50]) = false := by rw [hl]; decide
  have b11 : (str.toList == [115, 105, 110, 116, 54, 52]) = false := by rw [hl]; decide
  have b12 : (str.toList == [98, 111, 111, 108]) = false := by rw [hl]; decide
  have b13 : (str.toList == [102, 105, 120, 101, 100, 51, 50]) = false := by rw [hl]; decide
  have b14 : (str.toList == [102, 105, 120, 101, 100, 54, 52]) = false := by rw [hl]; decide
  have b15 : (str.toList == [115, 102, 105, 120, 101, 100, 51, 50]) = false := by rw [hl]; decide
  have b16 : (str.toList == [115, 102, 105, 120, 101, 100, 54, 52]) = false := by rw [hl]; decide
  have b17 : (str.toList == [115, 116, 114, 105, 110, 103]) = false := by rw [hl]; decide
  have b18 : (str.toList == [98, 121, 116, 101, 115]) = false := by rw [hl]; decide
  have b19 : (str.toList == [114, 101, 110, 97, 109, 101]) = false := by rw [hl]; decide
  have b20 : (str.toList == [114, 101, 110, 117, 109, 98, 101, 114]) = true := by rw [hl]; decide
  clear hl hstr
  go_enter Tryd.func30, Tryd.ntmps30
  go_wp2
  go_ret
  exact ⟨rfl, rfl⟩
theorem pword_21 (w : World) : Calls Tryd.prog 30 #[.string (strOf [114, 101, 116, 121, 112, 101])] w fun e w' => e = .returned (.bool true) ∧ w = w' := by
  obtain ⟨str, hstr⟩ : ∃ str, str = strOf [114, 101, 116, 121, 112, 101] := ⟨_, rfl⟩
  have hl : str.toList = [114, 101, 116, 121, 112, 101] := by rw [hstr, str_list]
  rw [← hstr]
  have b0 : (str.toList == [101, 110, 117, 109]) = false := by rw [hl]; decide
  have b1 : (str.toList == [109, 101, 115, 115, 97, 103, 101]) = false := by rw [hl]; decide
  have b2 : (str.toList == [111, 110, 101, 111, 102]) = false := by rw [hl]; decide
  have b3 : (str.toList == [114, 101, 112, 101, 97, 116, 101, 100]) = false := by rw [hl]; decide
  have b4 : (str.toList == [114, 101, 115, 101, 114, 118, 101, 100]) = false := by rw [hl]; decide
  have b5 : (str.toList == [108, 111, 111, 115, 101]) = false := by rw [hl]; decide
  have b6 : (str.toList == [105, 110, 116, 51, 50]) = false := by rw [hl]; decide
  have b7 : (str.toList == [105, 110, 116, 54, 52]) = false := by rw [hl]; decide
  have b8 : (str.toList == [117, 105, 110, 116, 51, 50]) = false := by rw [hl]; decide
  have b9 : (str.toList == [117, 105, 110, 116, 54, 52]) = false := by rw [hl]; decide
  have b10 : (str.toList == [115, 105, 110, 116, 51, 50]) = false := by rw [hl]; decide
  have b11 : (str.toList == [115, 105, 110, 116, 54, 52]) = false := by rw [hl]; decide
  have b12 : (str.toList == [98, 111, 111, 108]) = false := by rw [hl]; decide
  have b13 : (str.toList == [102, 105, 120, 101, 100, 51, 50]) = false := by rw [hl]; decide
  have b14 : (str.toList == [102, 105, 120, 101, 100, 54, 52]) = false := by rw [hl]; decide
  have b15 : (str.toList == [115, 102, 105, 120, 101, 100, 51, 50]) = false := by rw [hl]; decide
  have b16 : (str.toList == [115, 102, 105, 120, 101, 100, 54, 52]) = false := by rw [hl]; decide
  have b17 : (str.toList == [115, 116, 114, 105, 110, 103]) = false := by rw [hl]; decide
  have b18 : (str.toList == [98, 121, 116, 101, 115]) = false := by rw [hl]; decide
  have b19 : (str.toList == [114, 101, 110, 97, 109, 101]) = false := by rw [hl]; decide
  have b20 : (str.toList == [114, 101, 110, 117, 109, 98, 101, 114]) = false := by rw [hl]; decide
  have b21 : (str.toList == [114, 101, 116, 121, 112, 101]) = true := by rw [hl]; decide
  clear hl hstr
  go_enter Tryd.func30, Tryd.ntmps30
  go_wp2
  go_ret
  exact ⟨rfl, rfl⟩
theorem pword_22 (w : World) : Calls Tryd.prog 30 #[.string (strOf [115, 112, 108, 105, 116])] w fun e w' => e = .returned (.bool true) ∧ w = w' := by
  obtain ⟨str, hstr⟩ : ∃ str, str = strOf [115, 112, 108, 105, 116] := ⟨_, rfl⟩
  have hl : str.toList = [115, 112, 108, 105, 116] := by rw [hstr, str_list]
  rw [← hstr]
  have b0 : (str.toList == [101, 110, 117, 109]) = false := by rw [hl]; decide
  have b1 : (str.toList == [109, 101, 115, 115, 97, 103, 101]) = false := by rw [hl]; decide
  have b2 : (str.toList == [111, 110, 101, 111, 102]) = false := by rw [hl]; decide
  have b3 : (str.toList == [114, 101, 112, 101, 97, 116, 101, 100]) = false := by rw [hl]; decide
  have b4 : (str.toList == [114, 101, 115, 101, 114, 118, 101, 100]) = false := by rw [hl]; decide
  have b5 : (str.toList == [108, 111, 111, 115, 101]) = false := by rw [hl]; decide
  have b6 : (str.toList == [105, 110, 116, 51, 50]) = false := by rw [hl]; decide
  have b7 : (str.toList == [105, 110, 116, 54, 52]) = false := by rw [hl]; decide
  have b8 : (str.toList == [117, 105, 110, 116, 51, 50]) = false := by rw [hl]; decide
  have b9 : (str.toList == [117, 105, 110, 116, 54, 52]) = false := by rw [hl]; decide
  have b10 : (str.toList == [115, 105, 110, 116, 51, 50]) = false := by rw [hl]; decide
  have b11 : (str.toList == [115, 105, 110, 116, 54, 52]) = false := by rw [hl]; decide
  have b12 : (str.toList == [98, 111, 111, 108]) = false := by rw [hl]; decide
  have b13 : (str.toList == [102, 105, 120, 101, 100, 51, 50]) = false := by rw [hl]; decide
  have b14 : (str.toList == [102, 105, 120, 101, 100, 54, 52]) = false := by rw [hl]; decide
  have b15 : (str.toList == [115, 102, 105, 120, 101, 100, 51, 50]) = false := by rw [hl]; decide
  have b16 : (str.toList == [115, 102, 105, 120, 101, 100, 54, 52]) = false := by rw [hl]; decide
  have b17 : (str.toList == [115, 116, 114, 105, 110, 103]) = false := by rw [hl]; decide
  have b18 : (str.toList == [98, 121, 116, 101, 115]) = false := by rw [hl]; decide
  have b19 : (str.toList == [114, 101, 110, 97, 109, 101]) = false := by rw [hl]; decide
  have b20 : (str.toList == [114, 101, 110, 117, 109, 98, 101, 114]) = false := by rw [hl]; decide
  have b21 : (str.toList == [114, 101, 116, 121, 112, 101]) = false := by rw [hl]; decide
  have b22 : (str.toList == [115, 112, 108, 105, 116]) = true := by rw [hl]; decide
  clear hl hstr
  go_enter Tryd.func30, Tryd.ntmps30
  go_wp2
  go_ret
  exact ⟨rfl, rfl⟩
theorem pword_23 (w : World) : Calls Tryd.prog 30 #[.string (strOf [106, 111, 105, 110])] w fun e w' => e = .returned (.bool true) ∧ w = w' := by
  obtain ⟨str, hstr⟩ : ∃ str, str = strOf [106, 111, 105, 110] := ⟨_, rfl⟩
  have hl : str.toList = [106, 111, 105, 110] := by rw [hstr, str_list]
  rw [← hstr]
  have b0 : (str.toList == [101, 110, 117, 109]) = false := by rw [hl]; decide
  have b1 : (str.toList == [109, 101, 115, 115, 97, 103, 101]) = false := by rw [hl]; decide
  have b2 : (str.toList == [111, 110, 101, 111, 102]) = false := by rw [hl]; decide
  have b3 : (str.toList == [114, 101, 112, 101, 97, 116, 101, 100]) = false := by rw [hl]; decide
  have b4 : (str.toList == [114, 101, 115, 101, 114, 118, 101, 100]) = false := by rw [hl]; decide
  have b5 : (str.toList == [108, 111, 111, 115, 101]) = false := by rw [hl]; decide
  have b6 : (str.toList == [105, 110, 116, 51, 50]) = false := by rw [hl]; decide
  have b7 : (str.toList == [105, 110, 116, 54, 52]) = false := by rw [hl]; decide
  have b8 : (str.toList == [117, 105, 110, 116, 51, 50]) = false := by rw [hl]; decide
  have b9 : (str.toList == [117, 105, 110, 116, 54, 52]) = false := by rw [hl]; decide
  have b10 : (str.toList == [115, 105, 110, 116, 51, 50]) = false := by rw [hl]; decide
  have b11 : (str.toList == [115, 105, 110, 116, 54, 52]) = false := by rw [hl]; decide
  have b12 : (str.toList == [98, 111, 111, 108]) = false := by rw [hl]; decide
  have b13 : (str.toList == [102, 105, 120, 101, 100, 51, 50]) = false := by rw [hl]; decide
  have b14 : (str.toList == [102, 105, 120, 101, 100, 54, 52]) = false := by rw [hl]; decide
  have b15 : (str.toList == [115, 102, 105, 120, 101, 100, 51, 50]) = false := by rw [hl]; decide
  have b16 : (str.toList == [115, 102, 105, 120, 101, 100, 54, 52]) = false := by rw [hl]; decide
  have b17 : (str.toList == [115, 116, 114, 105, 110, 103]) = false := by rw [hl]; decide
  have b18 : (str.toList == [98, 121, 116, 101, 115]) = false := by rw [hl]; decide
  have b19 : (str.toList == [114, 101, 110, 97, 109, 101]) = false := by rw [hl]; decide
  have b20 : (str.toList == [114, 101, 110, 117, 109, 98, 101, 114]) = false := by rw [hl]; decide
  have b21 : (str.toList == [114, 101, 116, 121, 112, 101]) = false := by rw [hl]; decide
  have b22 : (str.toList == [115, 112, 108, 105, 116]) = false := by rw [hl]; decide
  have b23 : (str.toList == [106, 111, 105, 110]) = true := by rw [hl]; decide
  clear hl hstr
  go_enter Tryd.func30, Tryd.ntmps30
  go_wp2
  go_ret
  exact ⟨rfl, rfl⟩
theorem pword_24 (w : World) : Calls Tryd.prog 30 #[.string (strOf [119, 114, 97, 112])] w fun e w' => e = .returned (.bool true) ∧ w = w' := by
  obtain ⟨str, hstr⟩ : ∃ str, str = strOf [119, 114, 97, 112] := ⟨_, rfl⟩
  have hl : str.toList = [119, 114, 97, 112] := by rw [hstr, str_list]
  rw [← hstr]
  have b0 : (str.toList == [101, 110, 117, 109]) = false := by rw [hl]; decide
  have b1 : (str.toList == [109, 101, 115, 115, 97, 103, 101]) = false := by rw [hl]; decide
  have b2 : (str.toList == [111, 110, 101, 111, 102]) = false := by rw [hl]; decide
  have b3 : (str.toList == [114, 101, 112, 101, 97, 116, 101, 100]) = false := by rw [hl]; decide
  have b4 : (str.toList == [114, 101, 115, 101, 114, 118, 101, 100]) = false := by rw [hl]; decide
  have b5 : (str.toList == [108, 111, 111, 115, 101]) = false := by rw [hl]; decide
  have b6 : (str.toList == [105, 110, 116, 51, 50]) = false := by rw [hl]; decide
  have b7 : (str.toList == [105, 110, 116, 54, 52]) = false := by rw [hl]; decide
  have b8 : (str.toList == [117, 105, 110, 116, 51, 50]) = false := by rw [hl]; decide
  have b9 : (str.toList == [117, 105, 110, 116, 54, 52]) = false := by rw [hl]; decide
  have b10 : (str.toList == [115, 105, 110, 116, 51, 50]) = false := by rw [hl]; decide
  have b11 : (str.toList == [115, 105, 110, 116, 54, 52]) = false := by rw [hl]; decide
  have b12 : (str.toList == [98, 111, 111, 108]) = false := by rw [hl]; decide
  have b13 : (str.toList == [102, 105, 120, 101, 100, 51, 50]) = false := by rw [hl]; decide
  have b14 : (str.toList == [102, 105, 120, 101, 100, 54, 52]) = false := by rw [hl]; decide
  have b15 : (str.toList == [115, 102, 105, 120, 101, 100, 51, 50]) = false := by rw [hl]; decide
  have b16 : (str.toList == [115, 102, 105, 120, 101, 100, 54, 52]) = false := by rw [hl]; decide
  have b17 : (str.toList == [115, 116, 114, 105, 110, 103]) = false := by rw [hl]; decide
  have b18 : (str.toList == [98, 121, 116, 101, 115]) = false := by rw [hl]; decide
  have b19 : (str.toList == [114, 101, 110, 97, 109, 101]) = false := by rw [hl]; decide
  have b20 : (str.toList == [114, 101, 110, 117, 109, 98, 101, 114]) = false := by rw [hl]; decide
  have b21 : (str.toList == [114, 101, 116, 121, 112, 101]) = false := by rw [hl]; decide
  have b22 : (str.toList == [115, 112, 108, 105, 116]) = false := by rw [hl]; decide
  have b23 : (str.toList == [106, 111, 105, 110]) = false := by rw [hl]; decide
  have b24 : (str.toList == [119, 114, 97, 112]) = true := by rw [hl]; decide
  clear hl hstr
  go_enter Tryd.func30, Tryd.ntmps30
  go_wp2
  go_ret
  exact ⟨rfl, rfl⟩
theorem pword_25 (w : World) : Calls Tryd.prog 30 #[.string (strOf [117, 110, 119, 114, 97, 112])] w fun e w' => e = .returned (.bool true) ∧ w = w' := by
  obtain ⟨str, hstr⟩ : ∃ str, str = strOf [117, 110, 119, 114, 97, 112] := ⟨_, rfl⟩
  have hl : str.toList = [117, 110, 119, 114, 97, 112] := by rw [hstr, str_list]
  rw [← hstr]
  have b0 : (str.toList == [101, 110, 117, 109]) = false := by rw [hl]; decide
  have b1 : (str.toList == [109, 101, 115, 115, 97, 103, 101]) = false := by rw [hl]; decide
  have b2 : (str.toList == [111, 110, 101, 111, 102]) = false := by rw [hl]; decide
  have b3 : (str.toList == [114, 101, 112, 101, 97, 116, 101, 100]) = false := by rw [hl]; decide
  have b4 : (str.toList == [114, 101, 115, 101, 114, 118, 101, 100]) = false := by rw [hl]; decide
  have b5 : (str.toList == [108, 111, 111, 115, 101]) = false := by rw [hl]; decide
  have b6 : (str.toList == [105, 110, 116, 51, 50]) = false := by rw [hl]; decide
  have b7 : (str.toList == [105, 110, 116, 54, 52]) = false := by rw [hl]; decide
  have b8 : (str.toList == [117, 105, 110, 116, 51, 50]) = false := by rw [hl]; decide
  have b9 : (str.toList == [117, 105, 110, 116, 54, 52]) = false := by rw [hl]; decide
  have b10 : (str.toList == [115, 105, 110, 116, 51, 50]) = false := by rw [hl]; decide
  have b11 : (str.toList == [115, 105, 110, 116, 54, 52]) = false := by rw [hl]; decide
  have b12 : (str.toList == [98, 111, 111, 108]) = false := by rw [hl]; decide
  have b13 : (str.toList == [102, 105, 120, 101, 100, 51, 50]) = false := by rw [hl]; decide
  have b14 : (str.toList == [102, 105, 120, 101, 100, 54, 52]) = false := by rw [hl]; decide
  have b15 : (str.toList == [115, 102, 105, 120, 101, 100, 51, 50]) = false := by rw [hl]; decide
  have b16 : (str.toList == [115, 102, 105, 120, 101, 100, 54, 52]) = false := by rw [hl]; decide
  have b17 : (str.toList == [115, 116, 114, 105, 110, 103]) = false := by rw [hl]; decide
  have b18 : (str.toList == [98, 121, 116, 101, 115]) = false := by rw [hl]; decide
  have b19 : (str.toList == [114, 101, 110, 97, 109, 101]) = false := by rw [hl]; decide
  have b20 : (str.toList == [114, 101, 110, 117, 109, 98, 101, 114]) = false := by rw [hl]; decide
  have b21 : (str.toList == [114, 101, 116, 121, 112, 101]) = false := by rw [hl]; decide
  have b22 : (str.toList == [115, 112, 108, 105, 116]) = false := by rw [hl]; decide
  have b23 : (str.toList == [106, 111, 105, 110]) = false := by rw [hl]; decide
  have b24 : (str.toList == [119, 114, 97, 112]) = false := by rw [hl]; decide
  have b25 : (str.toList == [117, 110, 119, 114, 97, 112]) = true := by rw [hl]; decide
  clear hl hstr
  go_enter Tryd.func30, Tryd.ntmps30
  go_wp2
  go_ret
  exact ⟨rfl, rfl⟩
theorem pword_26 (w : World) : Calls Tryd.prog 30 #[.string (strOf [97, 100, 100])] w fun e w' => e = .returned (.bool true) ∧ w = w' := by
  obtain ⟨str, hstr⟩ : ∃ str, str = strOf [97, 100, 100] := ⟨_, rfl⟩
  have hl : str.toList = [97, 100, 100] := by rw [hstr, str_list]
  rw [← hstr]
  have b0 : (str.toList == [101, 110, 117, 109]) = false := by rw [hl]; decide
  have b1 : (str.toList == [109, 101, 115, 115, 97, 103, 101]) = false := by rw [hl]; decide
  have b2 : (str.toList == [111, 110, 101, 111, 102]) = false := by rw [hl]; decide
  have b3 : (str.toList == [114, 101, 112, 101, 97, 116, 101, 100]) = false := by rw [hl]; decide
  have b4 : (str.toList == [114, 101, 115, 101, 114, 118, 101, 100]) = false := by rw [hl]; decide
  have b5 : (str.toList == [108, 111, 111, 115, 101]) = false := by rw [hl]; decide
  have b6 : (str.toList == [105, 110, 116, 51, 50]) = false := by rw [hl]; decide
  have b7 : (str.toList == [105, 110, 116, 54, 52]) = false := by rw [hl]; decide
  have b8 : (str.toList == [117, 105, 110, 116, 51, 50]) = false := by rw [hl]; decide
  have b9 : (str.toList == [117, 105, 110, 116, 54, 52]) = false := by rw [hl]; decide
  have b10 : (str.toList == [115, 105, 110, 116, 51, 50]) = false := by rw [hl]; decide
  have b11 : (str.toList == [115, 105, 110, 116, 54, 52]) = false := by rw [hl]; decide
  have b12 : (str.toList == [98, 111, 111, 108]) = false := by rw [hl]; decide
  have b13 : (str.toList == [102, 105, 120, 101, 100, 51, 50]) = false := by rw [hl]; decide
  have b14 : (str.toList == [102, 105, 120, 101, 100, 54, 52]) = false := by rw [hl]; decide
  have b15 : (str.toList == [115, 102, 105, 120, 101, 100, 51, 50]) = false := by rw [hl]; decide
  have b16 : (str.toList == [115, 102, 105, 120, 101, 100, 54, 52]) = false := by rw [hl]; decide
  have b17 : (str.toList == [115, 116, 114, 105, 110, 103]) = false := by rw [hl]; decide
  have b18 : (str.toList == [98, 121, 116, 101, 115]) = false := by rw [hl]; decide
  have b19 : (str.toList == [114, 101, 110, 97, 109, 101]) = false := by rw [hl]; decide
  have b20 : (str.toList == [114, 101, 110, 117, 109, 98, 101, 114]) = false := by rw [hl]; decide
  have b21 : (str.toList == [114, 101, 116, 121, 112, 101]) = false := by rw [hl]; decide
  have b22 : (str.toList == [115, 112, 108, 105, 116]) = false := by rw [hl]; decide
  have b23 : (str.toList == [106, 111, 105, 110]) = false := by rw [hl]; decide
  have b24 : (str.toList == [119, 114, 97, 112]) = false := by rw [hl]; decide
  have b25 : (str.toList == [117, 110, 119, 114, 97, 112]) = false := by rw [hl]; decide
  have b26 : (str.toList == [97, 100, 100]) = true := by rw [hl]; decide
  clear hl hstr
  go_enter Tryd.func30, Tryd.ntmps30
  go_wp2
  go_ret
  exact ⟨rfl, rfl⟩
theorem pword_27 (w : World) : Calls Tryd.prog 30 #[.string (strOf [100, 114, 111, 112])] w fun e w' => e = .returned (.bool true) ∧ w = w' := by
  obtain ⟨str, hstr⟩ : ∃ str, str = strOf [100, 114, 111, 112] := ⟨_, rfl⟩
  have hl : str.toList = [100, 114, 111, 112] := by rw [hstr, str_list]
  rw [← hstr]
  have b0 : (str.toList == [101, 110, 117, 109]) = false := by rw [hl]; decide
  have b1 : (str.toList == [109, 101, 115, 115, 97, 103, 101]) = false := by rw [hl]; decide
  have b2 : (str.toList == [111, 110, 101, 111, 102]) = false := by rw [hl]; decide
  have b3 : (str.toList == [114, 101, 112, 101, 97, 116, 101, 100]) = false := by rw [hl]; decide
  have b4 : (str.toList == [114, 101, 115, 101, 114, 118, 101, 100]) = false := by rw [hl]; decide
  have b5 : (str.toList == [108, 111, 111, 115, 101]) = false := by rw [hl]; decide
  have b6 : (str.toList == [105, 110, 116, 51, 50]) = false := by rw [hl]; decide
  have b7 : (str.toList == [105, 110, 116, 54, 52]) = false := by rw [hl]; decide
  have b8 : (str.toList == [117, 105, 110, 116, 51, 50]) = false := by rw [hl]; decide
  have b9 : (str.toList == [117, 105, 110, 116, 54, 52]) = false := by rw [hl]; decide
  have b10 : (str.toList == [115, 105, 110, 116, 51, 50]) = false := by rw [hl]; decide
  have b11 : (str.toList == [115, 105, 110, 116, 54, 52]) = false := by rw [hl]; decide
  have b12 : (str.toList == [98, 111, 111, 108]) = false := by rw [hl]; decide
  have b13 : (str.toList == [102, 105, 120, 101, 100, 51, 50]) = false := by rw [hl]; decide
  have b14 : (str.toList == [102, 105, 120, 101, 100, 54, 52]) = false := by rw [hl]; decide
  have b15 : (str.toList == [115, 102, 105, 120, 101, 100, 51, 50]) = false := by rw [hl]; decide
  have b16 : (str.toList == [115, 102, 105, 120, 101, 100, 54, 52]) = false := by rw [hl]; decide
  have b17 : (str.toList == [115, 116, 114, 105, 110, 103]) = false := by rw [hl]; decide
  have b18 : (str.toList == [98, 121, 116, 101, 115]) = false := by rw [hl]; decide
  have b19 : (str.toList == [114, 101, 110, 97, 109, 101]) = false := by rw [hl]; decide
  have b20 : (str.toList == [114, 101, 110, 117, 109, 98, 101, 114]) = false := by rw [hl]; decide
  have b21 : (str.toList == [114, 101, 116, 121, 112, 101]) = false := by rw [hl]; decide
  have b22 : (str.toList == [115, 112, 108, 105, 116]) = false := by rw [hl]; decide
  have b23 : (str.toList == [106, 111, 105, 110]) = false := by rw [hl]; decide
  have b24 : (str.toList == [119, 114, 97, 112]) = false := by rw [hl]; decide
  have b25 : (str.toList == [117, 110, 119, 114, 97, 112]) = false := by rw [hl]; decide
  have b26 : (str.toList == [97, 100, 100]) = false := by rw [hl]; decide
  have b27 : (str.toList == [100, 114, 111, 112]) = true := by rw [hl]; decide
  clear hl hstr
  go_enter Tryd.func30, Tryd.ntmps30
  go_wp2
  go_ret
  exact ⟨rfl, rfl⟩
theorem pword_28 (w : World) : Calls Tryd.prog 30 #[.string (strOf [116, 111])] w fun e w' => e = .returned (.bool true) ∧ w = w' := by
  obtain ⟨str, hstr⟩ : ∃ str, str = strOf [116, 111] := ⟨_, rfl⟩
  have hl : str.toList = [116, 111] := by rw [hstr, str_list]
  rw [← hstr]
  have b0 : (str.toList == [101, 110, 117, 109]) = false := by rw [hl]; decide
  have b1 : (str.toList == [109, 101, 115, 115, 97, 103, 101]) = false := by rw [hl]; decide
  have b2 : (str.toList == [111, 110, 101, 111, 102]) = false := by rw [hl]; decide
  have b3 : (str.toList == [114, 101, 112, 101, 97, 116, 101, 100]) = false := by rw [hl]; decide
  have b4 : (str.toList == [114, 101, 115, 101, 114, 118, 101, 100]) = false := by rw [hl]; decide
  have b5 : (str.toList == [108, 111, 111, 115, 101]) = false := by rw [hl]; decide
  have b6 : (str.toList == [105, 110, 116, 51, 50]) = false := by rw [hl]; decide
  have b7 : (str.toList == [105, 110, 116, 54, 52]) = false := by rw [hl]; decide
  have b8 : (str.toList == [117, 105, 110, 116, 51, 50]) = false := by rw [hl]; decide
  have b9 : (str.toList == [117, 105, 110, 116, 54, 52]) = false := by rw [hl]; decide
  have b10 : (str.toList == [115, 105, 110, 116, 51, 50]) = false := by rw [hl]; decide
  have b11 : (str.toList == [115, 105, 110, 116, 54, 52]) = false := by rw [hl]; decide
  have b12 : (str.toList == [98, 111, 111, 108]) = false := by rw [hl]; decide
  have b13 : (str.toList == [102, 105, 120, 101, 100, 51, 50]) = false := by rw [hl]; decide
  have b14 : (str.toList == [102, 105, 120, 101, 100, 54, 52]) = false := by rw [hl]; decide
  have b15 : (str.toList == [115, 102, 105, 120, 101, 100, 51, 50]) = false := by rw [hl]; decide
  have b16 : (str.toList == [115, 102, 105, 120, 101, 100, 54, 52]) = false := by rw [hl]; decide
  have b17 : (str.toList == [115, 116, 114, 105, 110, 103]) = false := by rw [hl]; decide
  have b18 : (str.toList == [98, 121, 116, 101, 115]) = false := by rw [hl]; decide
  have b19 : (str.toList == [114, 101, 110, 97, 109, 101]) = false := by rw [hl]; decide
  have b20 : (str.toList == [114, 101, 110, 117, 109, 98, 101, 114]) = false := by rw [hl]; decide
  have b21 : (str.toList == [114, 101, 116, 121, 112, 101]) = false := by rw [hl]; decide
  have b22 : (str.toList == [115, 112, 108, 105, 116]) = false := by rw [hl]; decide
  have b23 : (str.toList == [106, 111, 105, 110]) = false := by rw [hl]; decide
  have b24 : (str.toList == [119, 114, 97, 112]) = false := by rw [hl]; decide
  have b25 : (str.toList == [117, 110, 119, 114, 97, 112]) = false := by rw [hl]; decide
  have b26 : (str.toList == [97, 100, 100]) = false := by rw [hl]; decide
  have b27 : (str.toList == [100, 114, 111, 112]) = false := by rw [hl]; decide
  have b28 : (str.toList == [116, 111]) = true := by rw [hl]; decide
  clear hl hstr
  go_enter Tryd.func30, Tryd.ntmps30
  go_wp2
  go_ret
  exact ⟨rfl, rfl⟩
theorem pword_29 (w : World) : Calls Tryd.prog 30 #[.string (strOf [105, 110, 116, 111])] w fun e w' => e = .returned (.bool true) ∧ w = w' := by
  obtain ⟨str, hstr⟩ : ∃ str, str = strOf [105, 110, 116, 111] := ⟨_, rfl⟩
  have hl : str.toList = [105, 110, 116, 111] := by rw [hstr, str_list]
  rw [← hstr]
  have b0 : (str.toList == [101, 110, 117, 109]) = false := by rw [hl]; decide
  have b1 : (str.toList == [109, 101, 115, 115, 97, 103, 101]) = false := by rw [hl]; decide
  have b2 : (str.toList == [111, 110, 101, 111, 102]) = false := by rw [hl]; decide
  have b3 : (str.toList == [114, 101, 112, 101, 97, 116, 101, 100]) = false := by rw [hl]; decide
  have b4 : (str.toList == [114, 101, 115, 101, 114, 118, 101, 100]) = false := by rw [hl]; decide
  have b5 : (str.toList == [108, 111, 111, 115, 101]) = false := by rw [hl]; decide
  have b6 : (str.toList == [105, 110, 116, 51, 50]) = false := by rw [hl]; decide
  have b7 : (str.toList == [105, 110, 116, 54, 52]) = false := by rw [hl]; decide
  have b8 : (str.toList == [117, 105, 110, 116, 51, 50]) = false := by rw [hl]; decide
  have b9 : (str.toList == [117, 105, 110, 116, 54, 52]) = false := by rw [hl]; decide
  have b10 : (str.toList == [115, 105, 110, 116, 51, 50]) = false := by rw [hl]; decide
  have b11 : (str.toList == [115, 105, 110, 116, 54, 52]) = false := by rw [hl]; decide
  have b12 : (str.toList == [98, 111, 111, 108]) = false := by rw [hl]; decide
  have b13 : (str.toList == [102, 105, 120, 101, 100, 51, 50]) = false := by rw [hl]; decide
  have b14 : (str.toList == [102, 105, 120, 101, 100, 54, 52]) = false := by rw [hl]; decide
  have b15 : (str.toList == [115, 102, 105, 120, 101, 100, 51, 50]) = false := by rw [hl]; decide
  have b16 : (str.toList == [115, 102, 105, 120, 101, 100, 54, 52]) = false := by rw [hl]; decide
  have b17 : (str.toList == [115, 116, 114, 105, 110, 103]) = false := by rw [hl]; decide
  have b18 : (str.toList == [98, 121, 116, 101, 115]) = false := by rw [hl]; decide
  have b19 : (str.toList == [114, 101, 110, 97, 109, 101]) = false := by rw [hl]; decide
  have b20 : (str.toList == [114, 101, 110, 117, 109, 98, 101, 114]) = false := by rw [hl]; decide
  have b21 : (str.toList == [114, 101, 116, 121, 112, 101]) = false := by rw [hl]; decide
  have b22 : (str.toList == [115, 112, 108, 105, 116]) = false := by rw [hl]; decide
  have b23 : (str.toList == [106, 111, 105, 110]) = false := by rw [hl]; decide
  have b24 : (str.toList == [119, 114, 97, 112]) = false := by rw [hl]; decide
  have b25 : (str.toList == [117, 110, 119, 114, 97, 112]) = false := by rw [hl]; decide
  have b26 : (str.toList == [97, 100, 100]) = false := by rw [hl]; decide
  have b27 : (str.toList == [100, 114, 111, 112]) = false := by rw [hl]; decide
  have b28 : (str.toList == [116, 111]) = false := by rw [hl]; decide
  have b29 : (str.toList == [105, 110, 116, 111]) = true := by rw [hl]; decide
  clear hl hstr
  go_enter Tryd.func30, Tryd.ntmps30
  go_wp2
  go_ret
  exact ⟨rfl, rfl⟩
theorem pword_30 (w : World) : Calls Tryd.prog 30 #[.string (strOf [97, 115])] w fun e w' => e = .returned (.bool true) ∧ w = w' := by
  obtain ⟨str, hstr⟩ : ∃ str, str = strOf [97, 115] := ⟨_, rfl⟩
  have hl : str.toList = [97, 115] := by rw [hstr, str_list]
  rw [← hstr]
  have b0 : (str.toList == [101, 110, 117, 109]) = false := by rw [hl]; decide
  have b1 : (str.toList == [109, 101, 115, 115, 97, 103, 101]) = false := by rw [hl]; decide
  have b2 : (str.toList == [111, 110, 101, 111, 102]) = false := by rw [hl]; decide
  have b3 : (str.toList == [114, 101, 112, 101, 97, 116, 101, 100]) = false := by rw [hl]; decide
  have b4 : (str.toList == [114, 101, 115, 101, 114, 118, 101, 100]) = false := by rw [hl]; decide
  have b5 : (str.toList == [108, 111, 111, 115, 101]) = false := by rw [hl]; decide
  have b6 : (str.toList == [105, 110, 116, 51, 50]) = false := by rw [hl]; decide
  have b7 : (str.toList == [105, 110, 116, 54, 52]) = false := by rw [hl]; decide
  have b8 : (str.toList == [117, 105, 110, 116, 51, 50]) = false := by rw [hl]; decide
  have b9 : (str.toList == [117, 105, 110, 116, 54, 52]) = false := by rw [hl]; decide
  have b10 : (str.toList == [115, 105, 110, 116, 51, 50]) = false := by rw [hl]; decide
  have b11 : (str.toList == [115, 105, 110, 116, 54, 52]) = false := by rw [hl]; decide
  have b12 : (str.toList == [98, 111, 111, 108]) = false := by rw [hl]; decide
  have b13 : (str.toList == [102, 105, 120, 101, 100, 51, 50]) = false := by rw [hl]; decide
  have b14 : (str.toList == [102, 105, 120, 101, 100, 54, 52]) = false := by rw [hl]; decide
  have b15 : (str.toList == [115, 102, 105, 120, 101, 100, 51, 50]) = false := by rw [hl]; decide
  have b16 : (str.toList == [115, 102, 105, 120, 101, 100, 54, 52]) = false := by rw [hl]; decide
  have b17 : (str.toList == [115, 116, 114, 105, 110, 103]) = false := by rw [hl]; decide
  have b18 : (str.toList == [98, 121, 116, 101, 115]) = false := by rw [hl]; decide
  have b19 : (str.toList == [114, 101, 110, 97, 109, 101]) = false := by rw [hl]; decide
  have b20 : (str.toList == [114, 101, 110, 117, 109, 98, 101, 114]) = false := by rw [hl]; decide
  have b21 : (str.toList == [114, 101, 116, 121, 112, 101]) = false := by rw [hl]; decide
  have b22 : (str.toList == [115, 112, 108, 105, 116]) = false := by rw [hl]; decide
  have b23 : (str.toList == [106, 111, 105, 110]) = false := by rw [hl]; decide
  have b24 : (str.toList == [119, 114, 97, 112]) = false := by rw [hl]; decide
  have b25 : (str.toList == [117, 110, 119, 114, 97, 112]) = false := by rw [hl]; decide
  have b26 : (str.toList == [97, 100, 100]) = false := by rw [hl]; decide
  have b27 : (str.toList == [100, 114, 111, 112]) = false := by rw [hl]; decide
  have b28 : (str.toList == [116, 111]) = false := by rw [hl]; decide
  have b29 : (str.toList == [105, 110, 116, 111]) = false := by rw [hl]; decide
  have b30 : (str.toList == [97, 115]) = true := by rw [hl]; decide
  clear hl hstr
  go_enter Tryd.func30, Tryd.ntmps30
  go_wp2
  go_ret
  exact ⟨rfl, rfl⟩
theorem pword_31 (w : World) : Calls Tryd.prog 30 #[.string (strOf [111, 102])] w fun e w' => e = .returned (.bool true) ∧ w = w' := by
  obtain ⟨str, hstr⟩ : ∃ str, str = strOf [111, 102] := ⟨_, rfl⟩
  have hl : str.toList = [111, 102] := by rw [hstr, str_list]
  rw [← hstr]
  have b0 : (str.toList == [101, 110, 117, 109]) = false := by rw [hl]; decide
  have b1 : (str.toList == [109, 101, 115, 115, 97, 103, 101]) = false := by rw [hl]; decide
  have b2 : (str.toList == [111, 110, 101, 111, 102]) = false := by rw [hl]; decide
  have b3 : (str.toList == [114, 101, 112, 101, 97, 116, 101, 100]) = false := by rw [hl]; decide
  have b4 : (str.toList == [114, 101, 115, 101, 114, 118, 101, 100]) = false := by rw [hl]; decide
  have b5 : (str.toList == [108, 111, 111, 115, 101]) = false := by rw [hl]; decide
  have b6 : (str.toList == [105, 110, 116, 51, 50]) = false := by rw [hl]; decide
  have b7 : (str.toList == [105, 110, 116, 54, 52]) = false := by rw [hl]; decide
  have b8 : (str.toList == [117, 105, 110, 116, 51, 50]) = false := by rw [hl]; decide
  have b9 : (str.toList == [117, 105, 110, 116, 54, 52]) = false := by rw [hl]; decide
  have b10 : (str.toList == [115, 105, 110, 116, 51, 50]) = false := by rw [hl]; decide
  have b11 : (str.toList == [115, 105, 110, 116, 54, 52]) = false := by rw [hl]; decide
  have b12 : (str.toList == [98, 111, 111, 108]) = false := by rw [hl]; decide
  have b13 : (str.toList == [102, 105, 120, 101, 100, 51, 50]) = false := by rw [hl]; decide
  have b14 : (str.toList == [102, 105, 120, 101, 100, 54, 52]) = false := by rw [hl]; decide
  have b15 : (str.toList == [115, 102, 105, 120, 101, 100, 51, 50]) = false := by rw [hl]; decide
  have b16 : (str.toList == [115, 102, 105, 120, 101, 100, 54, 52]) = false := by rw [hl]; decide
  have b17 : (str.toList == [115, 116, 114, 105, 110, 103]) = false := by rw [hl]; decide
  have b18 : (str.toList == [98, 121, 116, 101, 115]) = false := by rw [hl]; decide
  have b19 : (str.toList == [114, 101, 110, 97, 109, 101]) = false := by rw [hl]; decide
  have b20 : (str.toList == [114, 101, 110, 117, 109, 98, 101, 114]) = false := by rw [hl]; decide
  have b21 : (str.toList == [114, 101, 116, 121, 112, 101]) = false := by rw [hl]; decide
  have b22 : (str.toList == [115, 112, 108, 105, 116]) = false := by rw [hl]; decide
  have b23 : (str.toList == [106, 111, 105, 110]) = false := by rw [hl]; decide
  have b24 : (str.toList == [119, 114, 97, 112]) = false := by rw [hl]; decide
  have b25 : (str.toList == [117, 110, 119, 114, 97, 112]) = false := by rw [hl]; decide
  have b26 : (str.toList == [97, 100, 100]) = false := by rw [hl]; decide
  have b27 : (str.toList == [100, 114, 111, 112]) = false := by rw [hl]; decide
  have b28 : (str.toList == [116, 111]) = false := by rw [hl]; decide
  have b29 : (str.toList == [105, 110, 116, 111]) = false := by rw [hl]; decide
  have b30 : (str.toList == [97, 115]) = false := by rw [hl]; decide
  have b31 : (str.toList == [111, 102]) = true := by rw [hl]; decide
  clear hl hstr
  go_enter Tryd.func30, Tryd.ntmps30
  go_wp2
  go_ret
  exact ⟨rfl, rfl⟩
theorem pword_32 (w : World) : Calls Tryd.prog 30 #[.string (strOf [100, 101, 102, 97, 117, 108, 116])] w fun e w' => e = .returned (.bool true) ∧ w = w' := by
  obtain ⟨str, hstr⟩ : ∃ str, str = strOf [100, 101, 102, 97, 117, 108, 116] := ⟨_, rfl⟩
  have hl : str.toList = [100, 101, 102, 97, 117, 108, 116] := by rw [hstr, str_list]
  rw [← hstr]
  have b0 : (str.toList == [101, 110, 117, 109]) = false := by rw [hl]; decide
  have b1 : (str.toList == [109, 101, 115, 115, 97, 103, 101]) = false := by rw [hl]; decide
  have b2 : (str.toList == [111, 110, 101, 111, 102]) = false := by rw [hl]; decide
  have b3 : (str.toList == [114, 101, 112, 101, 97, 116, 101, 100]) = false := by rw [hl]; decide
  have b4 : (str.toList == [114, 101, 115, 101, 114, 118, 101, 100]) = false := by rw [hl]; decide
  have b5 : (str.toList == [108, 111, 111, 115, 101]) = false := by rw [hl]; decide
  have b6 : (str.toList == [105, 110, 116, 51, 50]) = false := by rw [hl]; decide
  have b7 : (str.toList == [105, 110, 116, 54, 52]) = false := by rw [hl]; decide
  have b8 : (str.toList == [117, 105, 110, 116, 51, 50]) = false := by rw [hl]; decide
  have b9 : (str.toList == [117, 105, 110, 116, 54, 52]) = false := by rw [hl]; decide
  have b10 : (str.toList == [115, 105, 110, 116, 51, 50]) = false := by rw [hl]; decide
  have b11 : (str.toList == [115, 105, 110, 116, 54, 52]) = false := by rw [hl]; decide
  have b12 : (str.toList == [98, 111, 111, 108]) = false := by rw [hl]; decide
  have b13 : (str.toList == [102, 105, 120, 101, 100, 51, 50]) = false := by rw [hl]; decide
  have b14 : (str.toList == [102, 105, 120, 101, 100, 54, 52]) = false := by rw [hl]; decide
  have b15 : (str.toList == [115, 102, 105, 120, 101, 100, 51, 50]) = false := by rw [hl]; decide
  have b16 : (str.toList == [115, 102, 105, 120, 101, 100, 54, 52]) = false := by rw [hl]; decide
  have b17 : (str.toList == [115, 116, 114, 105, 110, 103]) = false := by rw [hl]; decide
  have b18 : (str.toList == [98, 121, 116, 101, 115]) = false := by rw [hl]; decide
  have b19 : (str.toList == [114, 101, 110, 97, 109, 101]) = false := by rw [hl]; decide
  have b20 : (str.toList == [114, 101, 110, 117, 109, 98, 101, 114]) = false := by rw [hl]; decide
  have b21 : (str.toList == [114, 101, 116, 121, 112, 101]) = false := by rw [hl]; decide
  have b22 : (str.toList == [115, 112, 108, 105, 116]) = false := by rw [hl]; decide
  have b23 : (str.toList == [106, 111, 105, 110]) = false := by rw [hl]; decide
  have b24 : (str.toList == [119, 114, 97, 112]) = false := by rw [hl]; decide
  have b25 : (str.toList == [117, 110, 119, 114, 97, 112]) = false := by rw [hl]; decide
  have b26 : (str.toList == [97, 100, 100]) = false := by rw [hl]; decide
  have b27 : (str.toList == [100, 114, 111, 112]) = false := by rw [hl]; decide
  have b28 : (str.toList == [116, 111]) = false := by rw [hl]; decide
  have b29 : (str.toList == [105, 110, 116, 111]) = false := by rw [hl]; decide
  have b30 : (str.toList == [97, 115]) = false := by rw [hl]; decide
  have b31 : (str.toList == [111, 102]) = false := by rw [hl]; decide
  have b32 : (str.toList == [100, 101, 102, 97, 117, 108, 116]) = true := by rw [hl]; decide
  clear hl hstr
  go_enter Tryd.func30, Tryd.ntmps30
  go_wp2
  go_ret
  exact ⟨rfl, rfl⟩
theorem pword_33 (w : World) : Calls Tryd.prog 30 #[.string (strOf [116, 114, 117, 101])] w fun e w' => e = .returned (.bool true) ∧ w = w' := by
  obtain ⟨str, hstr⟩ : ∃ str, str = strOf [116, 114, 117, 101] := ⟨_, rfl⟩
  have hl : str.toList = [116, 114, 117, 101] := by rw [hstr, str_list]
  rw [← hstr]
  have b0 : (str.toList == [101, 110, 117, 109]) = false := by rw [hl]; decide
  have b1 : (str.toList == [109, 101, 115, 115, 97, 103, 101]) = false := by rw [hl]; decide
  have b2 : (str.toList == [111, 110, 101, 111, 102]) = false := by rw [hl]; decide
  have b3 : (str.toList == [114, 101, 112, 101, 97, 116, 101, 100]) = false := by rw [hl]; decide
  have b4 : (str.toList == [114, 101, 115, 101, 114, 118, 101, 100]) = false := by rw [hl]; decide
  have b5 : (str.toList == [108, 111, 111, 115, 101]) = false := by rw [hl]; decide
  have b6 : (str.toList == [105, 110, 116, 51, 50]) = false := by rw [hl]; decide
  have b7 : (str.toList == [105, 110, 116, 54, 52]) = false := by rw [hl]; decide
  have b8 : (str.toList == [117, 105, 110, 116, 51, 50]) = false := by rw [hl]; decide
  have b9 : (str.toList == [117, 105, 110, 116, 54, 52]) = false := by rw [hl]; decide
  have b10 : (str.toList == [115, 105, 110, 116, 51, 50]) = false := by rw [hl]; decide
  have b11 : (str.toList == [115, 105, 110, 116, 54, 52]) = false := by rw [hl]; decide
  have b12 : (str.toList == [98, 111, 111, 108]) = false := by rw [hl]; decide
  have b13 : (str.toList == [102, 105, 120, 101, 100, 51, 50]) = false := by rw [hl]; decide
  have b14 : (str.toList == [102, 105, 120, 101, 100, 54, 52]) = false := by rw [hl]; decide
  have b15 : (str.toList == [115, 102, 105, 120, 101, 100, 51, 50]) = false := by rw [hl]; decide
  have b16 : (str.toList == [115, 102, 105, 120, 101, 100, 54, 52]) = false := by rw [hl]; decide
  have b17 : (str.toList == [115, 116, 114, 105, 110, 103]) = false := by rw [hl]; decide
  have b18 : (str.toList == [98, 121, 116, 101, 115]) = false := by rw [hl]; decide
  have b19 : (str.toList == [114, 101, 110, 97, 109, 101]) = false := by rw [hl]; decide
  have b20 : (str.toList == [114, 101, 110, 117, 109, 98, 101, 114]) = false := by rw [hl]; decide
  have b21 : (str.toList == [114, 101, 116, 121, 112, 101]) = false := by rw [hl]; decide
  have b22 : (str.toList == [115, 112, 108, 105, 116]) = false := by rw [hl]; decide
  have b23 : (str.toList == [106, 111, 105, 110]) = false := by rw [hl]; decide
  have b24 : (str.toList == [119, 114, 97, 112]) = false := by rw [hl]; decide
  have b25 : (str.toList == [117, 110, 119, 114, 97, 112]) = false := by rw [hl]; decide
  have b26 : (str.toList == [97, 100, 100]) = false := by rw [hl]; decide
  have b27 : (str.toList == [100, 114, 111, 112]) = false := by rw [hl]; decide
  have b28 : (str.toList == [116, 111]) = false := by rw [hl]; decide
  have b29 : (str.toList == [105, 110, 116, 111]) = false := by rw [hl]; decide
  have b30 : (str.toList == [97, 115]) = false := by rw [hl]; decide
  have b31 : (str.toList == [111, 102]) = false := by rw [hl]; decide
  have b32 : (str.toList == [100, 101, 102, 97, 117, 108, 116]) = false := by rw [hl]; decide
  have b33 : (str.toList == [116, 114, 117, 101]) = true := by rw [hl]; decide
  clear hl hstr
  go_enter Tryd.func30, Tryd.ntmps30
  go_wp2
  go_ret
  exact ⟨rfl, rfl⟩
theorem pword_34 (w : World) : Calls Tryd.prog 30 #[.string (strOf [102, 97, 108, 115, 101])] w fun e w' => e = .returned (.bool true) ∧ w = w' := by
  obtain ⟨str, hstr⟩ : ∃ str, str = strOf [102, 97, 108, 115, 101] := ⟨_, rfl⟩
  have hl : str.toList = [102, 97, 108, 115, 101] := by rw [hstr, str_list]
  rw [← hstr]
  have b0 : (str.toList == [101, 110, 117, 109]) = false := by rw [hl]; decide
  have b1 : (str.toList == [109, 101, 115, 115, 97, 103, 101]) = false := by rw [hl]; decide
  have b2 : (str.toList == [111, 110, 101, 111, 102]) = false := by rw [hl]; decide
  have b3 : (str.toList == [114, 101, 112, 101, 97, 116, 101, 100]) = false := by rw [hl]; decide
  have b4 : (str.toList == [114, 101, 115, 101, 114, 118, 101, 100]) = false := by rw [hl]; decide
  have b5 : (str.toList == [108, 111, 111, 115, 101]) = false := by rw [hl]; decide
  have b6 : (str.toList == [105, 110, 116, 51, 50]) = false := by rw [hl]; decide
  have b7 : (str.toList == [105, 110, 116, 54, 52]) = false := by rw [hl]; decide
  have b8 : (str.toList == [117, 105, 110, 116, 51, 50]) = false := by rw [hl]; decide
  have b9 : (str.toList == [117, 105, 110, 116, 54, 52]) = false := by rw [hl]; decide
  have b10 : (str.toList == [115, 105, 110, 116, 51, 50]) = false := by rw [hl]; decide
  have b11 : (str.toList == [115, 105, 110, 116, 54, 52]) = false := by rw [hl]; decide
  have b12 : (str.toList == [98, 111, 111, 108]) = false := by rw [hl]; decide
  have b13 : (str.toList == [102, 105, 120, 101, 100, 51, 50]) = false := by rw [hl]; decide
  have b14 : (str.toList == [102, 105, 120, 101, 100, 54, 52]) = false := by rw [hl]; decide
  have b15 : (str.toList == [115, 102, 105, 120, 101, 100, 51, 50]) = false := by rw [hl]; decide
  have b16 : (str.toList == [115, 102, 105, 120, 101, 100, 54, 52]) = false := by rw [hl]; decide
  have b17 : (str.toList == [115, 116, 114, 105, 110, 103]) = false := by rw [hl]; decide
  have b18 : (str.toList == [98, 121, 116, 101, 115]) = false := by rw [hl]; decide
  have b19 : (str.toList == [114, 101, 110, 97, 109, 101]) = false := by rw [hl]; decide
  have b20 : (str.toList == [114, 101, 110, 117, 109, 98, 101, 114]) = false := by rw [hl]; decide
  have b21 : (str.toList == [114, 101, 116, 121, 112, 101]) = false := by rw [hl]; decide
  have b22 : (str.toList == [115, 112, 108, 105, 116]) = false := by rw [hl]; decide
  have b23 : (str.toList == [106, 111, 105, 110]) = false := by rw [hl]; decide
  have b24 : (str.toList == [119, 114, 97, 112]) = false := by rw [hl]; decide
  have b25 : (str.toList == [117, 110, 119, 114, 97, 112]) = false := by rw [hl]; decide
  have b26 : (str.toList == [97, 100, 100]) = false := by rw [hl]; decide
  have b27 : (str.toList == [100, 114, 111, 112]) = false := by rw [hl]; decide
  have b28 : (str.toList == [116, 111]) = false := by rw [hl]; decide
  have b29 : (str.toList == [105, 110, 116, 111]) = false := by rw [hl]; decide
  have b30 : (str.toList == [97, 115]) = false := by rw [hl]; decide
  have b31 : (str.toList == [111, 102]) = false := by rw [hl]; decide
  have b32 : (str.toList == [100, 101, 102, 97, 117, 108, 116]) = false := by rw [hl]; decide
  have b33 : (str.toList == [116, 114, 117, 101]) = false := by rw [hl]; decide
  have b34 : (str.toList == [102, 97, 108, 115, 101]) = true := by rw [hl]; decide
  clear hl hstr
  go_enter Tryd.func30, Tryd.ntmps30
  go_wp2
  go_ret
  exact ⟨rfl, rfl⟩
set_option maxHeartbeats 4000000 in
theorem pword_none (t : List UInt8) (h : wordsL.contains t = false) (w : World) : Calls Tryd.prog 30 #[.string (strOf t)] w fun e w' => e = .returned (.bool false) ∧ w = w' := by
  have hall : ∀ x ∈ wordsL, ¬ (strOf t).toList = x := fun x hx e => by
    rw [str_list] at e
    subst e
    rw [List.contains_iff_mem.mpr hx] at h
    cases h
  obtain ⟨str, hstr⟩ : ∃ str, str = strOf t := ⟨_, rfl⟩
  rw [← hstr] at hall ⊢
  clear h hstr
  have b0 : (str.toList == [101, 110, 117, 109]) = false := beq_false_of_ne (hall _ (by decide))
  have b1 : (str.toList == [109, 101, 115, 115, 97, 103, 101]) = false := beq_false_of_ne (hall _ (by decide))
  have b2 : (str.toList == [111, 110, 101, 111, 102]) = false := beq_false_of_ne (hall _ (by decide))
  have b3 : (str.toList == [114, 101, 112, 101, 97, 116, 101, 100]) = false := beq_false_of_ne (hall _ (by decide))
  have b4 : (str.toList == [114, 101, 115, 101, 114, 118, 101, 100]) = false := beq_false_of_ne (hall _ (by decide))
  have b5 : (str.toList == [108, 111, 111, 115, 101]) = false := beq_false_of_ne (hall _ (by decide))
  have b6 : (str.toList == [105, 110, 116, 51, 50]) = false := beq_false_of_ne (hall _ (by decide))
  have b7 : (str.toList == [105, 110, 116, 54, 52]) = false := beq_false_of_ne (hall _ (by decide))
  have b8 : (str.toList == [117, 105, 110, 116, 51, 50]) = false := beq_false_of_ne (hall _ (by decide))
  have b9 : (str.toList == [117, 105, 110, 116, 54, 52]) = false := beq_false_of_ne (hall _ (by decide))
  have b10 : (str.toList == [115, 105, 110, 116, 51, 50]) = false := beq_false_of_ne (hall _ (by decide))
  have b11 : (str.toList == [115, 105, 110, 116, 54, 52]) = false := beq_false_of_ne (hall _ (by decide))
  have b12 : (str.toList == [98, 111, 111, 108]) = false := beq_false_of_ne (hall _ (by decide))
  have b13 : (str.toList == [102, 105, 120, 101, 100, 51, 50]) = false := beq_false_of_ne (hall _ (by decide))
  have b14 : (str.toList == [102, 105, 120, 101, 100, 54, 52]) = false := beq_false_of_ne (hall _ (by decide))
  have b15 : (str.toList == [115, 102, 105, 120, 101, 100, 51, 50]) = false := beq_false_of_ne (hall _ (by decide))
  have b16 : (str.toList == [115, 102, 105, 120, 101, 100, 54, 52]) = false := beq_false_of_ne (hall _ (by decide))
  have b17 : (str.toList == [115, 116, 114, 105, 110, 103]) = false := beq_false_of_ne (hall _ (by decide))
  have b18 : (str.toList == [98, 121, 116, 101, 115]) = false := beq_false_of_ne (hall _ (by decide))
  have b19 : (str.toList == [114, 101, 110, 97, 109, 101]) = false := beq_false_of_ne (hall _ (by decide))
  have b20 : (str.toList == [114, 101, 110, 117, 109, 98, 101, 114]) = false := beq_false_of_ne (hall _ (by decide))
  have b21 : (str.toList == [114, 101, 116, 121, 112, 101]) = false := beq_false_of_ne (hall _ (by decide))
  have b22 : (str.toList == [115, 112, 108, 105, 116]) = false := beq_false_of_ne (hall _ (by decide))
  have b23 : (str.toList == [106, 111, 105, 110]) = false := beq_false_of_ne (hall _ (by decide))
  have b24 : (str.toList == [119, 114, 97, 112]) = false := beq_false_of_ne (hall _ (by decide))
  have b25 : (str.toList == [117, 110, 119, 114, 97, 112]) = false := beq_false_of_ne (hall _ (by decide))
  have b26 : (str.toList == [97, 100, 100]) = false := beq_false_of_ne (hall _ (by decide))
  have b27 : (str.toList == [100, 114, 111, 112]) = false := beq_false_of_ne (hall _ (by decide))
  have b28 : (str.toList == [116, 111]) = false := beq_false_of_ne (hall _ (by decide))
  have b29 : (str.toList == [105, 110, 116, 111]) = false := beq_false_of_ne (hall _ (by decide))
  have b30 : (str.toList == [97, 115]) = false := beq_false_of_ne (hall _ (by decide))
  have b31 : (str.toList == [111, 102]) = false := beq_false_of_ne (hall _ (by decide))
  have b32 : (str.toList == [100, 101, 102, 97, 117, 108, 116]) = false := beq_false_of_ne (hall _ (by decide))
  have b33 : (str.toList == [116, 114, 117, 101]) = false := beq_false_of_ne (hall _ (by decide))
  have b34 : (str.toList == [102, 97, 108, 115, 101]) = false := beq_false_of_ne (hall _ (by decide))
  clear hall
  go_enter Tryd.func30, Tryd.ntmps30
  go_wp2
  go_ret
  exact ⟨rfl, rfl⟩
theorem pword_any (t : List UInt8) (w : World) : Calls Tryd.prog 30 #[.string (strOf t)] w fun e w' => e = .returned (.bool (wordsL.contains t)) ∧ w = w' := by
  cases h : wordsL.contains t with
  | false => exact pword_none t h w
  | true =>
    have hm := List.contains_iff_mem.mp h
    clear h
    simp only [wordsL, List.mem_cons, List.not_mem_nil, or_false] at hm
    rcases hm with rfl | rfl | rfl | rfl | rfl | rfl | rfl | rfl | rfl | rfl | rfl | rfl | rfl | rfl | rfl | rfl | rfl | rfl | rfl | rfl | rfl | rfl | rfl | rfl | rfl | rfl | rfl | rfl | rfl | rfl | rfl | rfl | rfl | rfl | rfl
    · exact pword_0 w
    · exact pword_1 w
    · exact pword_2 w
    · exact pword_3 w
    · exact pword_4 w
    · exact pword_5 w
    · exact pword_6 w
    · exact pword_7 w
    · exact pword_8 w
    · exact pword_9 w
    · exact pword_10 w
    · exact pword_11 w
    · exact pword_12 w
    · exact pword_13 w
    · exact pword_14 w
    · exact pword_15 w
    · exact pword_16 w
    · exact pword_17 w
    · exact pword_18 w
    · exact pword_19 w
    · exact pword_20 w
    · exact pword_21 w
    · exact pword_22 w
    · exact pword_23 w
    · exact pword_24 w
    · exact pword_25 w
    · exact pword_26 w
    · exact pword_27 w
    · exact pword_28 w
    · exact pword_29 w
    · exact pword_30 w
    · exact pword_31 w
    · exact pword_32 w
    · exact pword_33 w
    · exact pword_34 w
end Go.Proofs.YtnbjpeefndcheaaDoor
