/- The document's Right of names: what is none at once. Conditions: those that each theorem names. -/
import Derived.Test.YtnbjpeefndcheaaDoorRiC
namespace Go.Proofs.YtnbjpeefndcheaaDoor
open Go.RowKit
set_option linter.unusedVariables false
set_option maxRecDepth 100000

/-- No name: too short. -/
theorem rname_short (w : World) (t : List UInt8) (h : t.length < 1) : Calls Tryd.prog 22 #[.string (strOf t)] w fun e w' => e = .returned (.bool (nameB t)) ∧ Below w.heap.size w w' := by
  have HF : Hid (nameB t = false) := Lib.hid (by unfold nameB; rw [decide_eq_false (by omega)]; rfl)
  obtain ⟨n, hn⟩ : ∃ n, n = t.length := ⟨_, rfl⟩
  obtain ⟨str, hstr⟩ : ∃ str, str = strOf t := ⟨_, rfl⟩
  have hsz : str.size = n := by rw [hstr, str_size, hn]
  rw [← hstr]
  have g1 : decide ((n : Int) < 1) = true := decide_eq_true (by omega)
  clear hstr hn h
  go_enter Tryd.func22, Tryd.ntmps22
  go_wp2
  go_ret
  exact ⟨ret_bool' HF.out.symm, Below.refl _ _⟩
/-- No name: too long. -/
theorem rname_long (w : World) (t : List UInt8) (h : 12 < t.length) : Calls Tryd.prog 22 #[.string (strOf t)] w fun e w' => e = .returned (.bool (nameB t)) ∧ Below w.heap.size w w' := by
  have HF : Hid (nameB t = false) := Lib.hid (by unfold nameB; rw [decide_eq_false (show ¬ t.length ≤ 12 by omega)]; simp)
  obtain ⟨n, hn⟩ : ∃ n, n = t.length := ⟨_, rfl⟩
  obtain ⟨str, hstr⟩ : ∃ str, str = strOf t := ⟨_, rfl⟩
  have hsz : str.size = n := by rw [hstr, str_size, hn]
  rw [← hstr]
  have g1 : decide ((n : Int) < 1) = false := decide_eq_false (by omega)
  have g2 : decide ((n : Int) > 12) = true := decide_eq_true (by omega)
  clear hstr hn h
  go_enter Tryd.func22, Tryd.ntmps22
  go_wp2
  go_ret
  exact ⟨ret_bool' HF.out.symm, Below.refl _ _⟩
/-- No name: its first is no letter. -/
theorem rname_first (w : World) (c : UInt8) (r : List UInt8) (h12 : (c :: r).length ≤ 12) (hl : letterB c = false) : Calls Tryd.prog 22 #[.string (strOf (c :: r))] w fun e w' => e = .returned (.bool (nameB (c :: r))) ∧ Below w.heap.size w w' := by
  have HF : Hid (nameB (c :: r) = false) := Lib.hid (by unfold nameB; simp only [hl, Bool.and_false, Bool.false_and])
  have h1 : 1 ≤ (c :: r).length := by simp
  obtain ⟨n, hn⟩ : ∃ n, n = (c :: r).length := ⟨_, rfl⟩
  obtain ⟨str, hstr⟩ : ∃ str, str = strOf (c :: r) := ⟨_, rfl⟩
  have hsz : str.size = n := by rw [hstr, str_size, hn]
  rw [← hn] at h1 h12
  have hs0 : 0 < str.size := by omega
  have EA : Hid (str[0]'hs0 = c) := by
    show _ = _
    have := hstr
    subst this
    rfl
  rw [← hstr]
  have g1 : decide ((n : Int) < 1) = false := decide_eq_false (by omega)
  have g2 : decide ((n : Int) > 12) = false := decide_eq_false (by omega)
  have hp0 : (0 : Int) < (n : Int) := by omega
  have HL := Lib.hid (fun w => rletter_any c w)
  rw [hl] at HL
  clear hl hn hstr
  go_enter Tryd.func22, Tryd.ntmps22
  go_wp2_with (go_at_call 36; rw [EA.out]; refine (HL.out _).mono ?_; rintro e w2 ⟨rfl, rfl⟩)
  go_ret
  exact ⟨ret_bool' HF.out.symm, Below.refl _ _⟩
end Go.Proofs.YtnbjpeefndcheaaDoor
