/- Several texts in one: RrA, RwA. What each proves, and its conditions, stands at its own head. -/
import Derived.Test.YtmdekdmcnnbofaaDoorPkVD7
import Derived.Test.YtmdekdmcnnbofaaDoorPkVD0
import Derived.BigQuiet
import Derived.Deep.QuietTactic
/- The document's Right, All, Same, and what is small. Conditions: those that each theorem names. -/
namespace Go.Proofs.YtmdekdmcnnbofaaDoor
open Go.RowKit
set_option linter.unusedVariables false
set_option maxRecDepth 100000

theorem rraw_right (x : Rw) (w : World) : Calls Tryd.prog 30 #[rawV x] w fun e w' => e = .returned (.bool (okR x)) ∧ w' = w.alloc (.cells (rawCells x).toArray 64) := by
  obtain ⟨num, wire, n, s⟩ := x
  unfold rawV rawCells
  dsimp only
  have HR := Lib.hid (fun w => rright_any num wire w)
  cases hr : rightB num wire with
  | false =>
    rw [hr] at HR
    have HO : Hid (okR ⟨num, wire, n, s⟩ = false) := by show _ = _; simp [okR, hr]
    clear hr
    go_enter Tryd.func30, Tryd.ntmps30
    go_wp2_with (go_at_call 50; refine (HR.out _).mono ?_; rintro e w' ⟨rfl, rfl⟩)
    go_ret
    exact ⟨ret_bool' HO.out.symm, rfl⟩
  | true =>
    rw [hr] at HR
    by_cases h2 : wire = 2
    · subst h2
      have HO : Hid (okR ⟨num, 2, n, s⟩ = ((n : Int) == 0)) := by show _ = _; simp [okR, hr]; by_cases h : n = 0 <;> simp [h]
      clear hr
      go_enter Tryd.func30, Tryd.ntmps30
      go_wp2_with (go_at_call 50; refine (HR.out _).mono ?_; rintro e w' ⟨rfl, rfl⟩)
      go_ret
      exact ⟨ret_bool' HO.out.symm, rfl⟩
    · have g2 : (wire == 2) = false := beq_false_of_ne h2
      by_cases hs : s = []
      · subst hs
        have e0 : strOf [] = ⟨#[]⟩ := rfl
        rw [e0]
        by_cases h5 : wire = 5
        · subst h5
          have HO : Hid (okR ⟨num, 5, n, []⟩ = decide (n < 4294967296)) := by show _ = _; unfold okR; generalize decide (n < 4294967296) = b; simp [hr]
          clear hr
          by_cases hlt : n < 4294967296
          · have g6 : decide ((n : Int) < 4294967296) = true := decide_eq_true (by omega)
            have HO2 : Hid (okR ⟨num, 5, n, []⟩ = true) := Lib.hid (HO.out.trans (decide_eq_true hlt))
            clear HO
            go_enter Tryd.func30, Tryd.ntmps30
            go_wp2_with (go_at_call 50; refine (HR.out _).mono ?_; rintro e w' ⟨rfl, rfl⟩)
            go_ret
            exact ⟨ret_bool' HO2.out.symm, rfl⟩
          · have g6 : decide ((n : Int) < 4294967296) = false := decide_eq_false (by omega)
            have HO2 : Hid (okR ⟨num, 5, n, []⟩ = false) := Lib.hid (HO.out.trans (decide_eq_false hlt))
            clear HO
            go_enter Tryd.func30, Tryd.ntmps30
            go_wp2_with (go_at_call 50; refine (HR.out _).mono ?_; rintro e w' ⟨rfl, rfl⟩)
            go_ret
            exact ⟨ret_bool' HO2.out.symm, rfl⟩
        · have g5 : (wire == 5) = false := beq_false_of_ne h5
          have HO : Hid (okR ⟨num, wire, n, []⟩ = true) := by show _ = _; simp [okR, hr, h2, h5]
          clear hr h2
          go_enter Tryd.func30, Tryd.ntmps30
          go_wp2_with (go_at_call 50; refine (HR.out _).mono ?_; rintro e w' ⟨rfl, rfl⟩)
          go_ret
          exact ⟨ret_bool' HO.out.symm, rfl⟩
      · have e1 : (strOf s).toList = s := by rw [ByteArray.toList_eq]; simp [strOf]
        have g3 : (strOf s).toList.isEmpty = false := by rw [e1]; simpa using hs
        have g4 : ¬ (strOf s).toList = [] := by rw [e1]; exact hs
        have HO : Hid (okR ⟨num, wire, n, s⟩ = false) := by show _ = _; simp [okR, hr, h2, hs]
        obtain ⟨t, ht⟩ : ∃ t, t = strOf s := ⟨_, rfl⟩
        rw [← ht] at g3 g4 ⊢
        clear hr h2 hs ht e1
        go_enter Tryd.func30, Tryd.ntmps30
        go_wp2_with (go_at_call 50; refine (HR.out _).mono ?_; rintro e w' ⟨rfl, rfl⟩)
        go_ret
        exact ⟨ret_bool' HO.out.symm, rfl⟩
end Go.Proofs.YtmdekdmcnnbofaaDoor

/- The program's Right and Same of fields. Conditions: those that each theorem names. -/
namespace Go.Proofs.YtmdekdmcnnbofaaDoor
open Go.RowKit
set_option linter.unusedVariables false
set_option maxRecDepth 100000

theorem raw_right (x : Rw) (w : World) : Calls Tryd.prog 23 #[rawV x] w fun e w' => e = .returned (.bool (okR x)) ∧ w' = w.alloc (.cells (rawCells x).toArray 64) := by
  obtain ⟨num, wire, n, s⟩ := x
  unfold rawV rawCells
  dsimp only
  have HR := Lib.hid (fun w => right_any num wire w)
  cases hr : rightB num wire with
  | false =>
    rw [hr] at HR
    have HO : Hid (okR ⟨num, wire, n, s⟩ = false) := by show _ = _; simp [okR, hr]
    clear hr
    go_enter Tryd.func23, Tryd.ntmps23
    go_wp2_with (go_at_call 44; refine (HR.out _).mono ?_; rintro e w' ⟨rfl, rfl⟩)
    go_ret
    exact ⟨ret_bool' HO.out.symm, rfl⟩
  | true =>
    rw [hr] at HR
    by_cases h2 : wire = 2
    · subst h2
      have HO : Hid (okR ⟨num, 2, n, s⟩ = ((n : Int) == 0)) := by show _ = _; simp [okR, hr]; by_cases h : n = 0 <;> simp [h]
      clear hr
      go_enter Tryd.func23, Tryd.ntmps23
      go_wp2_with (go_at_call 44; refine (HR.out _).mono ?_; rintro e w' ⟨rfl, rfl⟩)
      go_ret
      exact ⟨ret_bool' HO.out.symm, rfl⟩
    · have g2 : (wire == 2) = false := beq_false_of_ne h2
      by_cases h5 : wire = 5
      · subst h5
        by_cases hs : s = []
        · subst hs
          have e0 : strOf [] = ⟨#[]⟩ := rfl
          rw [e0]
          have HO : Hid (okR ⟨num, 5, n, []⟩ = decide (n < 4294967296)) := by show _ = _; unfold okR; generalize decide (n < 4294967296) = b; simp [hr]
          clear hr
          by_cases hlt : n < 4294967296
          · have g6 : decide ((n : Int) ≤ 4294967295) = true := decide_eq_true (by omega)
            have HO2 : Hid (okR ⟨num, 5, n, []⟩ = true) := Lib.hid (HO.out.trans (decide_eq_true hlt))
            clear HO
            go_enter Tryd.func23, Tryd.ntmps23
            go_wp2_with (go_at_call 44; refine (HR.out _).mono ?_; rintro e w' ⟨rfl, rfl⟩)
            go_ret
            exact ⟨ret_bool' HO2.out.symm, rfl⟩
          · have g6 : decide ((n : Int) ≤ 4294967295) = false := decide_eq_false (by omega)
            have HO2 : Hid (okR ⟨num, 5, n, []⟩ = false) := Lib.hid (HO.out.trans (decide_eq_false hlt))
            clear HO
            go_enter Tryd.func23, Tryd.ntmps23
            go_wp2_with (go_at_call 44; refine (HR.out _).mono ?_; rintro e w' ⟨rfl, rfl⟩)
            go_ret
            exact ⟨ret_bool' HO2.out.symm, rfl⟩
        · have e1 : (strOf s).toList = s := by rw [ByteArray.toList_eq]; simp [strOf]
          have g3 : (strOf s).toList.isEmpty = false := by rw [e1]; simpa using hs
          have g4 : ¬ (strOf s).toList = [] := by rw [e1]; exact hs
          have HO : Hid (okR ⟨num, 5, n, s⟩ = false) := by show _ = _; simp [okR, hr, hs]
          obtain ⟨t, ht⟩ : ∃ t, t = strOf s := ⟨_, rfl⟩
          rw [← ht] at g3 g4 ⊢
          clear hr h2 hs ht e1
          go_enter Tryd.func23, Tryd.ntmps23
          go_wp2_with (go_at_call 44; refine (HR.out _).mono ?_; rintro e w' ⟨rfl, rfl⟩)
          go_ret
          exact ⟨ret_bool' HO.out.symm, rfl⟩
      · have g5 : (wire == 5) = false := beq_false_of_ne h5
        by_cases hs : s = []
        · subst hs
          have e0 : strOf [] = ⟨#[]⟩ := rfl
          rw [e0]
          have HO : Hid (okR ⟨num, wire, n, []⟩ = true) := by show _ = _; simp [okR, hr, h2, h5]
          clear hr h2
          go_enter Tryd.func23, Tryd.ntmps23
          go_wp2_with (go_at_call 44; refine (HR.out _).mono ?_; rintro e w' ⟨rfl, rfl⟩)
          go_ret
          exact ⟨ret_bool' HO.out.symm, rfl⟩
        · have e1 : (strOf s).toList = s := by rw [ByteArray.toList_eq]; simp [strOf]
          have g3 : (strOf s).toList.isEmpty = false := by rw [e1]; simpa using hs
          have g4 : ¬ (strOf s).toList = [] := by rw [e1]; exact hs
          have HO : Hid (okR ⟨num, wire, n, s⟩ = false) := by show _ = _; simp [okR, hr, h2, hs]
          obtain ⟨t, ht⟩ : ∃ t, t = strOf s := ⟨_, rfl⟩
          rw [← ht] at g3 g4 ⊢
          clear hr h2 hs ht e1
          go_enter Tryd.func23, Tryd.ntmps23
          go_wp2_with (go_at_call 44; refine (HR.out _).mono ?_; rintro e w' ⟨rfl, rfl⟩)
          go_ret
          exact ⟨ret_bool' HO.out.symm, rfl⟩

end Go.Proofs.YtmdekdmcnnbofaaDoor
