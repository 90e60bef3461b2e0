/- What the document passes over. Conditions: those that each theorem names. -/
import Derived.Test.YtdenhfhdobcfiaaDoorRlA
import Derived.Deep.LoopGhost
namespace Go.Proofs.YtdenhfhdobcfiaaDoor
open Go.RowKit
set_option linter.unusedVariables false
set_option maxRecDepth 100000

set_option maxHeartbeats 4000000 in
theorem rlpass_any (t : List UInt8) (i : Nat) (w : World) (hi : i ≤ t.length) (hl : t.length ≤ 1000000) : Calls Tryd.prog 25 #[.string (strOf t), .int .i64 (i : Int)] w fun e w' => e = .returned (.int .i64 ((i + passM false (t.drop i) : Nat) : Int)) ∧ w = w' := by
  obtain ⟨P, hP⟩ : ∃ P, P = i + passM false (t.drop i) := ⟨_, rfl⟩
  rw [← hP]
  obtain ⟨n, hn⟩ : ∃ n, n = t.length := ⟨_, rfl⟩
  obtain ⟨str, hstr⟩ : ∃ str, str = strOf t := ⟨_, rfl⟩
  have hsz : str.size = n := by rw [hstr, str_size, hn]
  rw [← hn] at hl hi
  rw [← hstr]
  have HN := Lib.hid hn
  have HST := Lib.hid hstr
  have HP := Lib.hid hP
  have EKK : Hid (∀ (k : Nat) (a : UInt8) (h : k < str.size), t[k]? = some a → str[k]'h = a) := Lib.hid (fun k a h ha => by
    obtain ⟨q1, q2⟩ := List.getElem?_eq_some_iff.mp ha
    have := hstr
    subst this
    exact q2)
  clear hn hstr hP
  go_enter Tryd.func25, Tryd.ntmps25
  go_wp2
  go_loopg [1] (n - i) (fun g x wr => ∃ k : Nat, x = .int .i64 (k : Int) ∧ k + g = n ∧ w = wr ∧ P = k + passM false (t.drop k))
  case atStart => exact ⟨i, rfl, by omega, rfl, HP.out⟩
  case round =>
    obtain ⟨k, rfl, hk, rfl, hp⟩ := hrel
    obtain ⟨g0, hg0⟩ : ∃ g0, g0 = gk := ⟨_, rfl⟩
    subst hg0
    by_cases hlt : k < n
    · have g3 : decide ((k : Int) < (n : Int)) = true := decide_eq_true (by omega)
      obtain ⟨a, ha⟩ : ∃ a, t[k]? = some a := ⟨_, List.getElem?_eq_getElem (by have := HN.out; omega)⟩
      have hsk : k < str.size := by omega
      have EK : str[k]'hsk = a := EKK.out k a hsk ha
      have hk0 : 0 ≤ (k : Int) := by omega
      have hk1 : (k : Int) < (n : Int) := by omega
      have hdr := drop_get ha
      rw [hdr, passM] at hp
      by_cases hbl : blankB a = true
      · rw [if_pos hbl] at hp
        have hor : a.toNat = 32 ∨ a.toNat = 10 ∨ a.toNat = 9 := of_decide_eq_true hbl
        have HPP := Lib.hid hp
        clear hp hbl ha hdr
        rcases hor with h | h | h
        all_goals
          have ha2 : (a.toNat : Int) = _ := congrArg Nat.cast h
          go_wp2
          go_roundg (g0 - 1)
          case measure => omega
          case rel => exact ⟨k + 1, by go_num, by omega, rfl, by rw [HPP.out]; omega⟩
      · rw [if_neg hbl] at hp
        have hno : ¬ (a.toNat = 32 ∨ a.toNat = 10 ∨ a.toNat = 9) := fun h => hbl (decide_eq_true h)
        have n32 : ((a.toNat : Int) == 32) = false := beq_false_of_ne (by omega)
        have n10 : ((a.toNat : Int) == 10) = false := beq_false_of_ne (by omega)
        have n9 : ((a.toNat : Int) == 9) = false := beq_false_of_ne (by omega)
        have m32 : ¬ (a.toNat : Int) = 32 := by omega
        have m10 : ¬ (a.toNat : Int) = 10 := by omega
        have m9 : ¬ (a.toNat : Int) = 9 := by omega
        by_cases h47 : a.toNat = 47
        · have ha47 : a = 47 := UInt8.toNat_inj.mp h47
          subst ha47
          by_cases hend : k + 1 < n
          · have g4 : decide ((k : Int) + 1 ≥ (n : Int)) = false := decide_eq_false (by omega)
            obtain ⟨b, hb⟩ : ∃ b, t[k + 1]? = some b := ⟨_, List.getElem?_eq_getElem (by have := HN.out; omega)⟩
            have hsk1 : k + 1 < str.size := by omega
            have EK1 : str[k + 1]'hsk1 = b := EKK.out (k + 1) b hsk1 hb
            have hk2 : 0 ≤ (k : Int) + 1 := by omega
            have hk3 : (k : Int) + 1 < (n : Int) := by omega
            have hdr1 := drop_get hb
            by_cases hb47 : b.toNat = 47
            · have hb2 : b = 47 := UInt8.toNat_inj.mp hb47
              subst hb2
              have hpt : P = k + passM true (t.drop k) := by
                rw [hdr, passM, if_neg (by decide), hp, hdr1, if_pos ⟨rfl, rfl⟩]
              have HPT := Lib.hid hpt
              have HA := Lib.hid ha
              clear hp hpt ha hdr hb hdr1
              go_wp2
              go_loopg [1] (n - k) (fun h y wr => ∃ j : Nat, y = .int .i64 (j : Int) ∧ j + h = n ∧ k ≤ j ∧ w = wr ∧ P = j + passM true (t.drop j))
              case atStart => exact ⟨k, rfl, by omega, Nat.le_refl _, rfl, HPT.out⟩
              case round =>
                obtain ⟨j, rfl, hj, hkj, rfl, hpj⟩ := hrel
                obtain ⟨h0, hh0⟩ : ∃ h0, h0 = gk := ⟨_, rfl⟩
                subst hh0
                by_cases hjn : j < n
                · have g5 : decide ((j : Int) < (n : Int)) = true := decide_eq_true (by omega)
                  obtain ⟨d, hd⟩ : ∃ d, t[j]? = some d := ⟨_, List.getElem?_eq_getElem (by have := HN.out; omega)⟩
                  have hsj : j < str.size := by omega
                  have EJ : str[j]'hsj = d := EKK.out j d hsj hd
                  have hj0 : 0 ≤ (j : Int) := by omega
                  have hj1 : (j : Int) < (n : Int) := by omega
                  have hdj := drop_get hd
                  rw [hdj, passM] at hpj
                  by_cases hd10 : d.toNat = 10
                  · rw [if_pos hd10] at hpj
                    have hd2 : (d.toNat : Int) = 10 := congrArg Nat.cast hd10
                    have hne : j ≠ k := fun e => by
                      subst e
                      have := HA.out.symm.trans hd
                      injection this with this
                      rw [← this] at hd10
                      exact absurd hd10 (by decide)
                    have HPJ : Hid (P = j + passM false (t.drop j)) := Lib.hid (by rw [hdj, passM, if_pos (show blankB d = true from decide_eq_true (.inr (.inl hd10)))]; exact hpj)
                    clear hpj hd hdj
                    go_wp2
                    go_roundg h0
                    case measure => omega
                    case rel => exact ⟨j, rfl, hj, rfl, HPJ.out⟩
                  · rw [if_neg hd10] at hpj
                    have e10 : ((d.toNat : Int) == 10) = false := beq_false_of_ne (by omega)
                    have f10 : ¬ (d.toNat : Int) = 10 := by omega
                    have HPJ := Lib.hid hpj
                    clear hpj hd hdj
                    go_wp2
                    go_roundg (h0 - 1)
                    case measure => omega
                    case rel => exact ⟨j + 1, by go_num, by omega, by omega, rfl, by rw [HPJ.out]; omega⟩
                · have g5 : decide ((j : Int) < (n : Int)) = false := decide_eq_false (by omega)
                  have HPJ : Hid (P = j + passM false (t.drop j)) := Lib.hid (by
                    have e : t.drop j = [] := List.drop_of_length_le (by have := HN.out; omega)
                    rw [e] at hpj ⊢
                    simpa [passM] using hpj)
                  clear hpj
                  go_wp2
                  go_roundg h0
                  case measure => omega
                  case rel => exact ⟨j, rfl, hj, rfl, HPJ.out⟩
            · have e47 : ((b.toNat : Int) == 47) = false := beq_false_of_ne (by omega)
              have f47 : ¬ (b.toNat : Int) = 47 := by omega
              have HPK : Hid (P = k) := Lib.hid (by
                rw [hp, hdr1, if_neg (fun h => hb47 (by have := h.2; simpa using this))]
                rfl)
              clear hp ha hdr hb hdr1
              go_wp2
              go_ret
              exact ⟨by rw [HPK.out]; rfl, rfl⟩
          · have g4 : decide ((k : Int) + 1 ≥ (n : Int)) = true := decide_eq_true (by omega)
            have HPK : Hid (P = k) := Lib.hid (by
              have e : t.drop (k + 1) = [] := List.drop_of_length_le (by have := HN.out; omega)
              rw [hp, e, if_neg (by simp)]; rfl)
            clear hp ha hdr
            go_wp2
            go_ret
            exact ⟨by rw [HPK.out]; rfl, rfl⟩
        · have e47 : ((a.toNat : Int) == 47) = false := beq_false_of_ne (by omega)
          have f47 : ¬ (a.toNat : Int) = 47 := by omega
          have HPK : Hid (P = k) := Lib.hid (by rw [hp, if_neg (fun h => h47 h.1)]; rfl)
          clear hp ha hdr
          go_wp2
          go_ret
          exact ⟨by rw [HPK.out]; rfl, rfl⟩
    · have g3 : decide ((k : Int) < (n : Int)) = false := decide_eq_false (by omega)
      have HPK : Hid (P = k) := Lib.hid (by
        have e : t.drop k = [] := List.drop_of_length_le (by have := HN.out; omega)
        rw [hp, e]; simp [passM])
      clear hp
      go_wp2
      go_ret
      exact ⟨by rw [HPK.out]; rfl, rfl⟩
end Go.Proofs.YtdenhfhdobcfiaaDoor
