/- The document's digits, marks, words, and what it passes over. Conditions: those that each theorem names. -/
import Derived.Test.YtdenhfhdobcfiaaDoorLexMath
import Derived.Test.YtdenhfhdobcfiaaDoorInts
import Derived.IntWalk
namespace Go.Proofs.YtdenhfhdobcfiaaDoor
open Go.RowKit
set_option linter.unusedVariables false
set_option maxRecDepth 100000

theorem rldigit_any (c : UInt8) (w : World) : Calls Tryd.prog 41 #[.int .u8 (c.toNat : Int)] w fun e w' => e = .returned (.bool (digitB c)) ∧ w = w' := by
  have HL : Hid (digitB c = (decide (48 ≤ c.toNat) && decide (c.toNat ≤ 57))) := Lib.hid rfl
  obtain ⟨n, hn⟩ : ∃ n, n = c.toNat := ⟨_, rfl⟩
  rw [← hn] at HL ⊢
  clear hn
  by_cases h1 : 48 ≤ n <;> by_cases h2 : n ≤ 57
  all_goals first
    | omega
    | (have g1 : decide ((48 : Int) ≤ (n : Int)) = decide (48 ≤ n) := decide_eq_decide.mpr (by omega)
       have g2 : decide ((n : Int) ≤ 57) = decide (n ≤ 57) := decide_eq_decide.mpr (by omega)
       simp only [h1, h2, decide_true, decide_false] at g1 g2 HL
       go_enter Tryd.func41, Tryd.ntmps41
       go_wp2
       go_ret
       exact ⟨ret_bool' HL.out.symm, rfl⟩)
theorem rlmark_any (c : UInt8) (w : World) : Calls Tryd.prog 34 #[.int .u8 (c.toNat : Int)] w fun e w' => e = .returned (.bool (markB c)) ∧ w = w' := by
  have HL : Hid (markB c = decide (c.toNat = 123 ∨ c.toNat = 125 ∨ c.toNat = 40 ∨ c.toNat = 41 ∨ c.toNat = 61 ∨ c.toNat = 44 ∨ c.toNat = 46 ∨ c.toNat = 59)) := Lib.hid rfl
  obtain ⟨n, hn⟩ : ∃ n, n = c.toNat := ⟨_, rfl⟩
  simp only [← hn] at HL
  rw [← hn]
  clear hn
  by_cases h123 : n = 123
  · subst h123
    have HT : Hid (markB c = true) := Lib.hid (HL.out.trans (by decide))
    go_enter Tryd.func34, Tryd.ntmps34
    go_wp2
    go_ret
    exact ⟨ret_bool' HT.out.symm, rfl⟩
  by_cases h125 : n = 125
  · subst h125
    have HT : Hid (markB c = true) := Lib.hid (HL.out.trans (by decide))
    go_enter Tryd.func34, Tryd.ntmps34
    go_wp2
    go_ret
    exact ⟨ret_bool' HT.out.symm, rfl⟩
  by_cases h40 : n = 40
  · subst h40
    have HT : Hid (markB c = true) := Lib.hid (HL.out.trans (by decide))
    go_enter Tryd.func34, Tryd.ntmps34
    go_wp2
    go_ret
    exact ⟨ret_bool' HT.out.symm, rfl⟩
  by_cases h41 : n = 41
  · subst h41
    have HT : Hid (markB c = true) := Lib.hid (HL.out.trans (by decide))
    go_enter Tryd.func34, Tryd.ntmps34
    go_wp2
    go_ret
    exact ⟨ret_bool' HT.out.symm, rfl⟩
  by_cases h61 : n = 61
  · subst h61
    have HT : Hid (markB c = true) := Lib.hid (HL.out.trans (by decide))
    go_enter Tryd.func34, Tryd.ntmps34
    go_wp2
    go_ret
    exact ⟨ret_bool' HT.out.symm, rfl⟩
  by_cases h44 : n = 44
  · subst h44
    have HT : Hid (markB c = true) := Lib.hid (HL.out.trans (by decide))
    go_enter Tryd.func34, Tryd.ntmps34
    go_wp2
    go_ret
    exact ⟨ret_bool' HT.out.symm, rfl⟩
  by_cases h46 : n = 46
  · subst h46
    have HT : Hid (markB c = true) := Lib.hid (HL.out.trans (by decide))
    go_enter Tryd.func34, Tryd.ntmps34
    go_wp2
    go_ret
    exact ⟨ret_bool' HT.out.symm, rfl⟩
  by_cases h59 : n = 59
  · subst h59
    have HT : Hid (markB c = true) := Lib.hid (HL.out.trans (by decide))
    go_enter Tryd.func34, Tryd.ntmps34
    go_wp2
    go_ret
    exact ⟨ret_bool' HT.out.symm, rfl⟩
  have e123 : ((n : Int) == 123) = false := beq_false_of_ne (by omega)
  have f123 : ¬ (n : Int) = 123 := by omega
  have e125 : ((n : Int) == 125) = false := beq_false_of_ne (by omega)
  have f125 : ¬ (n : Int) = 125 := by omega
  have e40 : ((n : Int) == 40) = false := beq_false_of_ne (by omega)
  have f40 : ¬ (n : Int) = 40 := by omega
  have e41 : ((n : Int) == 41) = false := beq_false_of_ne (by omega)
  have f41 : ¬ (n : Int) = 41 := by omega
  have e61 : ((n : Int) == 61) = false := beq_false_of_ne (by omega)
  have f61 : ¬ (n : Int) = 61 := by omega
  have e44 : ((n : Int) == 44) = false := beq_false_of_ne (by omega)
  have f44 : ¬ (n : Int) = 44 := by omega
  have e46 : ((n : Int) == 46) = false := beq_false_of_ne (by omega)
  have f46 : ¬ (n : Int) = 46 := by omega
  have e59 : ((n : Int) == 59) = false := beq_false_of_ne (by omega)
  have f59 : ¬ (n : Int) = 59 := by omega
  have HT : Hid (markB c = false) := Lib.hid (HL.out.trans (decide_eq_false (by omega)))
  go_enter Tryd.func34, Tryd.ntmps34
  go_wp2
  go_ret
  exact ⟨ret_bool' HT.out.symm, rfl⟩

set_option maxHeartbeats 2000000 in
theorem rlword_any (t : List UInt8) (w : World) (hl : t.length ≤ 1000000) : Calls Tryd.prog 31 #[.string (strOf t)] w fun e w' => e = .returned (.int .i64 (wordN t : Int)) ∧ w = w' := by
  obtain ⟨n, hn⟩ : ∃ n, n = t.length := ⟨_, rfl⟩
  obtain ⟨str, hstr⟩ : ∃ str, str = strOf t := ⟨_, rfl⟩
  have hsz : str.size = n := by rw [hstr, str_size, hn]
  rw [← hn] at hl
  rw [← hstr]
  have HN := Lib.hid hn
  have HST := Lib.hid hstr
  clear hn hstr
  go_enter Tryd.func31, Tryd.ntmps31
  go_wp2
  go_loop [3] (fun x => ∃ k : Nat, k ≤ n ∧ x = .int .i64 (k : Int) ∧ wordN t = k + wordAt k (t.drop k)) (fun x => n - (intOf x).toNat)
  case atStart => exact ⟨0, Nat.zero_le _, rfl, by rw [List.drop_zero, Nat.zero_add]; rfl⟩
  case round =>
    obtain ⟨k, hk, rfl, hw⟩ := hrel
    by_cases hlt : k < n
    · have g3 : decide ((k : Int) < (n : Int)) = true := decide_eq_true (by omega)
      obtain ⟨a, ha⟩ : ∃ a, t[k]? = some a := ⟨_, List.getElem?_eq_getElem (by have := HN.out; omega)⟩
      have hsk : k < str.size := by omega
      have EK : str[k]'hsk = a := by
        obtain ⟨q1, q2⟩ := List.getElem?_eq_some_iff.mp ha
        have := HST.out
        subst this
        exact q2
      have hk0 : 0 ≤ (k : Int) := by omega
      have hk1 : (k : Int) < (n : Int) := by omega
      have HLA := Lib.hid (fun w => rletter_any a w)
      have HDA := Lib.hid (fun w => rldigit_any a w)
      rw [drop_get ha, wordAt_cons] at hw
      have HW := Lib.hid hw
      have HOK : Hid (wordOk k a = (letterB a || (decide (0 < k) && (digitB a || decide (a.toNat = 95))))) := Lib.hid rfl
      clear ha hw
      cases hla : letterB a with
      | true =>
        rw [hla] at HOK HLA
        rw [HOK.out] at HW
        clear hla HOK
        go_wp2_with (go_at_call 40; (try rw [EK]); refine (HLA.out _).mono ?_; rintro e w2 ⟨rfl, rfl⟩)
        go_round
        case rel => exact ⟨k + 1, by omega, by go_num, by rw [HW.out, Bool.true_or, if_pos rfl]; omega⟩
        case measure => simp [intOf]; omega
      | false =>
        rw [hla] at HOK HLA
        clear hla
        by_cases h0 : k = 0
        · subst h0
          have g5 : decide ((((0 : Nat) : Int)) > 0) = false := rfl
          have HZ : Hid (wordN t = 0) := Lib.hid (by rw [HW.out, HOK.out, decide_eq_false (Nat.lt_irrefl 0), Bool.false_and, Bool.or_false, if_neg (by decide)])
          clear HW HOK
          go_wp2_with (go_at_call 40; (try rw [EK]); refine (HLA.out _).mono ?_; rintro e w2 ⟨rfl, rfl⟩)
          go_ret
          exact ⟨by rw [HZ.out]; rfl, rfl⟩
        · have g5 : decide ((k : Int) > 0) = true := decide_eq_true (by omega)
          have g6 : decide (0 < k) = true := decide_eq_true (by omega)
          rw [g6] at HOK
          cases hda : digitB a with
          | true =>
            rw [hda] at HOK HDA
            rw [HOK.out] at HW
            clear hda HOK
            go_wp2_with (first
              | (go_at_call 40; (try rw [EK]); refine (HLA.out _).mono ?_; rintro e w2 ⟨rfl, rfl⟩)
              | (go_at_call 41; (try rw [EK]); refine (HDA.out _).mono ?_; rintro e w2 ⟨rfl, rfl⟩))
            go_round
            case rel => exact ⟨k + 1, by omega, by go_num, by rw [HW.out, Bool.true_or, Bool.true_and, Bool.false_or, if_pos rfl]; omega⟩
            case measure => simp [intOf]; omega
          | false =>
            rw [hda] at HOK HDA
            rw [HOK.out] at HW
            clear hda HOK
            by_cases h95 : a.toNat = 95
            · have HW2 : Hid (wordN t = k + 1 + wordAt (k + 1) (t.drop (k + 1))) := Lib.hid (by rw [HW.out, decide_eq_true h95, if_pos (by decide)]; omega)
              have ha95 : a = 95 := UInt8.toNat_inj.mp h95
              subst ha95
              have HDB : Hid (∀ w, Calls Tryd.prog 41 #[.int .u8 (95 : Int)] w fun e w' => e = .returned (.bool false) ∧ w = w') := HDA
              have HLB : Hid (∀ w, Calls Tryd.prog 40 #[.int .u8 (95 : Int)] w fun e w' => e = .returned (.bool false) ∧ w = w') := HLA
              clear HW h95
              go_wp2_with (first
                | (go_at_call 40; (try rw [EK]); refine (HLB.out _).mono ?_; rintro e w2 ⟨rfl, rfl⟩)
                | (go_at_call 41; (try rw [EK]); refine (HDB.out _).mono ?_; rintro e w2 ⟨rfl, rfl⟩))
              go_round
              case rel => exact ⟨k + 1, by omega, by go_num, HW2.out⟩
              case measure => simp [intOf]; omega
            · have hne : ¬ ((a.toNat : Int) = 95) := by omega
              have hne2 : ((a.toNat : Int) == 95) = false := beq_false_of_ne hne
              have HZ : Hid (wordN t = k) := Lib.hid (by rw [HW.out, decide_eq_false h95, if_neg (by decide)]; rfl)
              clear HW
              go_wp2_with (first
                | (go_at_call 40; (try rw [EK]); refine (HLA.out _).mono ?_; rintro e w2 ⟨rfl, rfl⟩)
                | (go_at_call 41; (try rw [EK]); refine (HDA.out _).mono ?_; rintro e w2 ⟨rfl, rfl⟩))
              go_ret
              exact ⟨by rw [HZ.out]; rfl, rfl⟩
    · have g3 : decide ((k : Int) < (n : Int)) = false := decide_eq_false (by omega)
      have HZ : Hid (wordN t = k) := Lib.hid (by
        rw [hw, List.drop_of_length_le (by have := HN.out; omega)]
        unfold wordAt
        split <;> rfl)
      clear hw
      go_wp2
      go_ret
      exact ⟨by rw [HZ.out]; rfl, rfl⟩
end Go.Proofs.YtdenhfhdobcfiaaDoor
