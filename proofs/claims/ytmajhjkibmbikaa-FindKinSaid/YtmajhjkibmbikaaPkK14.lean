/- Several texts in one: RiC, RiD, RiE. What each proves, and its conditions, stands at its own head. -/
import Derived.Test.YtmajhjkibmbikaaPkK3
import Derived.Test.YtmajhjkibmbikaaPkK13
import Derived.Test.YtmajhjkibmbikaaPkK2
/- The document's names: Letter, words, Right. Conditions: those that each theorem names. -/
namespace Go.Proofs.Ytmajhjkibmbikaa
open Go.RowKit
set_option linter.unusedVariables false
set_option maxRecDepth 100000

def letterB (c : UInt8) : Bool := (decide (97 ≤ c.toNat) && decide (c.toNat ≤ 122)) || (decide (65 ≤ c.toNat) && decide (c.toNat ≤ 90))
def charB (c : UInt8) : Bool := letterB c || (decide (48 ≤ c.toNat) && decide (c.toNat ≤ 57)) || decide (c.toNat = 95)
/-- The words that are no names. -/
def wordsL : List (List UInt8) := [[101, 110, 117, 109], [109, 101, 115, 115, 97, 103, 101], [111, 110, 101, 111, 102], [114, 101, 112, 101, 97, 116, 101, 100], [114, 101, 115, 101, 114, 118, 101, 100], [108, 111, 111, 115, 101], [105, 110, 116, 51, 50], [105, 110, 116, 54, 52], [117, 105, 110, 116, 51, 50], [117, 105, 110, 116, 54, 52], [115, 105, 110, 116, 51, 50], [115, 105, 110, 116, 54, 52], [98, 111, 111, 108], [102, 105, 120, 101, 100, 51, 50], [102, 105, 120, 101, 100, 54, 52], [115, 102, 105, 120, 101, 100, 51, 50], [115, 102, 105, 120, 101, 100, 54, 52], [115, 116, 114, 105, 110, 103], [98, 121, 116, 101, 115], [114, 101, 110, 97, 109, 101], [114, 101, 110, 117, 109, 98, 101, 114], [114, 101, 116, 121, 112, 101], [115, 112, 108, 105, 116], [106, 111, 105, 110], [119, 114, 97, 112], [117, 110, 119, 114, 97, 112], [97, 100, 100], [100, 114, 111, 112], [116, 111], [105, 110, 116, 111], [97, 115], [111, 102], [100, 101, 102, 97, 117, 108, 116], [116, 114, 117, 101], [102, 97, 108, 115, 101]]
theorem words_length : wordsL.length = 35 := by decide
def nameB (t : List UInt8) : Bool := decide (1 ≤ t.length) && decide (t.length ≤ 12) && (match t with | [] => false | c :: _ => letterB c) && t.all charB && !(wordsL.contains t)

theorem rletter_any (c : UInt8) (w : World) : Calls Try.prog 65 #[.int .u8 (c.toNat : Int)] w fun e w' => e = .returned (.bool (letterB c)) ∧ w = w' := by
  have HL : Hid (letterB c = ((decide (97 ≤ c.toNat) && decide (c.toNat ≤ 122)) || (decide (65 ≤ c.toNat) && decide (c.toNat ≤ 90)))) := Lib.hid rfl
  obtain ⟨n, hn⟩ : ∃ n, n = c.toNat := ⟨_, rfl⟩
  rw [← hn] at HL ⊢
  clear hn
  by_cases h1 : 97 ≤ n <;> by_cases h2 : n ≤ 122 <;> by_cases h3 : 65 ≤ n <;> by_cases h4 : n ≤ 90
  all_goals first
    | omega
    | (have g1 : decide ((97 : Int) ≤ (n : Int)) = decide (97 ≤ n) := decide_eq_decide.mpr (by omega)
       have g2 : decide ((n : Int) ≤ 122) = decide (n ≤ 122) := decide_eq_decide.mpr (by omega)
       have g3 : decide ((65 : Int) ≤ (n : Int)) = decide (65 ≤ n) := decide_eq_decide.mpr (by omega)
       have g4 : decide ((n : Int) ≤ 90) = decide (n ≤ 90) := decide_eq_decide.mpr (by omega)
       simp only [h1, h2, h3, h4, decide_true, decide_false] at g1 g2 g3 g4 HL
       go_enter Try.func65, Try.ntmps65
       go_wp2
       go_ret
       exact ⟨ret_bool' HL.out.symm, rfl⟩)
theorem rwords_any (w : World) : Calls Try.prog 66 #[] w fun e w' => e = .returned (.slice (some ⟨w.heap.size, 0, none⟩) 35 35) ∧ w' = w.alloc (.cells (txts wordsL).toArray 9) := by
  go_enter Try.func66, Try.ntmps66
  go_wp2
  go_ret
  exact ⟨rfl, rfl⟩
end Go.Proofs.Ytmajhjkibmbikaa

/- The document's Right of names: what is none at once. Conditions: those that each theorem names. -/
namespace Go.Proofs.Ytmajhjkibmbikaa
open Go.RowKit
set_option linter.unusedVariables false
set_option maxRecDepth 100000

/-- No name: too short. -/
theorem rname_short (w : World) (t : List UInt8) (h : t.length < 1) : Calls Try.prog 55 #[.string (strOf t)] w fun e w' => e = .returned (.bool (nameB t)) ∧ Below w.heap.size w w' := by
  have HF : Hid (nameB t = false) := Lib.hid (by unfold nameB; rw [decide_eq_false (by omega)]; rfl)
  obtain ⟨n, hn⟩ : ∃ n, n = t.length := ⟨_, rfl⟩
  obtain ⟨str, hstr⟩ : ∃ str, str = strOf t := ⟨_, rfl⟩
  have hsz : str.size = n := by rw [hstr, str_size, hn]
  rw [← hstr]
  have g1 : decide ((n : Int) < 1) = true := decide_eq_true (by omega)
  clear hstr hn h
  go_enter Try.func55, Try.ntmps55
  go_wp2
  go_ret
  exact ⟨ret_bool' HF.out.symm, Below.refl _ _⟩
/-- No name: too long. -/
theorem rname_long (w : World) (t : List UInt8) (h : 12 < t.length) : Calls Try.prog 55 #[.string (strOf t)] w fun e w' => e = .returned (.bool (nameB t)) ∧ Below w.heap.size w w' := by
  have HF : Hid (nameB t = false) := Lib.hid (by unfold nameB; rw [decide_eq_false (show ¬ t.length ≤ 12 by omega)]; simp)
  obtain ⟨n, hn⟩ : ∃ n, n = t.length := ⟨_, rfl⟩
  obtain ⟨str, hstr⟩ : ∃ str, str = strOf t := ⟨_, rfl⟩
  have hsz : str.size = n := by rw [hstr, str_size, hn]
  rw [← hstr]
  have g1 : decide ((n : Int) < 1) = false := decide_eq_false (by omega)
  have g2 : decide ((n : Int) > 12) = true := decide_eq_true (by omega)
  clear hstr hn h
  go_enter Try.func55, Try.ntmps55
  go_wp2
  go_ret
  exact ⟨ret_bool' HF.out.symm, Below.refl _ _⟩
/-- No name: its first is no letter. -/
theorem rname_first (w : World) (c : UInt8) (r : List UInt8) (h12 : (c :: r).length ≤ 12) (hl : letterB c = false) : Calls Try.prog 55 #[.string (strOf (c :: r))] w fun e w' => e = .returned (.bool (nameB (c :: r))) ∧ Below w.heap.size w w' := by
  have HF : Hid (nameB (c :: r) = false) := Lib.hid (by unfold nameB; simp only [hl, Bool.and_false, Bool.false_and])
  have h1 : 1 ≤ (c :: r).length := by simp
  obtain ⟨n, hn⟩ : ∃ n, n = (c :: r).length := ⟨_, rfl⟩
  obtain ⟨str, hstr⟩ : ∃ str, str = strOf (c :: r) := ⟨_, rfl⟩
  have hsz : str.size = n := by rw [hstr, str_size, hn]
  rw [← hn] at h1 h12
  have hs0 : 0 < str.size := by omega
  have EA : Hid (str[0]'hs0 = c) := by
    show _ = _
    have := hstr
    subst this
    rfl
  rw [← hstr]
  have g1 : decide ((n : Int) < 1) = false := decide_eq_false (by omega)
  have g2 : decide ((n : Int) > 12) = false := decide_eq_false (by omega)
  have hp0 : (0 : Int) < (n : Int) := by omega
  have HL := Lib.hid (fun w => rletter_any c w)
  rw [hl] at HL
  clear hl hn hstr
  go_enter Try.func55, Try.ntmps55
  go_wp2_with (go_at_call 65; rw [EA.out]; refine (HL.out _).mono ?_; rintro e w2 ⟨rfl, rfl⟩)
  go_ret
  exact ⟨ret_bool' HF.out.symm, Below.refl _ _⟩
end Go.Proofs.Ytmajhjkibmbikaa

/- The document's Right of names: the walk through the letters and the words. Conditions: those that each theorem names. -/
namespace Go.Proofs.Ytmajhjkibmbikaa
open Go.RowKit
set_option linter.unusedVariables false
set_option maxRecDepth 100000

theorem words_sl (w : World) : Sl (w.alloc (.cells (txts wordsL).toArray 9)) (some ⟨w.heap.size, 0, none⟩) 35 (txts wordsL) :=
  ⟨by rw [txts_length, words_length]; exact Nat.le_refl _, by decide, (fun h => by cases h), fun j u hj => ⟨w.heap.size, 0, rfl, by
    rw [World.cell?_alloc_at _ _ _ _ rfl, Nat.zero_add, List.getElem?_toArray]; exact hj⟩⟩
set_option maxHeartbeats 2000000 in
theorem rname_loops (w : World) (c : UInt8) (r t : List UInt8) (ht : t = c :: r) (h12 : t.length ≤ 12) (hl : letterB c = true) : Calls Try.prog 55 #[.string (strOf t)] w fun e w' => e = .returned (.bool (nameB t)) ∧ Below w.heap.size w w' := by
  have HT : Hid (nameB t = (t.all charB && !(wordsL.contains t))) := Lib.hid (by unfold nameB; rw [decide_eq_true h12, ht]; simp [hl])
  have h1 : 1 ≤ t.length := by rw [ht]; simp
  obtain ⟨n, hn⟩ : ∃ n, n = t.length := ⟨_, rfl⟩
  obtain ⟨str, hstr⟩ : ∃ str, str = strOf t := ⟨_, rfl⟩
  have hsz : str.size = n := by rw [hstr, str_size, hn]
  rw [← hn] at h1 h12
  have hs0 : 0 < str.size := by omega
  have EA : Hid (str[0]'hs0 = c) := by
    show _ = _
    have := hstr
    subst this
    subst ht
    rfl
  rw [← hstr]
  have HN := Lib.hid hn
  have HST := Lib.hid hstr
  have g1 : decide ((n : Int) < 1) = false := decide_eq_false (by omega)
  have g2 : decide ((n : Int) > 12) = false := decide_eq_false (by omega)
  have hp0 : (0 : Int) < (n : Int) := by omega
  have HL := Lib.hid (fun w => rletter_any c w)
  rw [hl] at HL
  clear hl hn hstr ht
  go_enter Try.func55, Try.ntmps55
  go_wp2_with (go_at_call 65; rw [EA.out]; refine (HL.out _).mono ?_; rintro e w2 ⟨rfl, rfl⟩)
  clear EA HL
  go_loop [3] (fun x => ∃ k : Nat, k ≤ n ∧ x = .int .i64 (k : Int) ∧ ∀ (j : Nat) a, j < k → t[j]? = some a → charB a = true) (fun x => n - (intOf x).toNat)
  case atStart => exact ⟨0, Nat.zero_le _, rfl, fun j a hj => absurd hj (Nat.not_lt_zero _)⟩
  case round =>
    obtain ⟨k, hk, rfl, hall⟩ := hrel
    have HALL := Lib.hid hall
    clear hall
    by_cases hlt : k < n
    · have g3 : decide ((k : Int) < (n : Int)) = true := decide_eq_true (by omega)
      obtain ⟨a, ha⟩ : ∃ a, t[k]? = some a := ⟨_, List.getElem?_eq_getElem (by have := HN.out; omega)⟩
      have hsk : k < str.size := by omega
      have EK : str[k]'hsk = a := by
        obtain ⟨q1, q2⟩ := List.getElem?_eq_some_iff.mp ha
        have := HST.out
        subst this
        exact q2
      have hk0 : 0 ≤ (k : Int) := by omega
      have hk1 : (k : Int) < (n : Int) := by omega
      have HLA := Lib.hid (fun w => rletter_any a w)
      have HA := Lib.hid ha
      have HCH : Hid (charB a = (letterB a || (decide (48 ≤ a.toNat) && decide (a.toNat ≤ 57)) || decide (a.toNat = 95))) := Lib.hid rfl
      clear ha
      cases hla : letterB a with
      | true =>
        rw [hla] at HCH HLA
        have HC : Hid (charB a = true) := Lib.hid (by rw [HCH.out]; rfl)
        clear hla
        go_wp2_with (go_at_call 65; (try rw [EK]); refine (HLA.out _).mono ?_; rintro e w2 ⟨rfl, rfl⟩)
        go_round
        case rel =>
          refine ⟨k + 1, by omega, by go_num, fun j b hj hb => ?_⟩
          by_cases hjk : j < k
          · exact HALL.out j b hjk hb
          · have : j = k := by omega
            subst this
            have e1 := HA.out.symm.trans hb
            injection e1 with e1
            subst e1
            exact HC.out
        case measure => simp [intOf]; omega
      | false =>
        rw [hla] at HCH HLA
        clear hla
        by_cases h48 : a.toNat < 48
        · have g4 : decide ((a.toNat : Int) < 48) = true := decide_eq_true (by omega)
          have hne : ¬ ((a.toNat : Int) = 95) := by omega
          have hne2 : ((a.toNat : Int) == 95) = false := beq_false_of_ne hne
          have HC : Hid (charB a = false) := Lib.hid (by rw [HCH.out, decide_eq_false (show ¬ 48 ≤ a.toNat by omega), decide_eq_false (show ¬ a.toNat = 95 by omega)]; rfl)
          have HF : Hid (nameB t = false) := Lib.hid (by rw [HT.out, show t.all charB = false from by rw [List.all_eq_false]; exact ⟨a, List.mem_of_getElem? HA.out, by rw [HC.out]; simp⟩]; rfl)
          go_wp2_with (go_at_call 65; (try rw [EK]); refine (HLA.out _).mono ?_; rintro e w2 ⟨rfl, rfl⟩)
          go_ret
          exact ⟨ret_bool' HF.out.symm, Below.refl _ _⟩
        · have g4 : decide ((a.toNat : Int) < 48) = false := decide_eq_false (by omega)
          by_cases h57 : a.toNat ≤ 57
          · have g5 : decide ((a.toNat : Int) > 57) = false := decide_eq_false (by omega)
            have HC : Hid (charB a = true) := Lib.hid (by rw [HCH.out, decide_eq_true (show 48 ≤ a.toNat by omega), decide_eq_true h57]; rfl)
            go_wp2_with (go_at_call 65; (try rw [EK]); refine (HLA.out _).mono ?_; rintro e w2 ⟨rfl, rfl⟩)
            go_round
            case rel =>
              refine ⟨k + 1, by omega, by go_num, fun j b hj hb => ?_⟩
              by_cases hjk : j < k
              · exact HALL.out j b hjk hb
              · have : j = k := by omega
                subst this
                have e1 := HA.out.symm.trans hb
                injection e1 with e1
                subst e1
                exact HC.out
            case measure => simp [intOf]; omega
          · have g5 : decide ((a.toNat : Int) > 57) = true := decide_eq_true (by omega)
            by_cases h95 : a.toNat = 95
            · have hne : ((a.toNat : Int) = 95) := by omega
              have HC : Hid (charB a = true) := Lib.hid (by rw [HCH.out, decide_eq_true h95]; simp)
              have HLB : Hid (∀ w, Calls Try.prog 65 #[.int .u8 (95 : Int)] w fun e w' => e = .returned (.bool false) ∧ w = w') := Lib.hid (fun w => by have := HLA.out w; rw [hne] at this; exact this)
              go_wp2_with (go_at_call 65; (try rw [EK]); (try rw [hne]); with_reducible refine (HLB.out _).mono ?_; rintro e w2 ⟨rfl, rfl⟩)
              go_round
              case rel =>
                refine ⟨k + 1, by omega, by go_num, fun j b hj hb => ?_⟩
                by_cases hjk : j < k
                · exact HALL.out j b hjk hb
                · have : j = k := by omega
                  subst this
                  have e1 := HA.out.symm.trans hb
                  injection e1 with e1
                  subst e1
                  exact HC.out
              case measure => simp [intOf]; omega
            · have hne : ¬ ((a.toNat : Int) = 95) := by omega
              have hne2 : ((a.toNat : Int) == 95) = false := beq_false_of_ne hne
              have HC : Hid (charB a = false) := Lib.hid (by rw [HCH.out, decide_eq_false h57, decide_eq_false h95]; simp)
              have HF : Hid (nameB t = false) := Lib.hid (by rw [HT.out, show t.all charB = false from by rw [List.all_eq_false]; exact ⟨a, List.mem_of_getElem? HA.out, by rw [HC.out]; simp⟩]; rfl)
              go_wp2_with (go_at_call 65; (try rw [EK]); refine (HLA.out _).mono ?_; rintro e w2 ⟨rfl, rfl⟩)
              go_ret
              exact ⟨ret_bool' HF.out.symm, Below.refl _ _⟩
    · have g3 : decide ((k : Int) < (n : Int)) = false := decide_eq_false (by omega)
      have hal : t.all charB = true := by
        rw [List.all_eq_true]
        intro x hx
        obtain ⟨j, hj⟩ := List.getElem?_of_mem hx
        exact HALL.out j x (by have := (List.getElem?_eq_some_iff.mp hj).1; have := HN.out; omega) hj
      have HA2 : Hid (nameB t = !(wordsL.contains t)) := Lib.hid (by rw [HT.out, hal]; rfl)
      have HW := Lib.hid (words_sl w)
      clear hal
      go_wp2_with (go_at_call 66; refine (rwords_any _).mono ?_; rintro e w2 ⟨rfl, rfl⟩)
      obtain ⟨w1, hw1⟩ : ∃ w1, w1 = w.alloc (.cells (txts wordsL).toArray 9) := ⟨_, rfl⟩
      rw [← hw1] at HW ⊢
      have HB1 : Hid (Below w.heap.size w w1) := Lib.hid (hw1 ▸ (Below.refl _ _).alloc (Nat.le_refl _) _)
      clear hw1
      go_loopg [5] 35 (fun h y wr => ∃ i : Nat, y = .int .i64 (i : Int) ∧ i + h = 35 ∧ wr = w1 ∧ ∀ (q : Nat) b, q < i → wordsL[q]? = some b → b ≠ t)
      case atStart => exact ⟨0, rfl, by omega, rfl, fun q b hq => absurd hq (Nat.not_lt_zero _)⟩
      case round =>
        obtain ⟨i, rfl, hi, rfl, hin⟩ := hrel
        obtain ⟨h0, hh0⟩ : ∃ h0, h0 = gk := ⟨_, rfl⟩
        subst hh0
        have HIN := Lib.hid hin
        clear hin
        by_cases hli : i < 35
        · have g4 : decide ((i : Int) < 35) = true := decide_eq_true (by omega)
          obtain ⟨b, hb⟩ : ∃ b, wordsL[i]? = some b := ⟨_, List.getElem?_eq_getElem (by rw [words_length]; exact hli)⟩
          obtain ⟨g', off', e', c1⟩ := HW.out.at_ i (.string (strOf b)) (by rw [txts, List.getElem?_map, hb]; rfl)
          cases e'
          rw [Nat.zero_add] at c1
          have HB := Lib.hid hb
          by_cases hab : b = t
          · subst hab
            rw [← HST.out] at c1
            have HF : Hid (nameB b = false) := Lib.hid (by rw [HA2.out, List.contains_iff_mem.mpr (List.mem_of_getElem? HB.out)]; rfl)
            clear hb
            go_wp2
            go_ret
            exact ⟨ret_bool' HF.out.symm, HB1.out⟩
          · obtain ⟨sb, hsb⟩ : ∃ sb, sb = strOf b := ⟨_, rfl⟩
            have hne : ¬ sb.toList = str.toList := by rw [HST.out, hsb, str_list, str_list]; exact hab
            have hne2 : (sb.toList == str.toList) = false := by rw [HST.out, hsb, strOf_beq]; exact decide_eq_false hab
            rw [← hsb] at c1
            have HAB := Lib.hid hab
            clear hb hsb hab
            go_wp2
            go_roundg (h0 - 1)
            case measure => omega
            case rel =>
              refine ⟨i + 1, by go_num, by omega, rfl, fun q c hq hc => ?_⟩
              by_cases hqk : q < i
              · exact HIN.out q c hqk hc
              · have : q = i := by omega
                subst this
                have e1 := HB.out.symm.trans hc
                injection e1 with e1
                subst e1
                exact HAB.out
        · have g4 : decide ((i : Int) < 35) = false := decide_eq_false (by omega)
          have HF : Hid (nameB t = true) := Lib.hid (by
            rw [HA2.out, Bool.not_eq_true']
            cases hc : wordsL.contains t with
            | false => rfl
            | true =>
              obtain ⟨j, hj⟩ := List.getElem?_of_mem (List.contains_iff_mem.mp hc)
              exact absurd rfl (HIN.out j t (by have := (List.getElem?_eq_some_iff.mp hj).1; rw [words_length] at this; omega) hj))
          go_wp2
          go_ret
          exact ⟨ret_bool' HF.out.symm, HB1.out⟩
theorem rname_any (w : World) (t : List UInt8) : Calls Try.prog 55 #[.string (strOf t)] w fun e w' => e = .returned (.bool (nameB t)) ∧ Below w.heap.size w w' := by
  by_cases h1 : t.length < 1
  · exact rname_short w t h1
  · by_cases h12 : 12 < t.length
    · exact rname_long w t h12
    · cases t with
      | nil => simp at h1
      | cons c r =>
        cases hl : letterB c with
        | false => exact rname_first w c r (by omega) hl
        | true => exact rname_loops w c r _ rfl (by omega) hl
end Go.Proofs.Ytmajhjkibmbikaa
