/- Several texts in one: RiC, LexMath, LexNum, RiD, RiE, RlF, FlMath, SchMath, LessMath, SchSmall, FdMath. What each proves, and its conditions, stands at its own head. -/
import Derived.Test.YtloheacncefkgaaGreatDoorPkET3
import Derived.Test.YtloheacncefkgaaGreatDoorPkET18
import Derived.Test.YtloheacncefkgaaGreatDoorPkET2
import Derived.Test.YtloheacncefkgaaGreatDoorPkET0
import Derived.IntWalk
import Derived.Deep.LoopGhost
import Derived.Test.YtloheacncefkgaaGreatDoorPkET4
/- The document's names: Letter, words, Right. Conditions: those that each theorem names. -/
namespace Go.Proofs.YtloheacncefkgaaGreatDoor
open Go.RowKit
set_option linter.unusedVariables false
set_option maxRecDepth 100000

def letterB (c : UInt8) : Bool := (decide (97 ≤ c.toNat) && decide (c.toNat ≤ 122)) || (decide (65 ≤ c.toNat) && decide (c.toNat ≤ 90))
def charB (c : UInt8) : Bool := letterB c || (decide (48 ≤ c.toNat) && decide (c.toNat ≤ 57)) || decide (c.toNat = 95)
/-- The words that are no names. -/
def wordsL : List (List UInt8) := [[101, 110, 117, 109], [109, 101, 115, 115, 97, 103, 101], [111, 110, 101, 111, 102], [114, 101, 112, 101, 97, 116, 101, 100], [114, 101, 115, 101, 114, 118, 101, 100], [108, 111, 111, 115, 101], [105, 110, 116, 51, 50], [105, 110, 116, 54, 52], [117, 105, 110, 116, 51, 50], [117, 105, 110, 116, 54, 52], [115, 105, 110, 116, 51, 50], [115, 105, 110, 116, 54, 52], [98, 111, 111, 108], [102, 105, 120, 101, 100, 51, 50], [102, 105, 120, 101, 100, 54, 52], [115, 102, 105, 120, 101, 100, 51, 50], [115, 102, 105, 120, 101, 100, 54, 52], [115, 116, 114, 105, 110, 103], [98, 121, 116, 101, 115], [114, 101, 110, 97, 109, 101], [114, 101, 110, 117, 109, 98, 101, 114], [114, 101, 116, 121, 112, 101], [115, 112, 108, 105, 116], [106, 111, 105, 110], [119, 114, 97, 112], [117, 110, 119, 114, 97, 112], [97, 100, 100], [100, 114, 111, 112], [116, 111], [105, 110, 116, 111], [97, 115], [111, 102], [100, 101, 102, 97, 117, 108, 116], [116, 114, 117, 101], [102, 97, 108, 115, 101]]
theorem words_length : wordsL.length = 35 := by decide
def nameB (t : List UInt8) : Bool := decide (1 ≤ t.length) && decide (t.length ≤ 12) && (match t with | [] => false | c :: _ => letterB c) && t.all charB && !(wordsL.contains t)

theorem rletter_any (c : UInt8) (w : World) : Calls Tryz.prog 97 #[.int .u8 (c.toNat : Int)] w fun e w' => e = .returned (.bool (letterB c)) ∧ w = w' := by
  have HL : Hid (letterB c = ((decide (97 ≤ c.toNat) && decide (c.toNat ≤ 122)) || (decide (65 ≤ c.toNat) && decide (c.toNat ≤ 90)))) := Lib.hid rfl
  obtain ⟨n, hn⟩ : ∃ n, n = c.toNat := ⟨_, rfl⟩
  rw [← hn] at HL ⊢
  clear hn
  by_cases h1 : 97 ≤ n <;> by_cases h2 : n ≤ 122 <;> by_cases h3 : 65 ≤ n <;> by_cases h4 : n ≤ 90
  all_goals first
    | omega
    | (have g1 : decide ((97 : Int) ≤ (n : Int)) = decide (97 ≤ n) := decide_eq_decide.mpr (by omega)
       have g2 : decide ((n : Int) ≤ 122) = decide (n ≤ 122) := decide_eq_decide.mpr (by omega)
       have g3 : decide ((65 : Int) ≤ (n : Int)) = decide (65 ≤ n) := decide_eq_decide.mpr (by omega)
       have g4 : decide ((n : Int) ≤ 90) = decide (n ≤ 90) := decide_eq_decide.mpr (by omega)
       simp only [h1, h2, h3, h4, decide_true, decide_false] at g1 g2 g3 g4 HL
       go_enter Tryz.func97, Tryz.ntmps97
       go_wp2
       go_ret
       exact ⟨ret_bool' HL.out.symm, rfl⟩)
theorem rwords_any (w : World) : Calls Tryz.prog 98 #[] w fun e w' => e = .returned (.slice (some ⟨w.heap.size, 0, none⟩) 35 35) ∧ w' = w.alloc (.cells (txts wordsL).toArray 9) := by
  go_enter Tryz.func98, Tryz.ntmps98
  go_wp2
  go_ret
  exact ⟨rfl, rfl⟩
end Go.Proofs.YtloheacncefkgaaGreatDoor

/- Layer 10 in plain words (no program here): what is passed over, how long a name is, digits, quotes, numbers, texts, tokens. -/
namespace Go.Proofs.YtloheacncefkgaaGreatDoor
set_option linter.unusedVariables false

def digitB (c : UInt8) : Bool := decide (48 ≤ c.toNat) && decide (c.toNat ≤ 57)
/-- A number's digits. -/
def decOf (n : Nat) : List UInt8 := if h : n = 0 then [] else decOf (n / 10) ++ [(48 + n % 10).toUInt8]
termination_by n
decreasing_by omega
def digitsT (n : Nat) (neg : Bool) : List UInt8 := if n = 0 then [48] else if neg = true then 45 :: decOf n else decOf n
theorem drop_get {t : List UInt8} {n : Nat} {c : UInt8} (h : t[n]? = some c) : t.drop n = c :: t.drop (n + 1) := by
  obtain ⟨h1, rfl⟩ := List.getElem?_eq_some_iff.mp h
  exact List.drop_eq_getElem_cons h1
end Go.Proofs.YtloheacncefkgaaGreatDoor

/- Layer 10 in plain words (no program here): the number that a text begins with. -/
namespace Go.Proofs.YtloheacncefkgaaGreatDoor
set_option linter.unusedVariables false

def digs (t : List UInt8) : List UInt8 := t.takeWhile digitB
def valOf (acc : Nat) (l : List UInt8) : Nat := l.foldl (fun a c => 10 * a + (c.toNat - 48)) acc
theorem valOf_append (a b : List UInt8) (acc : Nat) : valOf acc (a ++ b) = valOf (valOf acc a) b := List.foldl_append ..
theorem valOf_cons (acc : Nat) (c : UInt8) (r : List UInt8) : valOf acc (c :: r) = valOf (10 * acc + (c.toNat - 48)) r := by unfold valOf; rw [List.foldl_cons]
theorem valOf_ge : ∀ (a : List UInt8) (acc : Nat), acc ≤ valOf acc a
  | [], acc => Nat.le_refl _
  | c :: a, acc => by have := valOf_ge a (10 * acc + (c.toNat - 48)); rw [valOf_cons]; omega
def numNeg (t : List UInt8) : Bool := match t with
  | [] => false
  | c :: _ => decide (c.toNat = 45)
def numFrom (t : List UInt8) : Nat := if numNeg t = true then 1 else 0
def numDs (t : List UInt8) : List UInt8 := digs (t.drop (numFrom t))
def numV (t : List UInt8) : Nat := valOf 0 (numDs t)
def numI (t : List UInt8) : Nat := numFrom t + (numDs t).length
/-- Is none there? -/
def numBad (t : List UInt8) : Bool := decide (numDs t = []) || (decide (18446744073709551616 ≤ numV t) || (decide (digitsT (numV t) (numNeg t) ≠ t.take (numI t)) || (numNeg t && decide (9223372036854775808 < numV t))))
def numT (t : List UInt8) : Nat × Bool × Nat := if numBad t = true then (0, false, 0) else (numV t, numNeg t, numI t)
theorem digs_cons_yes {c : UInt8} {r : List UInt8} (h : digitB c = true) : digs (c :: r) = c :: digs r := by unfold digs; rw [List.takeWhile_cons_of_pos h]
/-- So many digits were read. -/
structure NumAt (t pre : List UInt8) (i n : Nat) : Prop where
  ds : numDs t = pre ++ digs (t.drop i)
  i_ : i = numFrom t + pre.length
  n_ : n = valOf 0 pre
  lt : n < 18446744073709551616
  le : i ≤ t.length
section
variable {t pre : List UInt8} {i n : Nat} {c : UInt8}
theorem NumAt.step (h : NumAt t pre i n) (hc : t[i]? = some c) (hd : digitB c = true) (hn : 10 * n + (c.toNat - 48) < 18446744073709551616) : NumAt t (pre ++ [c]) (i + 1) (10 * n + (c.toNat - 48)) := by
  refine ⟨?_, by rw [h.i_, List.length_append]; rfl, by rw [valOf_append, ← h.n_, valOf_cons]; unfold valOf; rw [List.foldl_nil], hn, (List.getElem?_eq_some_iff.mp hc).1⟩
  rw [h.ds, drop_get hc, digs_cons_yes hd, List.append_assoc]
  rfl
theorem NumAt.over (h : NumAt t pre i n) (hc : t[i]? = some c) (hd : digitB c = true) (hn : 18446744073709551616 ≤ 10 * n + (c.toNat - 48)) : numT t = (0, false, 0) := by
  unfold numT
  rw [if_pos]
  have h1 : 18446744073709551616 ≤ numV t := by
    unfold numV
    rw [h.ds, drop_get hc, digs_cons_yes hd, valOf_append, valOf_cons, ← h.n_]
    exact Nat.le_trans hn (valOf_ge _ _)
  unfold numBad
  rw [decide_eq_true h1]
  simp
theorem NumAt.stop (h : NumAt t pre i n) (hs : digs (t.drop i) = []) : numDs t = pre ∧ numV t = n ∧ numI t = i := by
  have e : numDs t = pre := by rw [h.ds, hs, List.append_nil]
  exact ⟨e, by unfold numV; rw [e, h.n_], by unfold numI; rw [e, h.i_]⟩
theorem NumAt.first (h : NumAt t pre i n) (hs : digs (t.drop i) = []) (he : i = numFrom t) : numT t = (0, false, 0) := by
  have e := (h.stop hs).1
  have : pre = [] := List.eq_nil_of_length_eq_zero (by have := h.i_; omega)
  unfold numT
  rw [if_pos]
  unfold numBad
  rw [e, this]
  simp
end
end Go.Proofs.YtloheacncefkgaaGreatDoor

/- The document's Right of names: what is none at once. Conditions: those that each theorem names. -/
namespace Go.Proofs.YtloheacncefkgaaGreatDoor
open Go.RowKit
set_option linter.unusedVariables false
set_option maxRecDepth 100000

/-- No name: too short. -/
theorem rname_short (w : World) (t : List UInt8) (h : t.length < 1) : Calls Tryz.prog 47 #[.string (strOf t)] w fun e w' => e = .returned (.bool (nameB t)) ∧ Below w.heap.size w w' := by
  have HF : Hid (nameB t = false) := Lib.hid (by unfold nameB; rw [decide_eq_false (by omega)]; rfl)
  obtain ⟨n, hn⟩ : ∃ n, n = t.length := ⟨_, rfl⟩
  obtain ⟨str, hstr⟩ : ∃ str, str = strOf t := ⟨_, rfl⟩
  have hsz : str.size = n := by rw [hstr, str_size, hn]
  rw [← hstr]
  have g1 : decide ((n : Int) < 1) = true := decide_eq_true (by omega)
  clear hstr hn h
  go_enter Tryz.func47, Tryz.ntmps47
  go_wp2
  go_ret
  exact ⟨ret_bool' HF.out.symm, Below.refl _ _⟩
/-- No name: too long. -/
theorem rname_long (w : World) (t : List UInt8) (h : 12 < t.length) : Calls Tryz.prog 47 #[.string (strOf t)] w fun e w' => e = .returned (.bool (nameB t)) ∧ Below w.heap.size w w' := by
  have HF : Hid (nameB t = false) := Lib.hid (by unfold nameB; rw [decide_eq_false (show ¬ t.length ≤ 12 by omega)]; simp)
  obtain ⟨n, hn⟩ : ∃ n, n = t.length := ⟨_, rfl⟩
  obtain ⟨str, hstr⟩ : ∃ str, str = strOf t := ⟨_, rfl⟩
  have hsz : str.size = n := by rw [hstr, str_size, hn]
  rw [← hstr]
  have g1 : decide ((n : Int) < 1) = false := decide_eq_false (by omega)
  have g2 : decide ((n : Int) > 12) = true := decide_eq_true (by omega)
  clear hstr hn h
  go_enter Tryz.func47, Tryz.ntmps47
  go_wp2
  go_ret
  exact ⟨ret_bool' HF.out.symm, Below.refl _ _⟩
/-- No name: its first is no letter. -/
theorem rname_first (w : World) (c : UInt8) (r : List UInt8) (h12 : (c :: r).length ≤ 12) (hl : letterB c = false) : Calls Tryz.prog 47 #[.string (strOf (c :: r))] w fun e w' => e = .returned (.bool (nameB (c :: r))) ∧ Below w.heap.size w w' := by
  have HF : Hid (nameB (c :: r) = false) := Lib.hid (by unfold nameB; simp only [hl, Bool.and_false, Bool.false_and])
  have h1 : 1 ≤ (c :: r).length := by simp
  obtain ⟨n, hn⟩ : ∃ n, n = (c :: r).length := ⟨_, rfl⟩
  obtain ⟨str, hstr⟩ : ∃ str, str = strOf (c :: r) := ⟨_, rfl⟩
  have hsz : str.size = n := by rw [hstr, str_size, hn]
  rw [← hn] at h1 h12
  have hs0 : 0 < str.size := by omega
  have EA : Hid (str[0]'hs0 = c) := by
    show _ = _
    have := hstr
    subst this
    rfl
  rw [← hstr]
  have g1 : decide ((n : Int) < 1) = false := decide_eq_false (by omega)
  have g2 : decide ((n : Int) > 12) = false := decide_eq_false (by omega)
  have hp0 : (0 : Int) < (n : Int) := by omega
  have HL := Lib.hid (fun w => rletter_any c w)
  rw [hl] at HL
  clear hl hn hstr
  go_enter Tryz.func47, Tryz.ntmps47
  go_wp2_with (go_at_call 97; rw [EA.out]; refine (HL.out _).mono ?_; rintro e w2 ⟨rfl, rfl⟩)
  go_ret
  exact ⟨ret_bool' HF.out.symm, Below.refl _ _⟩
end Go.Proofs.YtloheacncefkgaaGreatDoor

/- The document's Right of names: the walk through the letters and the words. Conditions: those that each theorem names. -/
namespace Go.Proofs.YtloheacncefkgaaGreatDoor
open Go.RowKit
set_option linter.unusedVariables false
set_option maxRecDepth 100000

theorem words_sl (w : World) : Sl (w.alloc (.cells (txts wordsL).toArray 9)) (some ⟨w.heap.size, 0, none⟩) 35 (txts wordsL) :=
  ⟨by rw [txts_length, words_length]; exact Nat.le_refl _, by decide, (fun h => by cases h), fun j u hj => ⟨w.heap.size, 0, rfl, by
    rw [World.cell?_alloc_at _ _ _ _ rfl, Nat.zero_add, List.getElem?_toArray]; exact hj⟩⟩
set_option maxHeartbeats 2000000 in
theorem rname_loops (w : World) (c : UInt8) (r t : List UInt8) (ht : t = c :: r) (h12 : t.length ≤ 12) (hl : letterB c = true) : Calls Tryz.prog 47 #[.string (strOf t)] w fun e w' => e = .returned (.bool (nameB t)) ∧ Below w.heap.size w w' := by
  have HT : Hid (nameB t = (t.all charB && !(wordsL.contains t))) := Lib.hid (by unfold nameB; rw [decide_eq_true h12, ht]; simp [hl])
  have h1 : 1 ≤ t.length := by rw [ht]; simp
  obtain ⟨n, hn⟩ : ∃ n, n = t.length := ⟨_, rfl⟩
  obtain ⟨str, hstr⟩ : ∃ str, str = strOf t := ⟨_, rfl⟩
  have hsz : str.size = n := by rw [hstr, str_size, hn]
  rw [← hn] at h1 h12
  have hs0 : 0 < str.size := by omega
  have EA : Hid (str[0]'hs0 = c) := by
    show _ = _
    have := hstr
    subst this
    subst ht
    rfl
  rw [← hstr]
  have HN := Lib.hid hn
  have HST := Lib.hid hstr
  have g1 : decide ((n : Int) < 1) = false := decide_eq_false (by omega)
  have g2 : decide ((n : Int) > 12) = false := decide_eq_false (by omega)
  have hp0 : (0 : Int) < (n : Int) := by omega
  have HL := Lib.hid (fun w => rletter_any c w)
  rw [hl] at HL
  clear hl hn hstr ht
  go_enter Tryz.func47, Tryz.ntmps47
  go_wp2_with (go_at_call 97; rw [EA.out]; refine (HL.out _).mono ?_; rintro e w2 ⟨rfl, rfl⟩)
  clear EA HL
  go_loop [3] (fun x => ∃ k : Nat, k ≤ n ∧ x = .int .i64 (k : Int) ∧ ∀ (j : Nat) a, j < k → t[j]? = some a → charB a = true) (fun x => n - (intOf x).toNat)
  case atStart => exact ⟨0, Nat.zero_le _, rfl, fun j a hj => absurd hj (Nat.not_lt_zero _)⟩
  case round =>
    obtain ⟨k, hk, rfl, hall⟩ := hrel
    have HALL := Lib.hid hall
    clear hall
    by_cases hlt : k < n
    · have g3 : decide ((k : Int) < (n : Int)) = true := decide_eq_true (by omega)
      obtain ⟨a, ha⟩ : ∃ a, t[k]? = some a := ⟨_, List.getElem?_eq_getElem (by have := HN.out; omega)⟩
      have hsk : k < str.size := by omega
      have EK : str[k]'hsk = a := by
        obtain ⟨q1, q2⟩ := List.getElem?_eq_some_iff.mp ha
        have := HST.out
        subst this
        exact q2
      have hk0 : 0 ≤ (k : Int) := by omega
      have hk1 : (k : Int) < (n : Int) := by omega
      have HLA := Lib.hid (fun w => rletter_any a w)
      have HA := Lib.hid ha
      have HCH : Hid (charB a = (letterB a || (decide (48 ≤ a.toNat) && decide (a.toNat ≤ 57)) || decide (a.toNat = 95))) := Lib.hid rfl
      clear ha
      cases hla : letterB a with
      | true =>
        rw [hla] at HCH HLA
        have HC : Hid (charB a = true) := Lib.hid (by rw [HCH.out]; rfl)
        clear hla
        go_wp2_with (go_at_call 97; (try rw [EK]); refine (HLA.out _).mono ?_; rintro e w2 ⟨rfl, rfl⟩)
        go_round
        case rel =>
          refine ⟨k + 1, by omega, by go_num, fun j b hj hb => ?_⟩
          by_cases hjk : j < k
          · exact HALL.out j b hjk hb
          · have : j = k := by omega
            subst this
            have e1 := HA.out.symm.trans hb
            injection e1 with e1
            subst e1
            exact HC.out
        case measure => simp [intOf]; omega
      | false =>
        rw [hla] at HCH HLA
        clear hla
        by_cases h48 : a.toNat < 48
        · have g4 : decide ((a.toNat : Int) < 48) = true := decide_eq_true (by omega)
          have hne : ¬ ((a.toNat : Int) = 95) := by omega
          have hne2 : ((a.toNat : Int) == 95) = false := beq_false_of_ne hne
          have HC : Hid (charB a = false) := Lib.hid (by rw [HCH.out, decide_eq_false (show ¬ 48 ≤ a.toNat by omega), decide_eq_false (show ¬ a.toNat = 95 by omega)]; rfl)
          have HF : Hid (nameB t = false) := Lib.hid (by rw [HT.out, show t.all charB = false from by rw [List.all_eq_false]; exact ⟨a, List.mem_of_getElem? HA.out, by rw [HC.out]; simp⟩]; rfl)
          go_wp2_with (go_at_call 97; (try rw [EK]); refine (HLA.out _).mono ?_; rintro e w2 ⟨rfl, rfl⟩)
          go_ret
          exact ⟨ret_bool' HF.out.symm, Below.refl _ _⟩
        · have g4 : decide ((a.toNat : Int) < 48) = false := decide_eq_false (by omega)
          by_cases h57 : a.toNat ≤ 57
          · have g5 : decide ((a.toNat : Int) > 57) = false := decide_eq_false (by omega)
            have HC : Hid (charB a = true) := Lib.hid (by rw [HCH.out, decide_eq_true (show 48 ≤ a.toNat by omega), decide_eq_true h57]; rfl)
            go_wp2_with (go_at_call 97; (try rw [EK]); refine (HLA.out _).mono ?_; rintro e w2 ⟨rfl, rfl⟩)
            go_round
            case rel =>
              refine ⟨k + 1, by omega, by go_num, fun j b hj hb => ?_⟩
              by_cases hjk : j < k
              · exact HALL.out j b hjk hb
              · have : j = k := by omega
                subst this
                have e1 := HA.out.symm.trans hb
                injection e1 with e1
                subst e1
                exact HC.out
            case measure => simp [intOf]; omega
          · have g5 : decide ((a.toNat : Int) > 57) = true := decide_eq_true (by omega)
            by_cases h95 : a.toNat = 95
            · have hne : ((a.toNat : Int) = 95) := by omega
              have HC : Hid (charB a = true) := Lib.hid (by rw [HCH.out, decide_eq_true h95]; simp)
              have HLB : Hid (∀ w, Calls Tryz.prog 97 #[.int .u8 (95 : Int)] w fun e w' => e = .returned (.bool false) ∧ w = w') := Lib.hid (fun w => by have := HLA.out w; rw [hne] at this; exact this)
              go_wp2_with (go_at_call 97; (try rw [EK]); (try rw [hne]); with_reducible refine (HLB.out _).mono ?_; rintro e w2 ⟨rfl, rfl⟩)
              go_round
              case rel =>
                refine ⟨k + 1, by omega, by go_num, fun j b hj hb => ?_⟩
                by_cases hjk : j < k
                · exact HALL.out j b hjk hb
                · have : j = k := by omega
                  subst this
                  have e1 := HA.out.symm.trans hb
                  injection e1 with e1
                  subst e1
                  exact HC.out
              case measure => simp [intOf]; omega
            · have hne : ¬ ((a.toNat : Int) = 95) := by omega
              have hne2 : ((a.toNat : Int) == 95) = false := beq_false_of_ne hne
              have HC : Hid (charB a = false) := Lib.hid (by rw [HCH.out, decide_eq_false h57, decide_eq_false h95]; simp)
              have HF : Hid (nameB t = false) := Lib.hid (by rw [HT.out, show t.all charB = false from by rw [List.all_eq_false]; exact ⟨a, List.mem_of_getElem? HA.out, by rw [HC.out]; simp⟩]; rfl)
              go_wp2_with (go_at_call 97; (try rw [EK]); refine (HLA.out _).mono ?_; rintro e w2 ⟨rfl, rfl⟩)
              go_ret
              exact ⟨ret_bool' HF.out.symm, Below.refl _ _⟩
    · have g3 : decide ((k : Int) < (n : Int)) = false := decide_eq_false (by omega)
      have hal : t.all charB = true := by
        rw [List.all_eq_true]
        intro x hx
        obtain ⟨j, hj⟩ := List.getElem?_of_mem hx
        exact HALL.out j x (by have := (List.getElem?_eq_some_iff.mp hj).1; have := HN.out; omega) hj
      have HA2 : Hid (nameB t = !(wordsL.contains t)) := Lib.hid (by rw [HT.out, hal]; rfl)
      have HW := Lib.hid (words_sl w)
      clear hal
      go_wp2_with (go_at_call 98; refine (rwords_any _).mono ?_; rintro e w2 ⟨rfl, rfl⟩)
      obtain ⟨w1, hw1⟩ : ∃ w1, w1 = w.alloc (.cells (txts wordsL).toArray 9) := ⟨_, rfl⟩
      rw [← hw1] at HW ⊢
      have HB1 : Hid (Below w.heap.size w w1) := Lib.hid (hw1 ▸ (Below.refl _ _).alloc (Nat.le_refl _) _)
      clear hw1
      go_loopg [5] 35 (fun h y wr => ∃ i : Nat, y = .int .i64 (i : Int) ∧ i + h = 35 ∧ wr = w1 ∧ ∀ (q : Nat) b, q < i → wordsL[q]? = some b → b ≠ t)
      case atStart => exact ⟨0, rfl, by omega, rfl, fun q b hq => absurd hq (Nat.not_lt_zero _)⟩
      case round =>
        obtain ⟨i, rfl, hi, rfl, hin⟩ := hrel
        obtain ⟨h0, hh0⟩ : ∃ h0, h0 = gk := ⟨_, rfl⟩
        subst hh0
        have HIN := Lib.hid hin
        clear hin
        by_cases hli : i < 35
        · have g4 : decide ((i : Int) < 35) = true := decide_eq_true (by omega)
          obtain ⟨b, hb⟩ : ∃ b, wordsL[i]? = some b := ⟨_, List.getElem?_eq_getElem (by rw [words_length]; exact hli)⟩
          obtain ⟨g', off', e', c1⟩ := HW.out.at_ i (.string (strOf b)) (by rw [txts, List.getElem?_map, hb]; rfl)
          cases e'
          rw [Nat.zero_add] at c1
          have HB := Lib.hid hb
          by_cases hab : b = t
          · subst hab
            rw [← HST.out] at c1
            have HF : Hid (nameB b = false) := Lib.hid (by rw [HA2.out, List.contains_iff_mem.mpr (List.mem_of_getElem? HB.out)]; rfl)
            clear hb
            go_wp2
            go_ret
            exact ⟨ret_bool' HF.out.symm, HB1.out⟩
          · obtain ⟨sb, hsb⟩ : ∃ sb, sb = strOf b := ⟨_, rfl⟩
            have hne : ¬ sb.toList = str.toList := by rw [HST.out, hsb, str_list, str_list]; exact hab
            have hne2 : (sb.toList == str.toList) = false := by rw [HST.out, hsb, strOf_beq]; exact decide_eq_false hab
            rw [← hsb] at c1
            have HAB := Lib.hid hab
            clear hb hsb hab
            go_wp2
            go_roundg (h0 - 1)
            case measure => omega
            case rel =>
              refine ⟨i + 1, by go_num, by omega, rfl, fun q c hq hc => ?_⟩
              by_cases hqk : q < i
              · exact HIN.out q c hqk hc
              · have : q = i := by omega
                subst this
                have e1 := HB.out.symm.trans hc
                injection e1 with e1
                subst e1
                exact HAB.out
        · have g4 : decide ((i : Int) < 35) = false := decide_eq_false (by omega)
          have HF : Hid (nameB t = true) := Lib.hid (by
            rw [HA2.out, Bool.not_eq_true']
            cases hc : wordsL.contains t with
            | false => rfl
            | true =>
              obtain ⟨j, hj⟩ := List.getElem?_of_mem (List.contains_iff_mem.mp hc)
              exact absurd rfl (HIN.out j t (by have := (List.getElem?_eq_some_iff.mp hj).1; rw [words_length] at this; omega) hj))
          go_wp2
          go_ret
          exact ⟨ret_bool' HF.out.symm, HB1.out⟩
theorem rname_any (w : World) (t : List UInt8) : Calls Tryz.prog 47 #[.string (strOf t)] w fun e w' => e = .returned (.bool (nameB t)) ∧ Below w.heap.size w w' := by
  by_cases h1 : t.length < 1
  · exact rname_short w t h1
  · by_cases h12 : 12 < t.length
    · exact rname_long w t h12
    · cases t with
      | nil => simp at h1
      | cons c r =>
        cases hl : letterB c with
        | false => exact rname_first w c r (by omega) hl
        | true => exact rname_loops w c r _ rfl (by omega) hl
end Go.Proofs.YtloheacncefkgaaGreatDoor

/- The document's token that a text begins with. Conditions: what number answers; those that each theorem names. -/
namespace Go.Proofs.YtloheacncefkgaaGreatDoor
open Go.RowKit
set_option linter.unusedVariables false
set_option maxRecDepth 100000

structure Tk where
  kind : Int
  s : List UInt8
  n : Nat
  neg : Bool
  pos : Nat
end Go.Proofs.YtloheacncefkgaaGreatDoor

/- Layer 14 in plain words (no program here): which fields may be, which are packed, which hidden, and their texts. -/
namespace Go.Proofs.YtloheacncefkgaaGreatDoor
open Go.RowKit
set_option linter.unusedVariables false

structure Fd where
  name : List UInt8
  num : Int
  ty : Int
  ref : List UInt8
  rep : Bool
  loose : Bool
  one : List UInt8
/-- As a value, and as a datum. -/
def fdV (f : Fd) : Value := .agg #[.string (strOf f.name), .int .i64 f.num, .int .i64 f.ty, .string (strOf f.ref), .bool f.rep, .bool f.loose, .string (strOf f.one)]
def fdD {H : Type} (f : Fd) : DataW H := .agg [.lit (.string f.name), .lit (.int .i64 f.num), .lit (.int .i64 f.ty), .lit (.string f.ref), .lit (.bool f.rep), .lit (.bool f.loose), .lit (.string f.one)]
def fc1 (f : Fd) : Bool := !nameB f.name || (decide (f.one ≠ []) && !nameB f.one)
def fc2 (f : Fd) : Bool := if f.ty = 14 ∨ f.ty = 15 then !nameB f.ref else decide (f.ref ≠ [])
def fc3 (f : Fd) : Bool := !fieldB f.num || (decide (f.ty < 1) || (decide (15 < f.ty) || (f.rep && decide (f.one ≠ []))))
def fc4 (f : Fd) : Bool := f.loose && (!f.rep || !numberT f.ty)
def fcheckT (f : Fd) : Int := if fc1 f = true then 2 else if fc2 f = true then 2 else if fc3 f = true then 1 else if fc4 f = true then 1 else 0
def packedT (f : Fd) : Bool := f.rep && (numberT f.ty && !f.loose)
def hiddenT (f : Fd) : Bool := !f.rep && (decide (f.one = []) && decide (f.ty ≠ 15))
/-- What may be. -/
theorem fcheck_ok {f : Fd} (h : fcheckT f = 0) : nameB f.name = true ∧ (f.one = [] ∨ nameB f.one = true) ∧ ((f.ty = 14 ∨ f.ty = 15) ∧ nameB f.ref = true ∨ ¬ (f.ty = 14 ∨ f.ty = 15) ∧ f.ref = []) ∧
    fieldB f.num = true ∧ 1 ≤ f.ty ∧ f.ty ≤ 15 ∧ (f.rep = false ∨ f.one = []) ∧ (f.loose = false ∨ (f.rep = true ∧ numberT f.ty = true)) := by
  unfold fcheckT at h
  by_cases h1 : fc1 f = true
  · rw [if_pos h1] at h; exact absurd h (by decide)
  rw [if_neg h1] at h
  by_cases h2 : fc2 f = true
  · rw [if_pos h2] at h; exact absurd h (by decide)
  rw [if_neg h2] at h
  by_cases h3 : fc3 f = true
  · rw [if_pos h3] at h; exact absurd h (by decide)
  rw [if_neg h3] at h
  by_cases h4 : fc4 f = true
  · rw [if_pos h4] at h; exact absurd h (by decide)
  unfold fc1 at h1
  unfold fc2 at h2
  unfold fc3 at h3
  unfold fc4 at h4
  simp at h1 h3 h4
  refine ⟨h1.1, ?_, ?_, h3.1, by omega, by omega, ?_, ?_⟩
  · by_cases e : f.one = []
    · exact .inl e
    · exact .inr (h1.2 e)
  · by_cases e : f.ty = 14 ∨ f.ty = 15
    · rw [if_pos e] at h2; exact .inl ⟨e, by simpa using h2⟩
    · rw [if_neg e] at h2; exact .inr ⟨e, by simpa using h2⟩
  · cases hr : f.rep
    · exact .inl rfl
    · exact .inr (h3.2.2.2 hr)
  · cases hl : f.loose
    · exact .inl rfl
    · exact .inr (h4 hl)
end Go.Proofs.YtloheacncefkgaaGreatDoor

/- Layer 15 in plain words (no program here): schemas, which may be, which are the same. -/
namespace Go.Proofs.YtloheacncefkgaaGreatDoor
open Go.RowKit
set_option linter.unusedVariables false

structure Vl where
  name : List UInt8
  num : Int
structure En where
  name : List UInt8
  values : List Vl
structure Ms where
  name : List UInt8
  fields : List Fd
  barred : List Int
structure Sc where
  enums : List En
  msgs : List Ms

def manyE (e : En) : Bool := decide (8 < e.values.length)
def manyM (m : Ms) : Bool := decide (10 < m.fields.length) || decide (8 < m.barred.length)
def manyT (s : Sc) : Bool := ((decide (3 < s.enums.length) || decide (6 < s.msgs.length)) || s.enums.any manyE) || s.msgs.any manyM
def noneE (e : En) : Bool := decide (e.values.length = 0)
def noneT (s : Sc) : Bool := decide (s.msgs.length = 0) || s.enums.any noneE
def badName (t : List UInt8) : Bool := !nameB t
def textV (v : Vl) : Bool := badName v.name
def textE (e : En) : Bool := badName e.name || e.values.any textV
def textM (m : Ms) : Bool := badName m.name
def scTextT (s : Sc) : Bool := s.enums.any textE || s.msgs.any textM
def firstBad : List Fd → Int
  | [] => 0
  | f :: r => if fcheckT f = 0 then firstBad r else fcheckT f
def fieldsOf (s : Sc) : List Fd := s.msgs.flatMap Ms.fields
def fieldsT (s : Sc) : Int := firstBad (fieldsOf s)
def vNames (e : En) : List (List UInt8) := e.values.map Vl.name
def fNames (m : Ms) : List (List UInt8) := m.fields.map Fd.name
def eNames (s : Sc) : List (List UInt8) := s.enums.map En.name
def mNames (s : Sc) : List (List UInt8) := s.msgs.map Ms.name
def twiceE (e : En) : Bool := !onceB (vNames e)
def twiceF (l : List (List UInt8)) (f : Fd) : Bool := !decide (f.one = []) && !onceB (l ++ [f.one])
def twiceM (m : Ms) : Bool := !onceB (fNames m) || m.fields.any (twiceF (fNames m))
def twiceT (s : Sc) : Bool := (s.enums.any twiceE || s.msgs.any twiceM) || !onceB (eNames s ++ mNames s)
def risesB : List Int → Bool
  | a :: b :: r => decide (a < b) && risesB (b :: r)
  | _ => true
def vNums (e : En) : List Int := e.values.map Vl.num
def fNums (m : Ms) : List Int := m.fields.map Fd.num
def lastD (l : List Int) : Int := l.getLastD 0
def orderE (e : En) : Bool := (!risesB (vNums e) || !decide ((vNums e).headD 0 = 0)) || decide (1048576 < lastD (vNums e))
def orderM (m : Ms) : Bool := (!risesB (fNums m) || !risesB m.barred) || (decide (0 < m.barred.length) && (decide (m.barred.headD 0 < 1) || decide (536870911 < lastD m.barred)))
def orderT (s : Sc) : Bool := ((s.enums.any orderE || !riseB (eNames s)) || s.msgs.any orderM) || !riseB ((mNames s).drop 1)
def isInB (l : List Int) (n : Int) : Bool := l.any (fun x => decide (x = n))
def barredM (m : Ms) : Bool := m.fields.any (fun f => isInB m.barred f.num)
def barredT (s : Sc) : Bool := s.msgs.any barredM
def placeT (l : List (List UInt8)) (name : List UInt8) : Int := if name ∈ l then (l.findIdx (fun x => decide (x = name)) : Int) else -1
def messageT (s : Sc) (name : List UInt8) : Int := placeT (mNames s) name
def enumT (s : Sc) (name : List UInt8) : Int := placeT (eNames s) name
def refF (s : Sc) (f : Fd) : Bool := (decide (f.ty = 14) && decide (enumT s f.ref < 0)) || (decide (f.ty = 15) && decide (messageT s f.ref < 0))
def refsM (s : Sc) (m : Ms) : Bool := m.fields.any (refF s)
def refsT (s : Sc) : Bool := s.msgs.any (refsM s)
def checkT (s : Sc) : Int :=
  if manyT s = true then 4 else if noneT s = true then 5 else if scTextT s = true then 2 else if fieldsT s ≠ 0 then fieldsT s else if twiceT s = true then 6 else if orderT s = true then 1 else if barredT s = true then 6 else if refsT s = true then 5 else 0

/-! ### One more -/
theorem any_snoc {α : Type} (l : List α) (p : α → Bool) (i : Nat) (x : α) (h : l[i]? = some x) : (l.take (i + 1)).any p = ((l.take i).any p || p x) := by
  rw [List.take_add_one, h]
  simp
theorem any_whole {α : Type} (l : List α) (p : α → Bool) (i : Nat) (h : l.length ≤ i) : (l.take i).any p = l.any p := by rw [List.take_of_length_le h]
theorem map_snoc {α β : Type} (l : List α) (f : α → β) (i : Nat) (x : α) (h : l[i]? = some x) : (l.take (i + 1)).map f = (l.take i).map f ++ [f x] := by
  rw [List.take_add_one, h]
  simp
theorem firstBad_append : ∀ (a b : List Fd), firstBad a = 0 → firstBad (a ++ b) = firstBad b
  | [], _, _ => rfl
  | f :: r, b, h => by
    rw [List.cons_append, firstBad]
    rw [firstBad] at h
    by_cases h0 : fcheckT f = 0
    · rw [if_pos h0] at h ⊢; exact firstBad_append r b h
    · rw [if_neg h0] at h; exact absurd h h0
theorem firstBad_hit (a : List Fd) (f : Fd) (b : List Fd) (h : firstBad a = 0) (hf : fcheckT f ≠ 0) : firstBad (a ++ f :: b) = fcheckT f := by rw [firstBad_append a _ h, firstBad, if_neg hf]
theorem firstBad_miss (a : List Fd) (f : Fd) (h : firstBad a = 0) (hf : fcheckT f = 0) : firstBad (a ++ [f]) = 0 := by rw [firstBad_append a _ h, firstBad, if_pos hf]; rfl
theorem risesB_iff : ∀ l : List Int, risesB l = true ↔ ∀ (j : Nat) a b, l[j]? = some a → l[j + 1]? = some b → a < b
  | [] => by simp [risesB]
  | [x] => by simp [risesB]
  | x :: y :: r => by
    rw [risesB, Bool.and_eq_true, risesB_iff (y :: r), decide_eq_true_iff]
    constructor
    · rintro ⟨h1, h2⟩ j a b ha hb
      match j with
      | 0 => simp at ha hb; omega
      | j + 1 => exact h2 j a b (by simpa using ha) (by simpa using hb)
    · intro h
      exact ⟨h 0 x y rfl rfl, fun j a b ha hb => h (j + 1) a b (by simpa using ha) (by simpa using hb)⟩
theorem risesB_off {l : List Int} {j : Nat} {a b : Int} (ha : l[j]? = some a) (hb : l[j + 1]? = some b) (h : ¬ a < b) : risesB l = false := by
  cases e : risesB l
  · rfl
  · exact absurd ((risesB_iff l).1 e j a b ha hb) h
theorem placeT_hit {l : List (List UInt8)} {name : List UInt8} {i : Nat} (h : l[i]? = some name) (hn : ∀ (j : Nat) x, j < i → l[j]? = some x → x ≠ name) : placeT l name = (i : Int) := by
  unfold placeT
  rw [if_pos (List.mem_of_getElem? h)]
  have hi := (List.getElem?_eq_some_iff.mp h).1
  have : l.findIdx (fun x => decide (x = name)) = i := by
    rw [List.findIdx_eq hi]
    refine ⟨decide_eq_true (by have := List.getElem?_eq_getElem hi; rw [h] at this; exact (Option.some.inj this).symm), fun j hj => ?_⟩
    exact decide_eq_false (hn j _ hj (List.getElem?_eq_getElem (by omega)))
  rw [this]
theorem placeT_miss {l : List (List UInt8)} {name : List UInt8} (hn : ∀ (j : Nat) x, l[j]? = some x → x ≠ name) : placeT l name = -1 := by
  unfold placeT
  rw [if_neg]
  intro h
  obtain ⟨j, hj, e⟩ := List.mem_iff_getElem.mp h
  exact hn j _ (List.getElem?_eq_getElem hj) e
theorem split_at {α : Type} {l : List α} {i : Nat} {x : α} (h : l[i]? = some x) : l = l.take i ++ x :: l.drop (i + 1) := by
  have hi := (List.getElem?_eq_some_iff.mp h).1
  have e : l[i] = x := by rw [List.getElem?_eq_getElem hi] at h; exact Option.some.inj h
  conv => lhs; rw [← List.take_append_drop i l]
  rw [List.drop_eq_getElem_cons hi, e]
theorem flat_snoc {α β : Type} (l : List α) (f : α → List β) (i : Nat) (x : α) (h : l[i]? = some x) : (l.take (i + 1)).flatMap f = (l.take i).flatMap f ++ f x := by
  rw [List.take_add_one, h]
  simp
theorem fields_split {s : Sc} {i k : Nat} {m : Ms} {f : Fd} (hm : s.msgs[i]? = some m) (hf : m.fields[k]? = some f) :
    fieldsOf s = ((s.msgs.take i).flatMap Ms.fields ++ m.fields.take k) ++ f :: (m.fields.drop (k + 1) ++ (s.msgs.drop (i + 1)).flatMap Ms.fields) := by
  unfold fieldsOf
  conv => lhs; rw [split_at hm]
  rw [List.flatMap_append, List.flatMap_cons]
  conv => lhs; rw [split_at hf]
  simp
theorem split_take {α : Type} {l : List α} {i : Nat} {x : α} (h : l[i]? = some x) : l.take (i + 1) = l.take i ++ [x] := by rw [List.take_add_one, h]; rfl
/-- Not too many. -/
structure Few (s : Sc) : Prop where
  few_e : s.enums.length ≤ 3
  few_m : s.msgs.length ≤ 6
  few_v : ∀ e ∈ s.enums, e.values.length ≤ 8
  few_f : ∀ m ∈ s.msgs, m.fields.length ≤ 10 ∧ m.barred.length ≤ 8
theorem few_of {s : Sc} (h : manyT s = false) : Few s := by
  unfold manyT at h
  simp only [Bool.or_eq_false_iff, decide_eq_false_iff_not, List.any_eq_false] at h
  obtain ⟨⟨⟨h1, h2⟩, h3⟩, h4⟩ := h
  refine ⟨by omega, by omega, fun e he => ?_, fun m hm => ?_⟩
  · have := h3 e he; unfold manyE at this; simp at this; exact this
  · have := h4 m hm; unfold manyM at this; simp at this; exact this
theorem headD_at {l : List Int} {a : Int} (h : l[0]? = some a) : l.headD 0 = a := by
  cases l with
  | nil => simp at h
  | cons x r => simp at h; simpa using h
theorem lastD_at {l : List Int} {a : Int} {k : Nat} (h : l[k]? = some a) (hk : k + 1 = l.length) : lastD l = a := by
  unfold lastD
  rw [List.getLastD_eq_getLast?, List.getLast?_eq_getElem?, show l.length - 1 = k by omega, h]
  rfl
theorem drop1_zero {α : Type} (l : List α) : (l.take (0 + 1)).drop 1 = [] := by
  cases l <;> simp
theorem drop1_snoc {α : Type} {l : List α} {i : Nat} {x : α} (hi : 0 < i) (h : l[i]? = some x) : (l.take (i + 1)).drop 1 = (l.take i).drop 1 ++ [x] := by
  have hl := (List.getElem?_eq_some_iff.mp h).1
  rw [split_take h, List.drop_append_of_le_length (by rw [List.length_take]; omega)]
theorem any_off {α : Type} {l : List α} {p : α → Bool} {i : Nat} {x : α} (h : l[i]? = some x) (hp : p x = true) : l.any p = true := List.any_eq_true.mpr ⟨x, List.mem_of_getElem? h, hp⟩
end Go.Proofs.YtloheacncefkgaaGreatDoor

/- Layer 15 in plain words: a schema without one of its messages may be still, if no field of another names it. Conditions: those that each theorem names. -/
namespace Go.Proofs.YtloheacncefkgaaGreatDoor
open Go.RowKit
set_option linter.unusedVariables false

theorem firstBad_zero : ∀ {l : List Fd}, firstBad l = 0 ↔ ∀ f ∈ l, fcheckT f = 0
  | [] => by simp [firstBad]
  | f :: r => by
    rw [firstBad]
    by_cases h : fcheckT f = 0
    · rw [if_pos h, firstBad_zero (l := r)]
      simp [h]
    · rw [if_neg h]
      simp [h]
theorem check_parts {s : Sc} (h : checkT s = 0) : manyT s = false ∧ noneT s = false ∧ scTextT s = false ∧ fieldsT s = 0 ∧ twiceT s = false ∧ orderT s = false ∧ barredT s = false ∧ refsT s = false := by
  unfold checkT at h
  cases h1 : manyT s
  case true => rw [h1, if_pos rfl] at h; omega
  rw [h1, if_neg (by decide)] at h
  cases h2 : noneT s
  case true => rw [h2, if_pos rfl] at h; omega
  rw [h2, if_neg (by decide)] at h
  cases h3 : scTextT s
  case true => rw [h3, if_pos rfl] at h; omega
  rw [h3, if_neg (by decide)] at h
  by_cases h4 : fieldsT s = 0
  case neg => rw [if_pos h4] at h; exact absurd h h4
  rw [if_neg (fun e => e h4)] at h
  cases h5 : twiceT s
  case true => rw [h5, if_pos rfl] at h; omega
  rw [h5, if_neg (by decide)] at h
  cases h6 : orderT s
  case true => rw [h6, if_pos rfl] at h; omega
  rw [h6, if_neg (by decide)] at h
  cases h7 : barredT s
  case true => rw [h7, if_pos rfl] at h; omega
  rw [h7, if_neg (by decide)] at h
  cases h8 : refsT s
  case true => rw [h8, if_pos rfl] at h; omega
  exact ⟨rfl, rfl, rfl, h4, rfl, rfl, rfl, rfl⟩
end Go.Proofs.YtloheacncefkgaaGreatDoor

/- Which schemas are not too great, in plain words (no program here). -/
namespace Go.Proofs.YtloheacncefkgaaGreatDoor
set_option linter.unusedVariables false

def weighE (e : En) : Nat := e.values.length + e.name.length / 10
def weighM (m : Ms) : Nat := m.fields.length + m.barred.length + m.name.length / 10
def weigh (s : Sc) : Nat := (s.enums.length + s.msgs.length) + (s.enums.map weighE).sum + (s.msgs.map weighM).sum
def longV (v : Vl) : Bool := decide (1000 < v.name.length)
def longE (e : En) : Bool := e.values.any longV
def longF (f : Fd) : Bool := decide (1000 < f.name.length) || (decide (1000 < f.ref.length) || decide (1000 < f.one.length))
def longM (m : Ms) : Bool := m.fields.any longF
def smallT (s : Sc) : Bool := decide (weigh s < 200) && (!s.enums.any longE && !s.msgs.any longM)
theorem sum_snoc {α : Type} (l : List α) (f : α → Nat) (i : Nat) (x : α) (h : l[i]? = some x) : ((l.take (i + 1)).map f).sum = ((l.take i).map f).sum + f x := by
  rw [map_snoc l f i x h, List.sum_append]
  simp
theorem sum_take {α : Type} (l : List α) (f : α → Nat) (i : Nat) : ((l.take i).map f).sum ≤ (l.map f).sum := by
  have h : l.map f = (l.take i).map f ++ (l.drop i).map f := by rw [← List.map_append, List.take_append_drop]
  rw [h, List.sum_append]
  omega
theorem small_of {s : Sc} (h1 : weigh s < 200) (h2 : s.enums.any longE = false) (h3 : s.msgs.any longM = false) : smallT s = true := by unfold smallT; rw [decide_eq_true h1, h2, h3]; rfl
theorem small_no {s : Sc} (h : 200 ≤ weigh s) : smallT s = false := by unfold smallT; rw [decide_eq_false (by omega)]; rfl
theorem small_noE {s : Sc} (h : s.enums.any longE = true) : smallT s = false := by unfold smallT; rw [h]; simp
theorem small_noM {s : Sc} (h : s.msgs.any longM = true) : smallT s = false := by unfold smallT; rw [h]; simp
end Go.Proofs.YtloheacncefkgaaGreatDoor

/- Layer 16 in plain words (no program here): what is where in a schema. -/
namespace Go.Proofs.YtloheacncefkgaaGreatDoor
open Go.RowKit
set_option linter.unusedVariables false

def placeZ (l : List Int) (n : Int) : Int := if n ∈ l then (l.findIdx (fun x => decide (x = n)) : Int) else -1
def numAtT (m : Ms) (n : Int) : Int := placeZ (fNums m) n
end Go.Proofs.YtloheacncefkgaaGreatDoor
