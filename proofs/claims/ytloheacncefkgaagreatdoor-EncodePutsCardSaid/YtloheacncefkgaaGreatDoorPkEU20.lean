/- Several texts in one: RiC, LexMath, LexNum, RiD, RiE, RlF, FlMath, SchMath, LessMath, SchSmall, FdMath, SchIn, SchAt, IntApp, RvA, RvC, SchTwo, Bx3. What each proves, and its conditions, stands at its own head. -/
import Derived.Test.YtloheacncefkgaaGreatDoorPkEU3
import Derived.Test.YtloheacncefkgaaGreatDoorPkEU19
import Derived.Test.YtloheacncefkgaaGreatDoorPkEU2
import Derived.Test.YtloheacncefkgaaGreatDoorPkEU0
import Derived.IntWalk
import Derived.Deep.LoopGhost
import Derived.Test.YtloheacncefkgaaGreatDoorPkEU4
import Derived.Test.YtloheacncefkgaaGreatDoorChecked
import Derived.Test.YtloheacncefkgaaGreatDoorPkEU11
import Derived.OpenShut
import Derived.ProofKit
import Derived.SizedLaws
import Derived.WalkKit
import Derived.OwnWalk
import Derived.RowKitTokens
import Derived.Lib.Hide
import Derived.BigQuiet
import Derived.Deep.QuietTactic
/- The document's names: Letter, words, Right. Conditions: those that each theorem names. -/
namespace Go.Proofs.YtloheacncefkgaaGreatDoor
open Go.RowKit
set_option linter.unusedVariables false
set_option maxRecDepth 100000

def letterB (c : UInt8) : Bool := (decide (97 ≤ c.toNat) && decide (c.toNat ≤ 122)) || (decide (65 ≤ c.toNat) && decide (c.toNat ≤ 90))
def charB (c : UInt8) : Bool := letterB c || (decide (48 ≤ c.toNat) && decide (c.toNat ≤ 57)) || decide (c.toNat = 95)
/-- The words that are no names. -/
def wordsL : List (List UInt8) := [[101, 110, 117, 109], [109, 101, 115, 115, 97, 103, 101], [111, 110, 101, 111, 102], [114, 101, 112, 101, 97, 116, 101, 100], [114, 101, 115, 101, 114, 118, 101, 100], [108, 111, 111, 115, 101], [105, 110, 116, 51, 50], [105, 110, 116, 54, 52], [117, 105, 110, 116, 51, 50], [117, 105, 110, 116, 54, 52], [115, 105, 110, 116, 51, 50], [115, 105, 110, 116, 54, 52], [98, 111, 111, 108], [102, 105, 120, 101, 100, 51, 50], [102, 105, 120, 101, 100, 54, 52], [115, 102, 105, 120, 101, 100, 51, 50], [115, 102, 105, 120, 101, 100, 54, 52], [115, 116, 114, 105, 110, 103], [98, 121, 116, 101, 115], [114, 101, 110, 97, 109, 101], [114, 101, 110, 117, 109, 98, 101, 114], [114, 101, 116, 121, 112, 101], [115, 112, 108, 105, 116], [106, 111, 105, 110], [119, 114, 97, 112], [117, 110, 119, 114, 97, 112], [97, 100, 100], [100, 114, 111, 112], [116, 111], [105, 110, 116, 111], [97, 115], [111, 102], [100, 101, 102, 97, 117, 108, 116], [116, 114, 117, 101], [102, 97, 108, 115, 101]]
theorem words_length : wordsL.length = 35 := by decide
def nameB (t : List UInt8) : Bool := decide (1 ≤ t.length) && decide (t.length ≤ 12) && (match t with | [] => false | c :: _ => letterB c) && t.all charB && !(wordsL.contains t)

theorem rletter_any (c : UInt8) (w : World) : Calls Tryz.prog 97 #[.int .u8 (c.toNat : Int)] w fun e w' => e = .returned (.bool (letterB c)) ∧ w = w' := by
 have HL : Hid (letterB c = ((decide (97 ≤ c.toNat) && decide (c.toNat ≤ 122)) || (decide (65 ≤ c.toNat) && decide (c.toNat ≤ 90)))) := Lib.hid rfl
 obtain ⟨n, hn⟩ : ∃ n, n = c.toNat := ⟨_, rfl⟩
 rw [← hn] at HL ⊢
 clear hn
 by_cases h1 : 97 ≤ n <;> by_cases h2 : n ≤ 122 <;> by_cases h3 : 65 ≤ n <;> by_cases h4 : n ≤ 90
 all_goals first
  | omega
  | (have g1 : decide ((97 : Int) ≤ (n : Int)) = decide (97 ≤ n) := decide_eq_decide.mpr (by omega)
     have g2 : decide ((n : Int) ≤ 122) = decide (n ≤ 122) := decide_eq_decide.mpr (by omega)
     have g3 : decide ((65 : Int) ≤ (n : Int)) = decide (65 ≤ n) := decide_eq_decide.mpr (by omega)
     have g4 : decide ((n : Int) ≤ 90) = decide (n ≤ 90) := decide_eq_decide.mpr (by omega)
     simp only [h1, h2, h3, h4, decide_true, decide_false] at g1 g2 g3 g4 HL
     go_enter Tryz.func97, Tryz.ntmps97
     go_wp2
     go_ret
     exact ⟨ret_bool' HL.out.symm, rfl⟩)
theorem rwords_any (w : World) : Calls Tryz.prog 98 #[] w fun e w' => e = .returned (.slice (some ⟨w.heap.size, 0, none⟩) 35 35) ∧ w' = w.alloc (.cells (txts wordsL).toArray 9) := by
 go_enter Tryz.func98, Tryz.ntmps98
 go_wp2
 go_ret
 exact ⟨rfl, rfl⟩
end Go.Proofs.YtloheacncefkgaaGreatDoor

/- Layer 10 in plain words (no program here): what is passed over, how long a name is, digits, quotes, numbers, texts, tokens. -/
namespace Go.Proofs.YtloheacncefkgaaGreatDoor
set_option linter.unusedVariables false

def digitB (c : UInt8) : Bool := decide (48 ≤ c.toNat) && decide (c.toNat ≤ 57)
/-- A number's digits. -/
def decOf (n : Nat) : List UInt8 := if h : n = 0 then [] else decOf (n / 10) ++ [(48 + n % 10).toUInt8]
termination_by n
decreasing_by omega
def digitsT (n : Nat) (neg : Bool) : List UInt8 := if n = 0 then [48] else if neg = true then 45 :: decOf n else decOf n
theorem drop_get {t : List UInt8} {n : Nat} {c : UInt8} (h : t[n]? = some c) : t.drop n = c :: t.drop (n + 1) := by
 obtain ⟨h1, rfl⟩ := List.getElem?_eq_some_iff.mp h
 exact List.drop_eq_getElem_cons h1
end Go.Proofs.YtloheacncefkgaaGreatDoor

/- Layer 10 in plain words (no program here): the number that a text begins with. -/
namespace Go.Proofs.YtloheacncefkgaaGreatDoor
set_option linter.unusedVariables false

def digs (t : List UInt8) : List UInt8 := t.takeWhile digitB
def valOf (acc : Nat) (l : List UInt8) : Nat := l.foldl (fun a c => 10 * a + (c.toNat - 48)) acc
theorem valOf_append (a b : List UInt8) (acc : Nat) : valOf acc (a ++ b) = valOf (valOf acc a) b := List.foldl_append ..
theorem valOf_cons (acc : Nat) (c : UInt8) (r : List UInt8) : valOf acc (c :: r) = valOf (10 * acc + (c.toNat - 48)) r := by unfold valOf; rw [List.foldl_cons]
theorem valOf_ge : ∀ (a : List UInt8) (acc : Nat), acc ≤ valOf acc a
 | [], acc => Nat.le_refl _
 | c :: a, acc => by have := valOf_ge a (10 * acc + (c.toNat - 48)); rw [valOf_cons]; omega
def numNeg (t : List UInt8) : Bool := match t with
 | [] => false
 | c :: _ => decide (c.toNat = 45)
def numFrom (t : List UInt8) : Nat := if numNeg t = true then 1 else 0
def numDs (t : List UInt8) : List UInt8 := digs (t.drop (numFrom t))
def numV (t : List UInt8) : Nat := valOf 0 (numDs t)
def numI (t : List UInt8) : Nat := numFrom t + (numDs t).length
/-- Is none there? -/
def numBad (t : List UInt8) : Bool := decide (numDs t = []) || (decide (18446744073709551616 ≤ numV t) || (decide (digitsT (numV t) (numNeg t) ≠ t.take (numI t)) || (numNeg t && decide (9223372036854775808 < numV t))))
def numT (t : List UInt8) : Nat × Bool × Nat := if numBad t = true then (0, false, 0) else (numV t, numNeg t, numI t)
theorem digs_cons_yes {c : UInt8} {r : List UInt8} (h : digitB c = true) : digs (c :: r) = c :: digs r := by unfold digs; rw [List.takeWhile_cons_of_pos h]
/-- So many digits were read. -/
structure NumAt (t pre : List UInt8) (i n : Nat) : Prop where
 ds : numDs t = pre ++ digs (t.drop i)
 i_ : i = numFrom t + pre.length
 n_ : n = valOf 0 pre
 lt : n < 18446744073709551616
 le : i ≤ t.length
section
variable {t pre : List UInt8} {i n : Nat} {c : UInt8}
theorem NumAt.step (h : NumAt t pre i n) (hc : t[i]? = some c) (hd : digitB c = true) (hn : 10 * n + (c.toNat - 48) < 18446744073709551616) : NumAt t (pre ++ [c]) (i + 1) (10 * n + (c.toNat - 48)) := by
 refine ⟨?_, by rw [h.i_, List.length_append]; rfl, by rw [valOf_append, ← h.n_, valOf_cons]; unfold valOf; rw [List.foldl_nil], hn, (List.getElem?_eq_some_iff.mp hc).1⟩
 rw [h.ds, drop_get hc, digs_cons_yes hd, List.append_assoc]
 rfl
theorem NumAt.over (h : NumAt t pre i n) (hc : t[i]? = some c) (hd : digitB c = true) (hn : 18446744073709551616 ≤ 10 * n + (c.toNat - 48)) : numT t = (0, false, 0) := by
 unfold numT
 rw [if_pos]
 have h1 : 18446744073709551616 ≤ numV t := by
  unfold numV
  rw [h.ds, drop_get hc, digs_cons_yes hd, valOf_append, valOf_cons, ← h.n_]
  exact Nat.le_trans hn (valOf_ge _ _)
 unfold numBad
 rw [decide_eq_true h1]
 simp
theorem NumAt.stop (h : NumAt t pre i n) (hs : digs (t.drop i) = []) : numDs t = pre ∧ numV t = n ∧ numI t = i := by
 have e : numDs t = pre := by rw [h.ds, hs, List.append_nil]
 exact ⟨e, by unfold numV; rw [e, h.n_], by unfold numI; rw [e, h.i_]⟩
theorem NumAt.first (h : NumAt t pre i n) (hs : digs (t.drop i) = []) (he : i = numFrom t) : numT t = (0, false, 0) := by
 have e := (h.stop hs).1
 have : pre = [] := List.eq_nil_of_length_eq_zero (by have := h.i_; omega)
 unfold numT
 rw [if_pos]
 unfold numBad
 rw [e, this]
 simp
end
end Go.Proofs.YtloheacncefkgaaGreatDoor

/- The document's Right of names: what is none at once. Conditions: those that each theorem names. -/
namespace Go.Proofs.YtloheacncefkgaaGreatDoor
open Go.RowKit
set_option linter.unusedVariables false
set_option maxRecDepth 100000

/-- No name: too short. -/
theorem rname_short (w : World) (t : List UInt8) (h : t.length < 1) : Calls Tryz.prog 47 #[.string (strOf t)] w fun e w' => e = .returned (.bool (nameB t)) ∧ Below w.heap.size w w' := by
 have HF : Hid (nameB t = false) := Lib.hid (by unfold nameB; rw [decide_eq_false (by omega)]; rfl)
 obtain ⟨n, hn⟩ : ∃ n, n = t.length := ⟨_, rfl⟩
 obtain ⟨str, hstr⟩ : ∃ str, str = strOf t := ⟨_, rfl⟩
 have hsz : str.size = n := by rw [hstr, str_size, hn]
 rw [← hstr]
 have g1 : decide ((n : Int) < 1) = true := decide_eq_true (by omega)
 clear hstr hn h
 go_enter Tryz.func47, Tryz.ntmps47
 go_wp2
 go_ret
 exact ⟨ret_bool' HF.out.symm, Below.refl _ _⟩
/-- No name: too long. -/
theorem rname_long (w : World) (t : List UInt8) (h : 12 < t.length) : Calls Tryz.prog 47 #[.string (strOf t)] w fun e w' => e = .returned (.bool (nameB t)) ∧ Below w.heap.size w w' := by
 have HF : Hid (nameB t = false) := Lib.hid (by unfold nameB; rw [decide_eq_false (show ¬ t.length ≤ 12 by omega)]; simp)
 obtain ⟨n, hn⟩ : ∃ n, n = t.length := ⟨_, rfl⟩
 obtain ⟨str, hstr⟩ : ∃ str, str = strOf t := ⟨_, rfl⟩
 have hsz : str.size = n := by rw [hstr, str_size, hn]
 rw [← hstr]
 have g1 : decide ((n : Int) < 1) = false := decide_eq_false (by omega)
 have g2 : decide ((n : Int) > 12) = true := decide_eq_true (by omega)
 clear hstr hn h
 go_enter Tryz.func47, Tryz.ntmps47
 go_wp2
 go_ret
 exact ⟨ret_bool' HF.out.symm, Below.refl _ _⟩
/-- No name: its first is no letter. -/
theorem rname_first (w : World) (c : UInt8) (r : List UInt8) (h12 : (c :: r).length ≤ 12) (hl : letterB c = false) : Calls Tryz.prog 47 #[.string (strOf (c :: r))] w fun e w' => e = .returned (.bool (nameB (c :: r))) ∧ Below w.heap.size w w' := by
 have HF : Hid (nameB (c :: r) = false) := Lib.hid (by unfold nameB; simp only [hl, Bool.and_false, Bool.false_and])
 have h1 : 1 ≤ (c :: r).length := by simp
 obtain ⟨n, hn⟩ : ∃ n, n = (c :: r).length := ⟨_, rfl⟩
 obtain ⟨str, hstr⟩ : ∃ str, str = strOf (c :: r) := ⟨_, rfl⟩
 have hsz : str.size = n := by rw [hstr, str_size, hn]
 rw [← hn] at h1 h12
 have hs0 : 0 < str.size := by omega
 have EA : Hid (str[0]'hs0 = c) := by
  show _ = _
  have := hstr
  subst this
  rfl
 rw [← hstr]
 have g1 : decide ((n : Int) < 1) = false := decide_eq_false (by omega)
 have g2 : decide ((n : Int) > 12) = false := decide_eq_false (by omega)
 have hp0 : (0 : Int) < (n : Int) := by omega
 have HL := Lib.hid (fun w => rletter_any c w)
 rw [hl] at HL
 clear hl hn hstr
 go_enter Tryz.func47, Tryz.ntmps47
 go_wp2_with (go_at_call 97; rw [EA.out]; refine (HL.out _).mono ?_; rintro e w2 ⟨rfl, rfl⟩)
 go_ret
 exact ⟨ret_bool' HF.out.symm, Below.refl _ _⟩
end Go.Proofs.YtloheacncefkgaaGreatDoor

/- The document's Right of names: the walk through the letters and the words. Conditions: those that each theorem names. -/
namespace Go.Proofs.YtloheacncefkgaaGreatDoor
open Go.RowKit
set_option linter.unusedVariables false
set_option maxRecDepth 100000

theorem words_sl (w : World) : Sl (w.alloc (.cells (txts wordsL).toArray 9)) (some ⟨w.heap.size, 0, none⟩) 35 (txts wordsL) :=
 ⟨by rw [txts_length, words_length]; exact Nat.le_refl _, by decide, (fun h => by cases h), fun j u hj => ⟨w.heap.size, 0, rfl, by
  rw [World.cell?_alloc_at _ _ _ _ rfl, Nat.zero_add, List.getElem?_toArray]; exact hj⟩⟩
set_option maxHeartbeats 2000000 in
theorem rname_loops (w : World) (c : UInt8) (r t : List UInt8) (ht : t = c :: r) (h12 : t.length ≤ 12) (hl : letterB c = true) : Calls Tryz.prog 47 #[.string (strOf t)] w fun e w' => e = .returned (.bool (nameB t)) ∧ Below w.heap.size w w' := by
 have HT : Hid (nameB t = (t.all charB && !(wordsL.contains t))) := Lib.hid (by unfold nameB; rw [decide_eq_true h12, ht]; simp [hl])
 have h1 : 1 ≤ t.length := by rw [ht]; simp
 obtain ⟨n, hn⟩ : ∃ n, n = t.length := ⟨_, rfl⟩
 obtain ⟨str, hstr⟩ : ∃ str, str = strOf t := ⟨_, rfl⟩
 have hsz : str.size = n := by rw [hstr, str_size, hn]
 rw [← hn] at h1 h12
 have hs0 : 0 < str.size := by omega
 have EA : Hid (str[0]'hs0 = c) := by
  show _ = _
  have := hstr
  subst this
  subst ht
  rfl
 rw [← hstr]
 have HN := Lib.hid hn
 have HST := Lib.hid hstr
 have g1 : decide ((n : Int) < 1) = false := decide_eq_false (by omega)
 have g2 : decide ((n : Int) > 12) = false := decide_eq_false (by omega)
 have hp0 : (0 : Int) < (n : Int) := by omega
 have HL := Lib.hid (fun w => rletter_any c w)
 rw [hl] at HL
 clear hl hn hstr ht
 go_enter Tryz.func47, Tryz.ntmps47
 go_wp2_with (go_at_call 97; rw [EA.out]; refine (HL.out _).mono ?_; rintro e w2 ⟨rfl, rfl⟩)
 clear EA HL
 go_loop [3] (fun x => ∃ k : Nat, k ≤ n ∧ x = .int .i64 (k : Int) ∧ ∀ (j : Nat) a, j < k → t[j]? = some a → charB a = true) (fun x => n - (intOf x).toNat)
 case atStart => exact ⟨0, Nat.zero_le _, rfl, fun j a hj => absurd hj (Nat.not_lt_zero _)⟩
 case round =>
  obtain ⟨k, hk, rfl, hall⟩ := hrel
  have HALL := Lib.hid hall
  clear hall
  by_cases hlt : k < n
  ·have g3 : decide ((k : Int) < (n : Int)) = true := decide_eq_true (by omega)
   obtain ⟨a, ha⟩ : ∃ a, t[k]? = some a := ⟨_, List.getElem?_eq_getElem (by have := HN.out; omega)⟩
   have hsk : k < str.size := by omega
   have EK : str[k]'hsk = a := by
    obtain ⟨q1, q2⟩ := List.getElem?_eq_some_iff.mp ha
    have := HST.out
    subst this
    exact q2
   have hk0 : 0 ≤ (k : Int) := by omega
   have hk1 : (k : Int) < (n : Int) := by omega
   have HLA := Lib.hid (fun w => rletter_any a w)
   have HA := Lib.hid ha
   have HCH : Hid (charB a = (letterB a || (decide (48 ≤ a.toNat) && decide (a.toNat ≤ 57)) || decide (a.toNat = 95))) := Lib.hid rfl
   clear ha
   cases hla : letterB a with
   | true =>
     rw [hla] at HCH HLA
     have HC : Hid (charB a = true) := Lib.hid (by rw [HCH.out]; rfl)
     clear hla
     go_wp2_with (go_at_call 97; (try rw [EK]); refine (HLA.out _).mono ?_; rintro e w2 ⟨rfl, rfl⟩)
     go_round
     case rel =>
      refine ⟨k + 1, by omega, by go_num, fun j b hj hb => ?_⟩
      by_cases hjk : j < k
      ·exact HALL.out j b hjk hb
      ·have : j = k := by omega
       subst this
       have e1 := HA.out.symm.trans hb
       injection e1 with e1
       subst e1
       exact HC.out
     case measure => simp [intOf]; omega
   | false =>
     rw [hla] at HCH HLA
     clear hla
     by_cases h48 : a.toNat < 48
     ·have g4 : decide ((a.toNat : Int) < 48) = true := decide_eq_true (by omega)
      have hne : ¬ ((a.toNat : Int) = 95) := by omega
      have hne2 : ((a.toNat : Int) == 95) = false := beq_false_of_ne hne
      have HC : Hid (charB a = false) := Lib.hid (by rw [HCH.out, decide_eq_false (show ¬ 48 ≤ a.toNat by omega), decide_eq_false (show ¬ a.toNat = 95 by omega)]; rfl)
      have HF : Hid (nameB t = false) := Lib.hid (by rw [HT.out, show t.all charB = false from by rw [List.all_eq_false]; exact ⟨a, List.mem_of_getElem? HA.out, by rw [HC.out]; simp⟩]; rfl)
      go_wp2_with (go_at_call 97; (try rw [EK]); refine (HLA.out _).mono ?_; rintro e w2 ⟨rfl, rfl⟩)
      go_ret
      exact ⟨ret_bool' HF.out.symm, Below.refl _ _⟩
     ·have g4 : decide ((a.toNat : Int) < 48) = false := decide_eq_false (by omega)
      by_cases h57 : a.toNat ≤ 57
      ·have g5 : decide ((a.toNat : Int) > 57) = false := decide_eq_false (by omega)
       have HC : Hid (charB a = true) := Lib.hid (by rw [HCH.out, decide_eq_true (show 48 ≤ a.toNat by omega), decide_eq_true h57]; rfl)
       go_wp2_with (go_at_call 97; (try rw [EK]); refine (HLA.out _).mono ?_; rintro e w2 ⟨rfl, rfl⟩)
       go_round
       case rel =>
        refine ⟨k + 1, by omega, by go_num, fun j b hj hb => ?_⟩
        by_cases hjk : j < k
        ·exact HALL.out j b hjk hb
        ·have : j = k := by omega
         subst this
         have e1 := HA.out.symm.trans hb
         injection e1 with e1
         subst e1
         exact HC.out
       case measure => simp [intOf]; omega
      ·have g5 : decide ((a.toNat : Int) > 57) = true := decide_eq_true (by omega)
       by_cases h95 : a.toNat = 95
       ·have hne : ((a.toNat : Int) = 95) := by omega
        have HC : Hid (charB a = true) := Lib.hid (by rw [HCH.out, decide_eq_true h95]; simp)
        have HLB : Hid (∀ w, Calls Tryz.prog 97 #[.int .u8 (95 : Int)] w fun e w' => e = .returned (.bool false) ∧ w = w') := Lib.hid (fun w => by have := HLA.out w; rw [hne] at this; exact this)
        go_wp2_with (go_at_call 97; (try rw [EK]); (try rw [hne]); with_reducible refine (HLB.out _).mono ?_; rintro e w2 ⟨rfl, rfl⟩)
        go_round
        case rel =>
         refine ⟨k + 1, by omega, by go_num, fun j b hj hb => ?_⟩
         by_cases hjk : j < k
         ·exact HALL.out j b hjk hb
         ·have : j = k := by omega
          subst this
          have e1 := HA.out.symm.trans hb
          injection e1 with e1
          subst e1
          exact HC.out
        case measure => simp [intOf]; omega
       ·have hne : ¬ ((a.toNat : Int) = 95) := by omega
        have hne2 : ((a.toNat : Int) == 95) = false := beq_false_of_ne hne
        have HC : Hid (charB a = false) := Lib.hid (by rw [HCH.out, decide_eq_false h57, decide_eq_false h95]; simp)
        have HF : Hid (nameB t = false) := Lib.hid (by rw [HT.out, show t.all charB = false from by rw [List.all_eq_false]; exact ⟨a, List.mem_of_getElem? HA.out, by rw [HC.out]; simp⟩]; rfl)
        go_wp2_with (go_at_call 97; (try rw [EK]); refine (HLA.out _).mono ?_; rintro e w2 ⟨rfl, rfl⟩)
        go_ret
        exact ⟨ret_bool' HF.out.symm, Below.refl _ _⟩
  ·have g3 : decide ((k : Int) < (n : Int)) = false := decide_eq_false (by omega)
   have hal : t.all charB = true := by
    rw [List.all_eq_true]
    intro x hx
    obtain ⟨j, hj⟩ := List.getElem?_of_mem hx
    exact HALL.out j x (by have := (List.getElem?_eq_some_iff.mp hj).1; have := HN.out; omega) hj
   have HA2 : Hid (nameB t = !(wordsL.contains t)) := Lib.hid (by rw [HT.out, hal]; rfl)
   have HW := Lib.hid (words_sl w)
   clear hal
   go_wp2_with (go_at_call 98; refine (rwords_any _).mono ?_; rintro e w2 ⟨rfl, rfl⟩)
   obtain ⟨w1, hw1⟩ : ∃ w1, w1 = w.alloc (.cells (txts wordsL).toArray 9) := ⟨_, rfl⟩
   rw [← hw1] at HW ⊢
   have HB1 : Hid (Below w.heap.size w w1) := Lib.hid (hw1 ▸ (Below.refl _ _).alloc (Nat.le_refl _) _)
   clear hw1
   go_loopg [5] 35 (fun h y wr => ∃ i : Nat, y = .int .i64 (i : Int) ∧ i + h = 35 ∧ wr = w1 ∧ ∀ (q : Nat) b, q < i → wordsL[q]? = some b → b ≠ t)
   case atStart => exact ⟨0, rfl, by omega, rfl, fun q b hq => absurd hq (Nat.not_lt_zero _)⟩
   case round =>
    obtain ⟨i, rfl, hi, rfl, hin⟩ := hrel
    obtain ⟨h0, hh0⟩ : ∃ h0, h0 = gk := ⟨_, rfl⟩
    subst hh0
    have HIN := Lib.hid hin
    clear hin
    by_cases hli : i < 35
    ·have g4 : decide ((i : Int) < 35) = true := decide_eq_true (by omega)
     obtain ⟨b, hb⟩ : ∃ b, wordsL[i]? = some b := ⟨_, List.getElem?_eq_getElem (by rw [words_length]; exact hli)⟩
     obtain ⟨g', off', e', c1⟩ := HW.out.at_ i (.string (strOf b)) (by rw [txts, List.getElem?_map, hb]; rfl)
     cases e'
     rw [Nat.zero_add] at c1
     have HB := Lib.hid hb
     by_cases hab : b = t
     ·subst hab
      rw [← HST.out] at c1
      have HF : Hid (nameB b = false) := Lib.hid (by rw [HA2.out, List.contains_iff_mem.mpr (List.mem_of_getElem? HB.out)]; rfl)
      clear hb
      go_wp2
      go_ret
      exact ⟨ret_bool' HF.out.symm, HB1.out⟩
     ·obtain ⟨sb, hsb⟩ : ∃ sb, sb = strOf b := ⟨_, rfl⟩
      have hne : ¬ sb.toList = str.toList := by rw [HST.out, hsb, str_list, str_list]; exact hab
      have hne2 : (sb.toList == str.toList) = false := by rw [HST.out, hsb, strOf_beq]; exact decide_eq_false hab
      rw [← hsb] at c1
      have HAB := Lib.hid hab
      clear hb hsb hab
      go_wp2
      go_roundg (h0 - 1)
      case measure => omega
      case rel =>
       refine ⟨i + 1, by go_num, by omega, rfl, fun q c hq hc => ?_⟩
       by_cases hqk : q < i
       ·exact HIN.out q c hqk hc
       ·have : q = i := by omega
        subst this
        have e1 := HB.out.symm.trans hc
        injection e1 with e1
        subst e1
        exact HAB.out
    ·have g4 : decide ((i : Int) < 35) = false := decide_eq_false (by omega)
     have HF : Hid (nameB t = true) := Lib.hid (by
      rw [HA2.out, Bool.not_eq_true']
      cases hc : wordsL.contains t with
      | false => rfl
      | true =>
        obtain ⟨j, hj⟩ := List.getElem?_of_mem (List.contains_iff_mem.mp hc)
        exact absurd rfl (HIN.out j t (by have := (List.getElem?_eq_some_iff.mp hj).1; rw [words_length] at this; omega) hj))
     go_wp2
     go_ret
     exact ⟨ret_bool' HF.out.symm, HB1.out⟩
theorem rname_any (w : World) (t : List UInt8) : Calls Tryz.prog 47 #[.string (strOf t)] w fun e w' => e = .returned (.bool (nameB t)) ∧ Below w.heap.size w w' := by
 by_cases h1 : t.length < 1
 ·exact rname_short w t h1
 ·by_cases h12 : 12 < t.length
  ·exact rname_long w t h12
  ·cases t with
   | nil => simp at h1
   | cons c r =>
     cases hl : letterB c with
     | false => exact rname_first w c r (by omega) hl
     | true => exact rname_loops w c r _ rfl (by omega) hl
end Go.Proofs.YtloheacncefkgaaGreatDoor

/- The document's token that a text begins with. Conditions: what number answers; those that each theorem names. -/
namespace Go.Proofs.YtloheacncefkgaaGreatDoor
open Go.RowKit
set_option linter.unusedVariables false
set_option maxRecDepth 100000

structure Tk where
 kind : Int
 s : List UInt8
 n : Nat
 neg : Bool
 pos : Nat
end Go.Proofs.YtloheacncefkgaaGreatDoor

/- Layer 14 in plain words (no program here): which fields may be, which are packed, which hidden, and their texts. -/
namespace Go.Proofs.YtloheacncefkgaaGreatDoor
open Go.RowKit
set_option linter.unusedVariables false

structure Fd where
 name : List UInt8
 num : Int
 ty : Int
 ref : List UInt8
 rep : Bool
 loose : Bool
 one : List UInt8
/-- As a value, and as a datum. -/
def fdV (f : Fd) : Value := .agg #[.string (strOf f.name), .int .i64 f.num, .int .i64 f.ty, .string (strOf f.ref), .bool f.rep, .bool f.loose, .string (strOf f.one)]
def fc1 (f : Fd) : Bool := !nameB f.name || (decide (f.one ≠ []) && !nameB f.one)
def fc2 (f : Fd) : Bool := if f.ty = 14 ∨ f.ty = 15 then !nameB f.ref else decide (f.ref ≠ [])
def fc3 (f : Fd) : Bool := !fieldB f.num || (decide (f.ty < 1) || (decide (15 < f.ty) || (f.rep && decide (f.one ≠ []))))
def fc4 (f : Fd) : Bool := f.loose && (!f.rep || !numberT f.ty)
def fcheckT (f : Fd) : Int := if fc1 f = true then 2 else if fc2 f = true then 2 else if fc3 f = true then 1 else if fc4 f = true then 1 else 0
def packedT (f : Fd) : Bool := f.rep && (numberT f.ty && !f.loose)
def hiddenT (f : Fd) : Bool := !f.rep && (decide (f.one = []) && decide (f.ty ≠ 15))
/-- What may be. -/
theorem fcheck_ok {f : Fd} (h : fcheckT f = 0) : nameB f.name = true ∧ (f.one = [] ∨ nameB f.one = true) ∧ ((f.ty = 14 ∨ f.ty = 15) ∧ nameB f.ref = true ∨ ¬ (f.ty = 14 ∨ f.ty = 15) ∧ f.ref = []) ∧
 fieldB f.num = true ∧ 1 ≤ f.ty ∧ f.ty ≤ 15 ∧ (f.rep = false ∨ f.one = []) ∧ (f.loose = false ∨ (f.rep = true ∧ numberT f.ty = true)) := by
 unfold fcheckT at h
 by_cases h1 : fc1 f = true
 ·rw [if_pos h1] at h; exact absurd h (by decide)
 rw [if_neg h1] at h
 by_cases h2 : fc2 f = true
 ·rw [if_pos h2] at h; exact absurd h (by decide)
 rw [if_neg h2] at h
 by_cases h3 : fc3 f = true
 ·rw [if_pos h3] at h; exact absurd h (by decide)
 rw [if_neg h3] at h
 by_cases h4 : fc4 f = true
 ·rw [if_pos h4] at h; exact absurd h (by decide)
 unfold fc1 at h1
 unfold fc2 at h2
 unfold fc3 at h3
 unfold fc4 at h4
 simp at h1 h3 h4
 refine ⟨h1.1, ?_, ?_, h3.1, by omega, by omega, ?_, ?_⟩
 ·by_cases e : f.one = []
  ·exact .inl e
  ·exact .inr (h1.2 e)
 ·by_cases e : f.ty = 14 ∨ f.ty = 15
  ·rw [if_pos e] at h2; exact .inl ⟨e, by simpa using h2⟩
  ·rw [if_neg e] at h2; exact .inr ⟨e, by simpa using h2⟩
 ·cases hr : f.rep
  ·exact .inl rfl
  ·exact .inr (h3.2.2.2 hr)
 ·cases hl : f.loose
  ·exact .inl rfl
  ·exact .inr (h4 hl)
end Go.Proofs.YtloheacncefkgaaGreatDoor

/- Layer 15 in plain words (no program here): schemas, which may be, which are the same. -/
namespace Go.Proofs.YtloheacncefkgaaGreatDoor
open Go.RowKit
set_option linter.unusedVariables false

structure Vl where
 name : List UInt8
 num : Int
structure En where
 name : List UInt8
 values : List Vl
structure Ms where
 name : List UInt8
 fields : List Fd
 barred : List Int
structure Sc where
 enums : List En
 msgs : List Ms

def manyE (e : En) : Bool := decide (8 < e.values.length)
def manyM (m : Ms) : Bool := decide (10 < m.fields.length) || decide (8 < m.barred.length)
def manyT (s : Sc) : Bool := ((decide (3 < s.enums.length) || decide (6 < s.msgs.length)) || s.enums.any manyE) || s.msgs.any manyM
def noneE (e : En) : Bool := decide (e.values.length = 0)
def noneT (s : Sc) : Bool := decide (s.msgs.length = 0) || s.enums.any noneE
def badName (t : List UInt8) : Bool := !nameB t
def textV (v : Vl) : Bool := badName v.name
def textE (e : En) : Bool := badName e.name || e.values.any textV
def textM (m : Ms) : Bool := badName m.name
def scTextT (s : Sc) : Bool := s.enums.any textE || s.msgs.any textM
def firstBad : List Fd → Int
 | [] => 0
 | f :: r => if fcheckT f = 0 then firstBad r else fcheckT f
def fieldsOf (s : Sc) : List Fd := s.msgs.flatMap Ms.fields
def fieldsT (s : Sc) : Int := firstBad (fieldsOf s)
def vNames (e : En) : List (List UInt8) := e.values.map Vl.name
def fNames (m : Ms) : List (List UInt8) := m.fields.map Fd.name
def eNames (s : Sc) : List (List UInt8) := s.enums.map En.name
def mNames (s : Sc) : List (List UInt8) := s.msgs.map Ms.name
def twiceE (e : En) : Bool := !onceB (vNames e)
def twiceF (l : List (List UInt8)) (f : Fd) : Bool := !decide (f.one = []) && !onceB (l ++ [f.one])
def twiceM (m : Ms) : Bool := !onceB (fNames m) || m.fields.any (twiceF (fNames m))
def twiceT (s : Sc) : Bool := (s.enums.any twiceE || s.msgs.any twiceM) || !onceB (eNames s ++ mNames s)
def risesB : List Int → Bool
 | a :: b :: r => decide (a < b) && risesB (b :: r)
 | _ => true
def vNums (e : En) : List Int := e.values.map Vl.num
def fNums (m : Ms) : List Int := m.fields.map Fd.num
def lastD (l : List Int) : Int := l.getLastD 0
def orderE (e : En) : Bool := (!risesB (vNums e) || !decide ((vNums e).headD 0 = 0)) || decide (1048576 < lastD (vNums e))
def orderM (m : Ms) : Bool := (!risesB (fNums m) || !risesB m.barred) || (decide (0 < m.barred.length) && (decide (m.barred.headD 0 < 1) || decide (536870911 < lastD m.barred)))
def orderT (s : Sc) : Bool := ((s.enums.any orderE || !riseB (eNames s)) || s.msgs.any orderM) || !riseB ((mNames s).drop 1)
def isInB (l : List Int) (n : Int) : Bool := l.any (fun x => decide (x = n))
def barredM (m : Ms) : Bool := m.fields.any (fun f => isInB m.barred f.num)
def barredT (s : Sc) : Bool := s.msgs.any barredM
def placeT (l : List (List UInt8)) (name : List UInt8) : Int := if name ∈ l then (l.findIdx (fun x => decide (x = name)) : Int) else -1
def messageT (s : Sc) (name : List UInt8) : Int := placeT (mNames s) name
def enumT (s : Sc) (name : List UInt8) : Int := placeT (eNames s) name
def refF (s : Sc) (f : Fd) : Bool := (decide (f.ty = 14) && decide (enumT s f.ref < 0)) || (decide (f.ty = 15) && decide (messageT s f.ref < 0))
def refsM (s : Sc) (m : Ms) : Bool := m.fields.any (refF s)
def refsT (s : Sc) : Bool := s.msgs.any (refsM s)
def checkT (s : Sc) : Int :=
 if manyT s = true then 4 else if noneT s = true then 5 else if scTextT s = true then 2 else if fieldsT s ≠ 0 then fieldsT s else if twiceT s = true then 6 else if orderT s = true then 1 else if barredT s = true then 6 else if refsT s = true then 5 else 0

/-! ### One more -/
theorem any_snoc {α : Type} (l : List α) (p : α → Bool) (i : Nat) (x : α) (h : l[i]? = some x) : (l.take (i + 1)).any p = ((l.take i).any p || p x) := by
 rw [List.take_add_one, h]
 simp
theorem any_whole {α : Type} (l : List α) (p : α → Bool) (i : Nat) (h : l.length ≤ i) : (l.take i).any p = l.any p := by rw [List.take_of_length_le h]
theorem map_snoc {α β : Type} (l : List α) (f : α → β) (i : Nat) (x : α) (h : l[i]? = some x) : (l.take (i + 1)).map f = (l.take i).map f ++ [f x] := by
 rw [List.take_add_one, h]
 simp
theorem firstBad_append : ∀ (a b : List Fd), firstBad a = 0 → firstBad (a ++ b) = firstBad b
 | [], _, _ => rfl
 | f :: r, b, h => by
   rw [List.cons_append, firstBad]
   rw [firstBad] at h
   by_cases h0 : fcheckT f = 0
   ·rw [if_pos h0] at h ⊢; exact firstBad_append r b h
   ·rw [if_neg h0] at h; exact absurd h h0
theorem firstBad_hit (a : List Fd) (f : Fd) (b : List Fd) (h : firstBad a = 0) (hf : fcheckT f ≠ 0) : firstBad (a ++ f :: b) = fcheckT f := by rw [firstBad_append a _ h, firstBad, if_neg hf]
theorem firstBad_miss (a : List Fd) (f : Fd) (h : firstBad a = 0) (hf : fcheckT f = 0) : firstBad (a ++ [f]) = 0 := by rw [firstBad_append a _ h, firstBad, if_pos hf]; rfl
theorem risesB_iff : ∀ l : List Int, risesB l = true ↔ ∀ (j : Nat) a b, l[j]? = some a → l[j + 1]? = some b → a < b
 | [] => by simp [risesB]
 | [x] => by simp [risesB]
 | x :: y :: r => by
   rw [risesB, Bool.and_eq_true, risesB_iff (y :: r), decide_eq_true_iff]
   constructor
   ·rintro ⟨h1, h2⟩ j a b ha hb
    match j with
    | 0 => simp at ha hb; omega
    | j + 1 => exact h2 j a b (by simpa using ha) (by simpa using hb)
   ·intro h
    exact ⟨h 0 x y rfl rfl, fun j a b ha hb => h (j + 1) a b (by simpa using ha) (by simpa using hb)⟩
theorem risesB_off {l : List Int} {j : Nat} {a b : Int} (ha : l[j]? = some a) (hb : l[j + 1]? = some b) (h : ¬ a < b) : risesB l = false := by
 cases e : risesB l
 ·rfl
 ·exact absurd ((risesB_iff l).1 e j a b ha hb) h
theorem placeT_hit {l : List (List UInt8)} {name : List UInt8} {i : Nat} (h : l[i]? = some name) (hn : ∀ (j : Nat) x, j < i → l[j]? = some x → x ≠ name) : placeT l name = (i : Int) := by
 unfold placeT
 rw [if_pos (List.mem_of_getElem? h)]
 have hi := (List.getElem?_eq_some_iff.mp h).1
 have : l.findIdx (fun x => decide (x = name)) = i := by
  rw [List.findIdx_eq hi]
  refine ⟨decide_eq_true (by have := List.getElem?_eq_getElem hi; rw [h] at this; exact (Option.some.inj this).symm), fun j hj => ?_⟩
  exact decide_eq_false (hn j _ hj (List.getElem?_eq_getElem (by omega)))
 rw [this]
theorem placeT_miss {l : List (List UInt8)} {name : List UInt8} (hn : ∀ (j : Nat) x, l[j]? = some x → x ≠ name) : placeT l name = -1 := by
 unfold placeT
 rw [if_neg]
 intro h
 obtain ⟨j, hj, e⟩ := List.mem_iff_getElem.mp h
 exact hn j _ (List.getElem?_eq_getElem hj) e
theorem split_at {α : Type} {l : List α} {i : Nat} {x : α} (h : l[i]? = some x) : l = l.take i ++ x :: l.drop (i + 1) := by
 have hi := (List.getElem?_eq_some_iff.mp h).1
 have e : l[i] = x := by rw [List.getElem?_eq_getElem hi] at h; exact Option.some.inj h
 conv => lhs; rw [← List.take_append_drop i l]
 rw [List.drop_eq_getElem_cons hi, e]
theorem flat_snoc {α β : Type} (l : List α) (f : α → List β) (i : Nat) (x : α) (h : l[i]? = some x) : (l.take (i + 1)).flatMap f = (l.take i).flatMap f ++ f x := by
 rw [List.take_add_one, h]
 simp
theorem fields_split {s : Sc} {i k : Nat} {m : Ms} {f : Fd} (hm : s.msgs[i]? = some m) (hf : m.fields[k]? = some f) :
 fieldsOf s = ((s.msgs.take i).flatMap Ms.fields ++ m.fields.take k) ++ f :: (m.fields.drop (k + 1) ++ (s.msgs.drop (i + 1)).flatMap Ms.fields) := by
 unfold fieldsOf
 conv => lhs; rw [split_at hm]
 rw [List.flatMap_append, List.flatMap_cons]
 conv => lhs; rw [split_at hf]
 simp
theorem split_take {α : Type} {l : List α} {i : Nat} {x : α} (h : l[i]? = some x) : l.take (i + 1) = l.take i ++ [x] := by rw [List.take_add_one, h]; rfl
/-- Not too many. -/
structure Few (s : Sc) : Prop where
 few_e : s.enums.length ≤ 3
 few_m : s.msgs.length ≤ 6
 few_v : ∀ e ∈ s.enums, e.values.length ≤ 8
 few_f : ∀ m ∈ s.msgs, m.fields.length ≤ 10 ∧ m.barred.length ≤ 8
theorem few_of {s : Sc} (h : manyT s = false) : Few s := by
 unfold manyT at h
 simp only [Bool.or_eq_false_iff, decide_eq_false_iff_not, List.any_eq_false] at h
 obtain ⟨⟨⟨h1, h2⟩, h3⟩, h4⟩ := h
 refine ⟨by omega, by omega, fun e he => ?_, fun m hm => ?_⟩
 ·have := h3 e he; unfold manyE at this; simp at this; exact this
 ·have := h4 m hm; unfold manyM at this; simp at this; exact this
theorem headD_at {l : List Int} {a : Int} (h : l[0]? = some a) : l.headD 0 = a := by
 cases l with
 | nil => simp at h
 | cons x r => simp at h; simpa using h
theorem lastD_at {l : List Int} {a : Int} {k : Nat} (h : l[k]? = some a) (hk : k + 1 = l.length) : lastD l = a := by
 unfold lastD
 rw [List.getLastD_eq_getLast?, List.getLast?_eq_getElem?, show l.length - 1 = k by omega, h]
 rfl
theorem drop1_zero {α : Type} (l : List α) : (l.take (0 + 1)).drop 1 = [] := by
 cases l <;> simp
theorem drop1_snoc {α : Type} {l : List α} {i : Nat} {x : α} (hi : 0 < i) (h : l[i]? = some x) : (l.take (i + 1)).drop 1 = (l.take i).drop 1 ++ [x] := by
 have hl := (List.getElem?_eq_some_iff.mp h).1
 rw [split_take h, List.drop_append_of_le_length (by rw [List.length_take]; omega)]
theorem any_off {α : Type} {l : List α} {p : α → Bool} {i : Nat} {x : α} (h : l[i]? = some x) (hp : p x = true) : l.any p = true := List.any_eq_true.mpr ⟨x, List.mem_of_getElem? h, hp⟩
end Go.Proofs.YtloheacncefkgaaGreatDoor

/- Layer 15 in plain words: a schema without one of its messages may be still, if no field of another names it. Conditions: those that each theorem names. -/
namespace Go.Proofs.YtloheacncefkgaaGreatDoor
open Go.RowKit
set_option linter.unusedVariables false

theorem firstBad_zero : ∀ {l : List Fd}, firstBad l = 0 ↔ ∀ f ∈ l, fcheckT f = 0
 | [] => by simp [firstBad]
 | f :: r => by
   rw [firstBad]
   by_cases h : fcheckT f = 0
   ·rw [if_pos h, firstBad_zero (l := r)]
    simp [h]
   ·rw [if_neg h]
    simp [h]
theorem check_parts {s : Sc} (h : checkT s = 0) : manyT s = false ∧ noneT s = false ∧ scTextT s = false ∧ fieldsT s = 0 ∧ twiceT s = false ∧ orderT s = false ∧ barredT s = false ∧ refsT s = false := by
 unfold checkT at h
 cases h1 : manyT s
 case true => rw [h1, if_pos rfl] at h; omega
 rw [h1, if_neg (by decide)] at h
 cases h2 : noneT s
 case true => rw [h2, if_pos rfl] at h; omega
 rw [h2, if_neg (by decide)] at h
 cases h3 : scTextT s
 case true => rw [h3, if_pos rfl] at h; omega
 rw [h3, if_neg (by decide)] at h
 by_cases h4 : fieldsT s = 0
 case neg => rw [if_pos h4] at h; exact absurd h h4
 rw [if_neg (fun e => e h4)] at h
 cases h5 : twiceT s
 case true => rw [h5, if_pos rfl] at h; omega
 rw [h5, if_neg (by decide)] at h
 cases h6 : orderT s
 case true => rw [h6, if_pos rfl] at h; omega
 rw [h6, if_neg (by decide)] at h
 cases h7 : barredT s
 case true => rw [h7, if_pos rfl] at h; omega
 rw [h7, if_neg (by decide)] at h
 cases h8 : refsT s
 case true => rw [h8, if_pos rfl] at h; omega
 exact ⟨rfl, rfl, rfl, h4, rfl, rfl, rfl, rfl⟩
end Go.Proofs.YtloheacncefkgaaGreatDoor

/- Which schemas are not too great, in plain words (no program here). -/
namespace Go.Proofs.YtloheacncefkgaaGreatDoor
set_option linter.unusedVariables false

def weighE (e : En) : Nat := e.values.length + e.name.length / 10
def weighM (m : Ms) : Nat := m.fields.length + m.barred.length + m.name.length / 10
def weigh (s : Sc) : Nat := (s.enums.length + s.msgs.length) + (s.enums.map weighE).sum + (s.msgs.map weighM).sum
def longV (v : Vl) : Bool := decide (1000 < v.name.length)
def longE (e : En) : Bool := e.values.any longV
def longF (f : Fd) : Bool := decide (1000 < f.name.length) || (decide (1000 < f.ref.length) || decide (1000 < f.one.length))
def longM (m : Ms) : Bool := m.fields.any longF
def smallT (s : Sc) : Bool := decide (weigh s < 200) && (!s.enums.any longE && !s.msgs.any longM)
theorem sum_snoc {α : Type} (l : List α) (f : α → Nat) (i : Nat) (x : α) (h : l[i]? = some x) : ((l.take (i + 1)).map f).sum = ((l.take i).map f).sum + f x := by
 rw [map_snoc l f i x h, List.sum_append]
 simp
theorem sum_take {α : Type} (l : List α) (f : α → Nat) (i : Nat) : ((l.take i).map f).sum ≤ (l.map f).sum := by
 have h : l.map f = (l.take i).map f ++ (l.drop i).map f := by rw [← List.map_append, List.take_append_drop]
 rw [h, List.sum_append]
 omega
theorem small_of {s : Sc} (h1 : weigh s < 200) (h2 : s.enums.any longE = false) (h3 : s.msgs.any longM = false) : smallT s = true := by unfold smallT; rw [decide_eq_true h1, h2, h3]; rfl
theorem small_no {s : Sc} (h : 200 ≤ weigh s) : smallT s = false := by unfold smallT; rw [decide_eq_false (by omega)]; rfl
theorem small_noE {s : Sc} (h : s.enums.any longE = true) : smallT s = false := by unfold smallT; rw [h]; simp
theorem small_noM {s : Sc} (h : s.msgs.any longM = true) : smallT s = false := by unfold smallT; rw [h]; simp
end Go.Proofs.YtloheacncefkgaaGreatDoor

/- Layer 16 in plain words (no program here): what is where in a schema. -/
namespace Go.Proofs.YtloheacncefkgaaGreatDoor
open Go.RowKit
set_option linter.unusedVariables false

def placeZ (l : List Int) (n : Int) : Int := if n ∈ l then (l.findIdx (fun x => decide (x = n)) : Int) else -1
theorem placeZ_hit {l : List Int} {n : Int} {i : Nat} (h : l[i]? = some n) (hn : ∀ (j : Nat) x, j < i → l[j]? = some x → x ≠ n) : placeZ l n = (i : Int) := by
 unfold placeZ
 rw [if_pos (List.mem_of_getElem? h)]
 have hi := (List.getElem?_eq_some_iff.mp h).1
 have : l.findIdx (fun x => decide (x = n)) = i := by
  rw [List.findIdx_eq hi]
  refine ⟨decide_eq_true (by have := List.getElem?_eq_getElem hi; rw [h] at this; exact (Option.some.inj this).symm), fun j hj => ?_⟩
  exact decide_eq_false (hn j _ hj (List.getElem?_eq_getElem (by omega)))
 rw [this]
theorem placeZ_miss {l : List Int} {n : Int} (hn : ∀ (j : Nat) x, l[j]? = some x → x ≠ n) : placeZ l n = -1 := by
 unfold placeZ
 rw [if_neg]
 intro h
 obtain ⟨j, hj, e⟩ := List.mem_iff_getElem.mp h
 exact hn j _ (List.getElem?_eq_getElem hj) e
def numAtT (m : Ms) (n : Int) : Int := placeZ (fNums m) n
end Go.Proofs.YtloheacncefkgaaGreatDoor

/- Schemas in memory: what is read, what came in. Conditions: those that each theorem names. -/
namespace Go.Proofs.YtloheacncefkgaaGreatDoor
open Go.RowKit Go.ChangeShapes Go.WideShapes
set_option linter.unusedVariables false
set_option maxRecDepth 100000

def vlR (w : World) (cs : List Value) (x : Vl) : Prop := cs = [.string (strOf x.name), .int .i64 x.num]
def fdCells (f : Fd) : List Value := [.string (strOf f.name), .int .i64 f.num, .int .i64 f.ty, .string (strOf f.ref), .bool f.rep, .bool f.loose, .string (strOf f.one)]
def fdR (w : World) (cs : List Value) (x : Fd) : Prop := cs = fdCells x
def inR (w : World) (cs : List Value) (x : Int) : Prop := cs = [.int .i64 x]
def enR (S : Nat → Nat → Prop) (w : World) (cs : List Value) (x : En) : Prop := ∃ A cap, cs = [.string (strOf x.name), .slice A x.values.length cap] ∧ Lst 2 (S 0) vlR w A cap x.values
def msR (S : Nat → Nat → Prop) (w : World) (cs : List Value) (x : Ms) : Prop := ∃ A cap A2 cap2, cs = [.string (strOf x.name), .slice A x.fields.length cap, .slice A2 x.barred.length cap2] ∧ Lst 7 (S 1) fdR w A cap x.fields ∧ Lst 1 (S 2) inR w A2 cap2 x.barred
def scR (S : Nat → Nat → Prop) (w : World) (cs : List Value) (x : Sc) : Prop := ∃ A cap A2 cap2, cs = [.slice A x.enums.length cap, .slice A2 x.msgs.length cap2] ∧ Lst 2 (S 3) (enR S) w A cap x.enums ∧ Lst 3 (S 4) (msR S) w A2 cap2 x.msgs
def lenM : Nat := 140737488351232
def VlOk (x : Vl) : Prop := Int64 x.num ∧ x.name.length ≤ lenM
def FdOk (f : Fd) : Prop := Int64 f.num ∧ Int64 f.ty ∧ f.name.length ≤ lenM ∧ f.ref.length ≤ lenM ∧ f.one.length ≤ lenM
def EnOk (x : En) : Prop := x.name.length ≤ lenM ∧ x.values.length ≤ lenM ∧ ∀ v ∈ x.values, VlOk v
def MsOk (x : Ms) : Prop := x.name.length ≤ lenM ∧ x.fields.length ≤ lenM ∧ x.barred.length ≤ lenM ∧ (∀ f ∈ x.fields, FdOk f) ∧ ∀ n ∈ x.barred, Int64 n
def ScOk (x : Sc) : Prop := x.enums.length ≤ lenM ∧ x.msgs.length ≤ lenM ∧ (∀ e ∈ x.enums, EnOk e) ∧ ∀ m ∈ x.msgs, MsOk m

section
variable {S S' : Nat → Nat → Prop} {w w' : World} {cs : List Value}
theorem vlR_keep : ∀ cs (x : Vl), vlR w cs x → vlR w' cs x := fun _ _ h => h
theorem fdR_keep : ∀ cs (x : Fd), fdR w cs x → fdR w' cs x := fun _ _ h => h
theorem inR_keep : ∀ cs (x : Int), inR w cs x → inR w' cs x := fun _ _ h => h
theorem enR_keep (hS : ∀ k g, S k g → S' k g) (hk : ∀ k (p : Addr), S k p.block → p.block < w.heap.size → w'.cell? p = w.cell? p) : ∀ cs (x : En), enR S w cs x → enR S' w' cs x :=
 fun cs x ⟨A, cap, e, h⟩ => ⟨A, cap, e, lst_keep h vlR_keep (hS 0) (hk 0)⟩
theorem msR_keep (hS : ∀ k g, S k g → S' k g) (hk : ∀ k (p : Addr), S k p.block → p.block < w.heap.size → w'.cell? p = w.cell? p) : ∀ cs (x : Ms), msR S w cs x → msR S' w' cs x :=
 fun cs x ⟨A, cap, A2, cap2, e, h, h2⟩ => ⟨A, cap, A2, cap2, e, lst_keep h fdR_keep (hS 1) (hk 1), lst_keep h2 inR_keep (hS 2) (hk 2)⟩
theorem bel_keep {T : Nat → Prop} (hb : Below w.heap.size w w') : ∀ p : Addr, T p.block → p.block < w.heap.size → w'.cell? p = w.cell? p := fun p _ hp => hb.cell hp
end

section
variable {H : Type} {enc : TypeId × Value → H} {w : World} {base : Nat} {spare : Nat → Bool} {held : Bool} {fuel : Nat} {cs : List Value} {x : DataW H × List MemPlace}
theorem cs_str : Tryz.prog.cellsOf 9 = 1 := by kernel_rfl
theorem cs_int : Tryz.prog.cellsOf 3 = 1 := by kernel_rfl
theorem cs_bool : Tryz.prog.cellsOf 4 = 1 := by kernel_rfl
theorem cs_Vl : Tryz.prog.cellsOf 59 = 2 := by kernel_rfl
theorem cs_Fd : Tryz.prog.cellsOf 44 = 7 := by kernel_rfl
theorem cs_En : Tryz.prog.cellsOf 53 = 2 := by kernel_rfl
theorem cs_Ms : Tryz.prog.cellsOf 57 = 3 := by kernel_rfl
theorem cs_Sc : Tryz.prog.cellsOf 25 = 2 := by kernel_rfl
theorem cs_lVl : Tryz.prog.cellsOf 51 = 1 := by kernel_rfl
theorem by_Vl : 1 ≤ Tryz.prog.bytesOf 59 := of_decide_eq_true (by kernel_rfl)
theorem cs_lFd : Tryz.prog.cellsOf 54 = 1 := by kernel_rfl
theorem by_Fd : 1 ≤ Tryz.prog.bytesOf 44 := of_decide_eq_true (by kernel_rfl)
theorem cs_lEn : Tryz.prog.cellsOf 22 = 1 := by kernel_rfl
theorem by_En : 1 ≤ Tryz.prog.bytesOf 53 := of_decide_eq_true (by kernel_rfl)
theorem cs_lMs : Tryz.prog.cellsOf 23 = 1 := by kernel_rfl
theorem by_Ms : 1 ≤ Tryz.prog.bytesOf 57 := of_decide_eq_true (by kernel_rfl)
theorem cs_lIn : Tryz.prog.cellsOf 55 = 1 := by kernel_rfl
theorem by_In : 1 ≤ Tryz.prog.bytesOf 3 := of_decide_eq_true (by kernel_rfl)
theorem str_data (s : ByteArray) : s = strOf s.data.toList := by cases s; simp [strOf]
theorem len_all {P : Program} {e : TypeId} {y : DataW H} {n : Nat} (h : ∀ n ∈ y.weights P e, n ≤ lenM) (he : y.weights P e = [n]) : n ≤ lenM := h n (by rw [he]; simp)
theorem in_came : ∀ fuel cs (x : DataW H × List MemPlace), DataW.trod enc Tryz.prog w base spare held fuel 3 cs = some x → (∀ n ∈ x.1.weights Tryz.prog 3, n ≤ lenM) → ∃ v : Int, inR w cs v ∧ Int64 v := by
 intro fuel cs x h _
 obtain ⟨n, q, z, ww⟩ := DataW.trod_int Tryz.underlying3 h
 exact ⟨n, q, i64_came ww⟩
theorem vl_came : ∀ fuel cs (x : DataW H × List MemPlace), DataW.trod enc Tryz.prog w base spare held fuel 59 cs = some x → (∀ n ∈ x.1.weights Tryz.prog 59, n ≤ lenM) → ∃ v : Vl, vlR w cs v ∧ VlOk v := by
 intro fuel cs x h hz
 obtain ⟨ys, m, _, rfl, hl, hn, he⟩ := DataW.trod_struct Tryz.underlying59 h
 rw [cs_Vl] at hl
 match cs, hl, ys, hn with
 | [v0, v1], _, [y0, y1], _ =>
   have hw : ∀ n ∈ DataW.weightsEach Tryz.prog [9, 3] [y0.1, y1.1], n ≤ lenM := by
    intro n hn
    apply hz
    simp only [DataW.weights, Tryz.underlying59]
    exact hn
   have g0 : DataW.trod enc Tryz.prog w base spare held m 9 (([v0, v1].drop 0).take (Tryz.prog.cellsOf 9)) = some y0 := he 0 _ rfl
   have w0 : ∀ n ∈ y0.1.weights Tryz.prog 9, n ≤ lenM := fun n hn => hw n (DataW.weights_mem_each (j := 0) rfl rfl n hn)
   rw [cs_str] at g0
   have g1 : DataW.trod enc Tryz.prog w base spare held m 3 (([v0, v1].drop 1).take (Tryz.prog.cellsOf 3)) = some y1 := he 1 _ rfl
   have w1 : ∀ n ∈ y1.1.weights Tryz.prog 3, n ≤ lenM := fun n hn => hw n (DataW.weights_mem_each (j := 1) rfl rfl n hn)
   rw [cs_int] at g1
   simp only [List.drop_zero, List.drop_succ_cons, List.take_succ_cons, List.take_zero] at g0 g1
   obtain ⟨s0, q0, z0, _⟩ := DataW.trod_string Tryz.underlying9 g0
   have b0 : s0.data.toList.length ≤ lenM := len_all w0 (by rw [z0]; rfl)
   obtain ⟨s1, q1, z1, b1⟩ := DataW.trod_int Tryz.underlying3 g1
   simp only [List.cons.injEq, and_true] at q0 q1
   subst q0 q1
   exact ⟨⟨s0.data.toList, s1⟩, by unfold vlR; rw [← str_data], i64_came b1, b0⟩

theorem fd_came : ∀ fuel cs (x : DataW H × List MemPlace), DataW.trod enc Tryz.prog w base spare held fuel 44 cs = some x → (∀ n ∈ x.1.weights Tryz.prog 44, n ≤ lenM) → ∃ v : Fd, fdR w cs v ∧ FdOk v := by
 intro fuel cs x h hz
 obtain ⟨ys, m, _, rfl, hl, hn, he⟩ := DataW.trod_struct Tryz.underlying44 h
 rw [cs_Fd] at hl
 match cs, hl, ys, hn with
 | [v0, v1, v2, v3, v4, v5, v6], _, [y0, y1, y2, y3, y4, y5, y6], _ =>
   have hw : ∀ n ∈ DataW.weightsEach Tryz.prog [9, 3, 3, 9, 4, 4, 9] [y0.1, y1.1, y2.1, y3.1, y4.1, y5.1, y6.1], n ≤ lenM := by
    intro n hn
    apply hz
    simp only [DataW.weights, Tryz.underlying44]
    exact hn
   have g0 : DataW.trod enc Tryz.prog w base spare held m 9 (([v0, v1, v2, v3, v4, v5, v6].drop 0).take (Tryz.prog.cellsOf 9)) = some y0 := he 0 _ rfl
   have w0 : ∀ n ∈ y0.1.weights Tryz.prog 9, n ≤ lenM := fun n hn => hw n (DataW.weights_mem_each (j := 0) rfl rfl n hn)
   rw [cs_str] at g0
   have g1 : DataW.trod enc Tryz.prog w base spare held m 3 (([v0, v1, v2, v3, v4, v5, v6].drop 1).take (Tryz.prog.cellsOf 3)) = some y1 := he 1 _ rfl
   have w1 : ∀ n ∈ y1.1.weights Tryz.prog 3, n ≤ lenM := fun n hn => hw n (DataW.weights_mem_each (j := 1) rfl rfl n hn)
   rw [cs_int] at g1
   have g2 : DataW.trod enc Tryz.prog w base spare held m 3 (([v0, v1, v2, v3, v4, v5, v6].drop 2).take (Tryz.prog.cellsOf 3)) = some y2 := he 2 _ rfl
   have w2 : ∀ n ∈ y2.1.weights Tryz.prog 3, n ≤ lenM := fun n hn => hw n (DataW.weights_mem_each (j := 2) rfl rfl n hn)
   rw [cs_int] at g2
   have g3 : DataW.trod enc Tryz.prog w base spare held m 9 (([v0, v1, v2, v3, v4, v5, v6].drop 3).take (Tryz.prog.cellsOf 9)) = some y3 := he 3 _ rfl
   have w3 : ∀ n ∈ y3.1.weights Tryz.prog 9, n ≤ lenM := fun n hn => hw n (DataW.weights_mem_each (j := 3) rfl rfl n hn)
   rw [cs_str] at g3
   have g4 : DataW.trod enc Tryz.prog w base spare held m 4 (([v0, v1, v2, v3, v4, v5, v6].drop 4).take (Tryz.prog.cellsOf 4)) = some y4 := he 4 _ rfl
   have w4 : ∀ n ∈ y4.1.weights Tryz.prog 4, n ≤ lenM := fun n hn => hw n (DataW.weights_mem_each (j := 4) rfl rfl n hn)
   rw [cs_bool] at g4
   have g5 : DataW.trod enc Tryz.prog w base spare held m 4 (([v0, v1, v2, v3, v4, v5, v6].drop 5).take (Tryz.prog.cellsOf 4)) = some y5 := he 5 _ rfl
   have w5 : ∀ n ∈ y5.1.weights Tryz.prog 4, n ≤ lenM := fun n hn => hw n (DataW.weights_mem_each (j := 5) rfl rfl n hn)
   rw [cs_bool] at g5
   have g6 : DataW.trod enc Tryz.prog w base spare held m 9 (([v0, v1, v2, v3, v4, v5, v6].drop 6).take (Tryz.prog.cellsOf 9)) = some y6 := he 6 _ rfl
   have w6 : ∀ n ∈ y6.1.weights Tryz.prog 9, n ≤ lenM := fun n hn => hw n (DataW.weights_mem_each (j := 6) rfl rfl n hn)
   rw [cs_str] at g6
   simp only [List.drop_zero, List.drop_succ_cons, List.take_succ_cons, List.take_zero] at g0 g1 g2 g3 g4 g5 g6
   obtain ⟨s0, q0, z0, _⟩ := DataW.trod_string Tryz.underlying9 g0
   have b0 : s0.data.toList.length ≤ lenM := len_all w0 (by rw [z0]; rfl)
   obtain ⟨s1, q1, z1, b1⟩ := DataW.trod_int Tryz.underlying3 g1
   obtain ⟨s2, q2, z2, b2⟩ := DataW.trod_int Tryz.underlying3 g2
   obtain ⟨s3, q3, z3, _⟩ := DataW.trod_string Tryz.underlying9 g3
   have b3 : s3.data.toList.length ≤ lenM := len_all w3 (by rw [z3]; rfl)
   obtain ⟨s4, q4, z4⟩ := DataW.trod_bool Tryz.underlying4 g4
   obtain ⟨s5, q5, z5⟩ := DataW.trod_bool Tryz.underlying4 g5
   obtain ⟨s6, q6, z6, _⟩ := DataW.trod_string Tryz.underlying9 g6
   have b6 : s6.data.toList.length ≤ lenM := len_all w6 (by rw [z6]; rfl)
   simp only [List.cons.injEq, and_true] at q0 q1 q2 q3 q4 q5 q6
   subst q0 q1 q2 q3 q4 q5 q6
   exact ⟨⟨s0.data.toList, s1, s2, s3.data.toList, s4, s5, s6.data.toList⟩, by unfold fdR fdCells; rw [← str_data, ← str_data, ← str_data], i64_came b1, i64_came b2, b0, b3, b6⟩

instance : Inhabited Vl := ⟨⟨[], 0⟩⟩
instance : Inhabited Fd := ⟨⟨[], 0, 0, [], false, false, []⟩⟩
instance : Inhabited En := ⟨⟨[], []⟩⟩
instance : Inhabited Ms := ⟨⟨[], [], []⟩⟩
theorem en_came : ∀ fuel cs (x : DataW H × List MemPlace), DataW.trod enc Tryz.prog w base spare held fuel 53 cs = some x → (∀ n ∈ x.1.weights Tryz.prog 53, n ≤ lenM) → ∃ v : En, enR (fun _ g => g < w.heap.size) w cs v ∧ EnOk v := by
 intro fuel cs x h hz
 obtain ⟨ys, m, _, rfl, hl, hn, he⟩ := DataW.trod_struct Tryz.underlying53 h
 rw [cs_En] at hl
 match cs, hl, ys, hn with
 | [v0, v1], _, [y0, y1], _ =>
   have hw : ∀ n ∈ DataW.weightsEach Tryz.prog [9, 51] [y0.1, y1.1], n ≤ lenM := by
    intro n hn
    apply hz
    simp only [DataW.weights, Tryz.underlying53]
    exact hn
   have g0 : DataW.trod enc Tryz.prog w base spare held m 9 (([v0, v1].drop 0).take (Tryz.prog.cellsOf 9)) = some y0 := he 0 _ rfl
   have w0 : ∀ n ∈ y0.1.weights Tryz.prog 9, n ≤ lenM := fun n hn => hw n (DataW.weights_mem_each (j := 0) rfl rfl n hn)
   rw [cs_str] at g0
   have g1 : DataW.trod enc Tryz.prog w base spare held m 51 (([v0, v1].drop 1).take (Tryz.prog.cellsOf 51)) = some y1 := he 1 _ rfl
   have w1 : ∀ n ∈ y1.1.weights Tryz.prog 51, n ≤ lenM := fun n hn => hw n (DataW.weights_mem_each (j := 1) rfl rfl n hn)
   rw [cs_lVl] at g1
   simp only [List.drop_zero, List.drop_succ_cons, List.take_succ_cons, List.take_zero] at g0 g1
   obtain ⟨s0, q0, z0, _⟩ := DataW.trod_string Tryz.underlying9 g0
   have b0 : s0.data.toList.length ≤ lenM := len_all w0 (by rw [z0]; rfl)
   obtain ⟨s1, A1, cap1, q1, b1, c1, d1⟩ := lst_came (k := 2) (M := lenM) Tryz.underlying51 cs_Vl (by decide) by_Vl vl_came g1 w1
   simp only [List.cons.injEq, and_true] at q0 q1
   subst q0 q1
   exact ⟨⟨s0.data.toList, s1⟩, ⟨A1, cap1, by rw [← str_data], b1⟩, b0, d1, c1⟩

theorem ms_came : ∀ fuel cs (x : DataW H × List MemPlace), DataW.trod enc Tryz.prog w base spare held fuel 57 cs = some x → (∀ n ∈ x.1.weights Tryz.prog 57, n ≤ lenM) → ∃ v : Ms, msR (fun _ g => g < w.heap.size) w cs v ∧ MsOk v := by
 intro fuel cs x h hz
 obtain ⟨ys, m, _, rfl, hl, hn, he⟩ := DataW.trod_struct Tryz.underlying57 h
 rw [cs_Ms] at hl
 match cs, hl, ys, hn with
 | [v0, v1, v2], _, [y0, y1, y2], _ =>
   have hw : ∀ n ∈ DataW.weightsEach Tryz.prog [9, 54, 55] [y0.1, y1.1, y2.1], n ≤ lenM := by
    intro n hn
    apply hz
    simp only [DataW.weights, Tryz.underlying57]
    exact hn
   have g0 : DataW.trod enc Tryz.prog w base spare held m 9 (([v0, v1, v2].drop 0).take (Tryz.prog.cellsOf 9)) = some y0 := he 0 _ rfl
   have w0 : ∀ n ∈ y0.1.weights Tryz.prog 9, n ≤ lenM := fun n hn => hw n (DataW.weights_mem_each (j := 0) rfl rfl n hn)
   rw [cs_str] at g0
   have g1 : DataW.trod enc Tryz.prog w base spare held m 54 (([v0, v1, v2].drop 1).take (Tryz.prog.cellsOf 54)) = some y1 := he 1 _ rfl
   have w1 : ∀ n ∈ y1.1.weights Tryz.prog 54, n ≤ lenM := fun n hn => hw n (DataW.weights_mem_each (j := 1) rfl rfl n hn)
   rw [cs_lFd] at g1
   have g2 : DataW.trod enc Tryz.prog w base spare held m 55 (([v0, v1, v2].drop 2).take (Tryz.prog.cellsOf 55)) = some y2 := he 2 _ rfl
   have w2 : ∀ n ∈ y2.1.weights Tryz.prog 55, n ≤ lenM := fun n hn => hw n (DataW.weights_mem_each (j := 2) rfl rfl n hn)
   rw [cs_lIn] at g2
   simp only [List.drop_zero, List.drop_succ_cons, List.take_succ_cons, List.take_zero] at g0 g1 g2
   obtain ⟨s0, q0, z0, _⟩ := DataW.trod_string Tryz.underlying9 g0
   have b0 : s0.data.toList.length ≤ lenM := len_all w0 (by rw [z0]; rfl)
   obtain ⟨s1, A1, cap1, q1, b1, c1, d1⟩ := lst_came (k := 7) (M := lenM) Tryz.underlying54 cs_Fd (by decide) by_Fd fd_came g1 w1
   obtain ⟨s2, A2, cap2, q2, b2, c2, d2⟩ := lst_came (k := 1) (M := lenM) Tryz.underlying55 cs_int (by decide) by_In in_came g2 w2
   simp only [List.cons.injEq, and_true] at q0 q1 q2
   subst q0 q1 q2
   exact ⟨⟨s0.data.toList, s1, s2⟩, ⟨A1, cap1, A2, cap2, by rw [← str_data], b1, b2⟩, b0, d1, d2, c1, c2⟩

theorem sc_came : ∀ fuel cs (x : DataW H × List MemPlace), DataW.trod enc Tryz.prog w base spare held fuel 25 cs = some x → (∀ n ∈ x.1.weights Tryz.prog 25, n ≤ lenM) → ∃ v : Sc, scR (fun _ g => g < w.heap.size) w cs v ∧ ScOk v := by
 intro fuel cs x h hz
 obtain ⟨ys, m, _, rfl, hl, hn, he⟩ := DataW.trod_struct Tryz.underlying25 h
 rw [cs_Sc] at hl
 match cs, hl, ys, hn with
 | [v0, v1], _, [y0, y1], _ =>
   have hw : ∀ n ∈ DataW.weightsEach Tryz.prog [22, 23] [y0.1, y1.1], n ≤ lenM := by
    intro n hn
    apply hz
    simp only [DataW.weights, Tryz.underlying25]
    exact hn
   have g0 : DataW.trod enc Tryz.prog w base spare held m 22 (([v0, v1].drop 0).take (Tryz.prog.cellsOf 22)) = some y0 := he 0 _ rfl
   have w0 : ∀ n ∈ y0.1.weights Tryz.prog 22, n ≤ lenM := fun n hn => hw n (DataW.weights_mem_each (j := 0) rfl rfl n hn)
   rw [cs_lEn] at g0
   have g1 : DataW.trod enc Tryz.prog w base spare held m 23 (([v0, v1].drop 1).take (Tryz.prog.cellsOf 23)) = some y1 := he 1 _ rfl
   have w1 : ∀ n ∈ y1.1.weights Tryz.prog 23, n ≤ lenM := fun n hn => hw n (DataW.weights_mem_each (j := 1) rfl rfl n hn)
   rw [cs_lMs] at g1
   simp only [List.drop_zero, List.drop_succ_cons, List.take_succ_cons, List.take_zero] at g0 g1
   obtain ⟨s0, A0, cap0, q0, b0, c0, d0⟩ := lst_came (k := 2) (M := lenM) Tryz.underlying22 cs_En (by decide) by_En en_came g0 w0
   obtain ⟨s1, A1, cap1, q1, b1, c1, d1⟩ := lst_came (k := 3) (M := lenM) Tryz.underlying23 cs_Ms (by decide) by_Ms ms_came g1 w1
   simp only [List.cons.injEq, and_true] at q0 q1
   subst q0 q1
   exact ⟨⟨s0, s1⟩, ⟨A0, cap0, A1, cap1, rfl, b0, b1⟩, d0, d1, c0, c1⟩

end
end Go.Proofs.YtloheacncefkgaaGreatDoor

/- Schemas in memory, as the walks ask for them: a schema that was handed over, one thing of a list, the box that a call keeps it in. Conditions: those that each theorem names. -/
namespace Go.Proofs.YtloheacncefkgaaGreatDoor
open Go.RowKit
set_option linter.unusedVariables false
set_option maxRecDepth 100000

/-- A schema as it is handed over. -/
structure ScAt (S : Nat → Nat → Prop) (w : World) (A : Option Addr) (n cap : Nat) (A2 : Option Addr) (n2 cap2 : Nat) (s : Sc) : Prop where
 s_e : Lst 2 (S 3) (enR S) w A cap s.enums
 s_m : Lst 3 (S 4) (msR S) w A2 cap2 s.msgs
 s_ne : n = s.enums.length
 s_nm : n2 = s.msgs.length
theorem scAt_bel {S : Nat → Nat → Prop} {w w' : World} {A A2 : Option Addr} {n cap n2 cap2 : Nat} {s : Sc} (h : ScAt S w A n cap A2 n2 cap2 s) (hb : Below w.heap.size w w') : ScAt S w' A n cap A2 n2 cap2 s :=
 ⟨lst_keep h.s_e (enR_keep (fun _ _ h => h) (fun _ => bel_keep hb)) (fun _ h => h) (bel_keep hb), lst_keep h.s_m (msR_keep (fun _ _ h => h) (fun _ => bel_keep hb)) (fun _ h => h) (bel_keep hb), h.s_ne, h.s_nm⟩
theorem scAt_max {S : Nat → Nat → Prop} {w : World} {A A2 : Option Addr} {n cap n2 cap2 : Nat} {s : Sc} (h : ScAt S w A n cap A2 n2 cap2 s) : n ≤ cap ∧ cap ≤ 9223372036854775807 ∧ n2 ≤ cap2 ∧ cap2 ≤ 9223372036854775807 := by
 have h1 := h.s_e.l_le
 have h2 := h.s_e.l_max
 have h3 := h.s_m.l_le
 have h4 := h.s_m.l_max
 unfold maxLen at h2 h4
 rw [← h.s_ne] at h1
 rw [← h.s_nm] at h3
 exact ⟨h1, h2, h3, h4⟩

/-- The call's own box stands as it was made; all that is older is as it was. -/
structure Bx (w wr : World) (o : Obj) : Prop where
 b_bel : Below w.heap.size w wr
 b_blk : wr.heap[w.heap.size]? = some o
theorem bx_start (w : World) (cs : Array Value) (t : TypeId) : Bx w (w.alloc (.cells cs t)) (.cells cs t (0, 0)) := ⟨(Below.refl _ w).alloc (Nat.le_refl _) _, heap_alloc_new w _⟩
theorem bx_step {w wr w2 : World} {o : Obj} (h : Bx w wr o) (hb : Below wr.heap.size wr w2) : Bx w w2 o := ⟨h.b_bel.trans (hb.mono h.b_bel.size), (hb.block _ (lt_of_block h.b_blk)).trans h.b_blk⟩
theorem drewN_under (w : World) (n : Nat) : Below w.heap.size w (w.drewN n) := ⟨rfl, rfl, rfl, Nat.le_refl _, fun _ _ => rfl⟩
theorem bx_drew {w wr : World} {o : Obj} (h : Bx w wr o) (k : Nat) : Bx w (wr.drewN k) o := bx_step h (drewN_under wr k)
theorem cell_under {w wr : World} {p : Addr} {v : Value} (hb : Below w.heap.size w wr) (h : w.cell? p = some v) : wr.cell? p = some v := (hb.cell (World.block_lt_of_cell? w _ h)).trans h
section
variable {S : Nat → Prop} {w : World} {A : Option Addr} {cap i : Nat}
theorem vl_at {l : List Vl} {x : Vl} (h : Lst 2 S vlR w A cap l) (hi : l[i]? = some x) : ∃ g off, A = some ⟨g, off, none⟩ ∧ S g ∧ ∀ wr, Below w.heap.size w wr → wr.cell? ⟨g, off + i * 2, none⟩ = some (.string (strOf x.name)) ∧ wr.cell? ⟨g, off + i * 2 + 1, none⟩ = some (.int .i64 x.num) := by
 obtain ⟨g, off, cs, e, hs, _, rfl, hc⟩ := h.l_at i x hi
 exact ⟨g, off, e, hs, fun wr hb => ⟨cell_under hb (hc 0 _ rfl), cell_under hb (hc 1 _ rfl)⟩⟩
theorem fd_at {l : List Fd} {x : Fd} (h : Lst 7 S fdR w A cap l) (hi : l[i]? = some x) : ∃ g off, A = some ⟨g, off, none⟩ ∧ S g ∧ ∀ wr, Below w.heap.size w wr → wr.cell? ⟨g, off + i * 7, none⟩ = some (.string (strOf x.name)) ∧ wr.cell? ⟨g, off + i * 7 + 1, none⟩ = some (.int .i64 x.num) ∧ wr.cell? ⟨g, off + i * 7 + 2, none⟩ = some (.int .i64 x.ty) ∧ wr.cell? ⟨g, off + i * 7 + 3, none⟩ = some (.string (strOf x.ref)) ∧ wr.cell? ⟨g, off + i * 7 + 4, none⟩ = some (.bool x.rep) ∧ wr.cell? ⟨g, off + i * 7 + 5, none⟩ = some (.bool x.loose) ∧ wr.cell? ⟨g, off + i * 7 + 6, none⟩ = some (.string (strOf x.one)) := by
 obtain ⟨g, off, cs, e, hs, _, rfl, hc⟩ := h.l_at i x hi
 exact ⟨g, off, e, hs, fun wr hb => ⟨cell_under hb (hc 0 _ rfl), cell_under hb (hc 1 _ rfl), cell_under hb (hc 2 _ rfl), cell_under hb (hc 3 _ rfl), cell_under hb (hc 4 _ rfl), cell_under hb (hc 5 _ rfl), cell_under hb (hc 6 _ rfl)⟩⟩
theorem in_at {l : List Int} {x : Int} (h : Lst 1 S inR w A cap l) (hi : l[i]? = some x) : ∃ g off, A = some ⟨g, off, none⟩ ∧ S g ∧ ∀ wr, Below w.heap.size w wr → wr.cell? ⟨g, off + i, none⟩ = some (.int .i64 x) := by
 obtain ⟨g, off, cs, e, hs, _, rfl, hc⟩ := h.l_at i x hi
 exact ⟨g, off, e, hs, fun wr hb => cell_under hb (by have := hc 0 _ rfl; rwa [Nat.mul_one] at this)⟩
theorem en_at {S : Nat → Nat → Prop} {l : List En} {x : En} (h : Lst 2 (S 3) (enR S) w A cap l) (hi : l[i]? = some x) : ∃ g off A1 cap1, A = some ⟨g, off, none⟩ ∧ S 3 g ∧ (∀ wr, Below w.heap.size w wr → wr.cell? ⟨g, off + i * 2, none⟩ = some (.string (strOf x.name)) ∧ wr.cell? ⟨g, off + i * 2 + 1, none⟩ = some (.slice A1 x.values.length cap1)) ∧ Lst 2 (S 0) vlR w A1 cap1 x.values := by
 obtain ⟨g, off, cs, e, hs, _, ⟨A1, cap1, rfl, h1⟩, hc⟩ := h.l_at i x hi
 exact ⟨g, off, A1, cap1, e, hs, fun wr hb => ⟨cell_under hb (hc 0 _ rfl), cell_under hb (hc 1 _ rfl)⟩, h1⟩
theorem ms_at {S : Nat → Nat → Prop} {l : List Ms} {x : Ms} (h : Lst 3 (S 4) (msR S) w A cap l) (hi : l[i]? = some x) : ∃ g off A1 cap1 A2 cap2, A = some ⟨g, off, none⟩ ∧ S 4 g ∧ (∀ wr, Below w.heap.size w wr → wr.cell? ⟨g, off + i * 3, none⟩ = some (.string (strOf x.name)) ∧ wr.cell? ⟨g, off + i * 3 + 1, none⟩ = some (.slice A1 x.fields.length cap1) ∧ wr.cell? ⟨g, off + i * 3 + 2, none⟩ = some (.slice A2 x.barred.length cap2)) ∧ Lst 7 (S 1) fdR w A1 cap1 x.fields ∧ Lst 1 (S 2) inR w A2 cap2 x.barred := by
 obtain ⟨g, off, cs, e, hs, _, ⟨A1, cap1, A2, cap2, rfl, h1, h2⟩, hc⟩ := h.l_at i x hi
 exact ⟨g, off, A1, cap1, A2, cap2, e, hs, fun wr hb => ⟨cell_under hb (hc 0 _ rfl), cell_under hb (hc 1 _ rfl), cell_under hb (hc 2 _ rfl)⟩, h1, h2⟩
end
end Go.Proofs.YtloheacncefkgaaGreatDoor

/- append of numbers onto a row of numbers of the call's own. Conditions: those that each theorem names. -/
namespace Go.Proofs.YtloheacncefkgaaGreatDoor
open Go.RowKit
set_option linter.unusedVariables false
set_option maxRecDepth 100000

/-- The cells of numbers. -/
def zcell (x : Int) : List Value := [.int .i64 x]
def zs (l : List Int) : List Value := l.flatMap zcell
theorem zcell_length (x : Int) : (zcell x).length = 1 := rfl
theorem zs_length (l : List Int) : (zs l).length = l.length := by
 have := flat_length zcell 1 zcell_length l
 unfold zs
 omega
theorem zs_append (a b : List Int) : zs (a ++ b) = zs a ++ zs b := by simp [zs]
theorem zs_one (l : List Int) : ∀ u ∈ zs l, u.oneCell' = true := by
 intro u hu
 obtain ⟨x, _, hx⟩ := List.mem_flatMap.1 hu
 simp [zcell] at hx
 subst hx
 rfl
theorem info_int1 : (Tryz.prog.info? 3).map (fun i => (i.zero, i.size, i.bytes)) = some (some (.int .i64 0), 1, 8) := by kernel_rfl
theorem own0_int (w : World) : (w.alloc (.cells #[] 3)).ownsRow w.heap.size 3 1 (.slice (some ⟨w.heap.size, 0, none⟩) 0 0) 0 (zs []) :=
 World.ownsRow_made w #[] 0 (Nat.le_refl _) (by decide) rfl
/-- A literal list of one number. -/
theorem sl_int1 (w : World) (t : TypeId) (x : Int) : Sl (w.alloc (.cells #[.int .i64 x] t)) (some ⟨w.heap.size, 0, none⟩) 1 (zs [x]) := by
 refine ⟨Nat.le_refl _, by decide, (fun h => by cases h), fun j u hj => ⟨_, _, rfl, ?_⟩⟩
 rw [cell_of_row _ w.heap.size (0 + j) _ t (0, 0) (heap_alloc_new w _), Nat.zero_add, ← Array.getElem?_toList]
 exact hj
theorem wpList_append_zs {w : World} {ops : Array Oper} {rest : List Oper} {o : Oper} {a : Act} {Q : Exit → Act → World → Prop} (hgd : o.guard = none) (s x : Operand)
 (ho : o.op = .call { callee := .builtin .append, args := #[s, x], argTypes := #[55, 55] })
 (base : Nat) (v : Value) (n : Nat) (pre : List Int) (hs : a.eval s = v) (hown : w.ownsRow base 3 1 v n (zs pre))
 (A : Option Addr) (m c : Nat) (bs : List Int) (hx : a.eval x = .slice A m c) (hm : m = bs.length) (hb : Sl w A c (zs bs))
 (h47 : pre.length + bs.length ≤ 1000000) (hbase : base ≤ w.heap.size)
 (h : ∀ v' w', w'.ownsRow base 3 1 v' (pre.length + bs.length) (zs (pre ++ bs)) → w.grownBy w' v.ownBlock → wpList Tryz.prog ops Q rest (a.put o.dst v') w') : wpList Tryz.prog ops Q (o :: rest) a w := by
 obtain ⟨i, hi, hz, hsize, hby⟩ := info_parts info_int1
 subst hm
 obtain ⟨hn, _⟩ := Sl.own hown
 rw [zs_length] at hn
 subst hn
 rcases A with _ | ad
 ·have h0 := hb.nil rfl
  have hle := hb.le
  rw [zs_length] at hle
  have hbs : bs = [] := List.eq_nil_of_length_eq_zero (by omega)
  subst hbs h0
  refine wpList_plain hgd fun K hK' => ?_
  have hrun := run_append_owned_none (P := Tryz.prog) w base 55 o.type 3 i 1 Tryz.underlying55 hi v pre.length (zs pre) hown
  unfold Oper.wp
  simp [execOp, ho, resolve, invoke, builtin, hs, hx, hrun, Result.andThen]
  exact hK' _ _ (h v w (by simpa using hown) (World.grownBy.refl _ _))
 ·exact wpList_append_own w hgd s x 55 ho base 3 i (.int .i64 0) 1 8 Tryz.underlying55 hi hz hsize hby rfl (by decide) v pre.length (zs pre) hs hown ad bs.length c (zs bs) hx
   (by rw [zs_length]; omega) (fun j u hu => by
    obtain ⟨bl, off, ea, hcell⟩ := hb.at_ j u hu
    cases ea
    have hplain : (⟨bl, off, none⟩ : Addr).add j = ⟨bl, off + j, none⟩ := by unfold Addr.add; split <;> simp_all
    rw [hplain]; exact hcell) (zs_one bs) (by unfold maxLen; omega) (by omega) hbase (fun v' w' h1 h2 _ => h v' w' (by rw [zs_append]; exact h1) h2)
/-- Such a row as a list of numbers. -/
theorem zs_own {w : World} {base n : Nat} {v : Value} {l : List Int} (h : w.ownsRow base 3 1 v n (zs l)) : n = l.length ∧ ∃ A cap, v = .slice A l.length cap ∧ Lst 1 (fun g => base ≤ g ∧ g < w.heap.size) inR w A cap l :=
 lst_own (R := inR) (by decide) zcell_length (fun x _ => rfl) h
end Go.Proofs.YtloheacncefkgaaGreatDoor

/- The document's layer 15: too many, none. Conditions: those that each theorem names. -/
namespace Go.Proofs.YtloheacncefkgaaGreatDoor
open Go.RowKit
set_option linter.unusedVariables false
set_option maxRecDepth 100000

theorem nat_eqz (k : Nat) : ((k : Int) == 0) = decide (k = 0) := by
 rw [Bool.eq_iff_iff, beq_iff_eq, decide_eq_true_iff]
 omega

set_option maxHeartbeats 4000000 in
theorem rvmany_any {S : Nat → Nat → Prop} (w : World) {A A2 : Option Addr} {n cap n2 cap2 : Nat} {s : Sc} (h : ScAt S w A n cap A2 n2 cap2 s) :
 Calls Tryz.prog 18 #[.agg #[.slice A n cap, .slice A2 n2 cap2]] w fun e w' => e = .returned (.bool (manyT s)) ∧ Below w.heap.size w w' := by
 obtain ⟨m1, m2, m3, m4⟩ := scAt_max h
 have H := Lib.hid h
 have HBX := Lib.hid (bx_start w #[.slice A n cap, .slice A2 n2 cap2] 25)
 obtain ⟨hd, hhd⟩ : ∃ hd, hd = (decide (3 < n) || decide (6 < n2)) := ⟨_, rfl⟩
 have HV : Hid (manyT s = ((hd || s.enums.any manyE) || s.msgs.any manyM)) := Lib.hid (by rw [hhd, h.s_ne, h.s_nm]; rfl)
 have hways : (decide ((n : Int) > 3) = true ∧ hd = true) ∨ (decide ((n : Int) > 3) = false ∧ decide ((n2 : Int) > 6) = true ∧ hd = true) ∨ (decide ((n : Int) > 3) = false ∧ decide ((n2 : Int) > 6) = false ∧ hd = false) := by
  by_cases h1 : 3 < n
  ·exact .inl ⟨decide_eq_true (by omega), by rw [hhd, decide_eq_true h1]; rfl⟩
  ·by_cases h2 : 6 < n2
   ·exact .inr (.inl ⟨decide_eq_false (by omega), decide_eq_true (by omega), by rw [hhd, decide_eq_true h2]; simp⟩)
   ·exact .inr (.inr ⟨decide_eq_false (by omega), decide_eq_false (by omega), by rw [hhd, decide_eq_false h1, decide_eq_false h2]; rfl⟩)
 clear h hhd
 have r0 := obj_cell (HBX.out).b_blk 0
 have r1 := obj_cell (HBX.out).b_blk 1
 rcases hways with ⟨k1, e1⟩ | ⟨k1, k2, e1⟩ | ⟨k1, k2, e1⟩
 all_goals
  have HE1 := Lib.hid e1
  clear e1
  go_enter Tryz.func18, Tryz.ntmps18
  go_wp2
  clear r0 r1
  go_loopg [3, 4] n (fun gz x0 x1 wr => ∃ i : Nat, x1 = .int .i64 (i : Int) ∧ i + gz = n ∧ x0 = .bool (hd || (s.enums.take i).any manyE) ∧ Bx w wr (.cells #[.slice A n cap, .slice A2 n2 cap2] 25 (0, 0)))
  case atStart => exact ⟨0, rfl, by omega, by rw [HE1.out]; rfl, HBX.out⟩
  case round =>
   obtain ⟨i, rfl, hi, rfl, hbx⟩ := hrel
   have HBX := Lib.hid hbx
   clear hbx
   have r0 := obj_cell (HBX.out).b_blk 0
   have r1 := obj_cell (HBX.out).b_blk 1
   obtain ⟨g0, hg0⟩ : ∃ g0, g0 = gk := ⟨_, rfl⟩
   subst hg0
   by_cases hlti : i < n
   ·have ti : decide ((i : Int) < (n : Int)) = true := decide_eq_true (by omega)
    obtain ⟨x, hx⟩ : ∃ x, s.enums[i]? = some x := ⟨_, List.getElem?_eq_getElem (by have := H.out.s_ne; omega)⟩
    have HXI := Lib.hid hx
    obtain ⟨ge, oe, A1, cap1, rfl, _, hc, hl⟩ := en_at H.out.s_e hx
    have q1 := hl.l_le
    have q2 := hl.l_max
    unfold maxLen at q2
    have HL := Lib.hid hl
    obtain ⟨nv, hnv⟩ : ∃ nv, nv = x.values.length := ⟨_, rfl⟩
    have HNV := Lib.hid hnv
    rw [← hnv] at hc q1
    obtain ⟨sn, hsn⟩ : ∃ sn, sn = strOf x.name := ⟨_, rfl⟩
    have HSN := Lib.hid hsn
    rw [← hsn] at hc
    have HC := Lib.hid hc
    clear hx hl hnv hsn hc
    obtain ⟨c0, c1⟩ := HC.out _ HBX.out.b_bel
    have HX := Lib.hid (any_snoc s.enums manyE i x HXI.out)
    have HD : Hid (manyE x = decide ((8 : Int) < (nv : Int))) := Lib.hid (by unfold manyE; rw [← HNV.out]; exact decide_eq_decide.mpr (by omega))
    obtain ⟨b, hb⟩ : ∃ b, b = (hd || (s.enums.take i).any manyE) := ⟨_, rfl⟩
    have HBB := Lib.hid hb
    rw [← hb]
    clear hb
    cases b with
    | true =>
      go_wp2
      go_roundg (g0 - 1)
      case measure => omega
      case rel => exact ⟨i + 1, by go_num, by omega, by rw [HX.out, ← Bool.or_assoc, ← HBB.out]; rfl, HBX.out⟩
    | false =>
      go_wp2
      go_roundg (g0 - 1)
      case measure => omega
      case rel => exact ⟨i + 1, by go_num, by omega, by rw [HX.out, ← Bool.or_assoc, ← HBB.out, HD.out]; simp, HBX.out⟩
   ·have ti : decide ((i : Int) < (n : Int)) = false := decide_eq_false (by omega)
    rw [any_whole s.enums manyE i (by have := H.out.s_ne; omega)]
    obtain ⟨h2, hh2⟩ : ∃ h2, h2 = (hd || s.enums.any manyE) := ⟨_, rfl⟩
    rw [← hh2] at HV ⊢
    clear hh2
    go_wp2
    clear r0 r1
    go_loopg [3, 5] n2 (fun gz x0 x1 wr => ∃ i : Nat, x1 = .int .i64 (i : Int) ∧ i + gz = n2 ∧ x0 = .bool (h2 || (s.msgs.take i).any manyM) ∧ Bx w wr (.cells #[.slice A n cap, .slice A2 n2 cap2] 25 (0, 0)))
    case atStart => exact ⟨0, rfl, by omega, by simp, HBX.out⟩
    case round =>
     obtain ⟨i, rfl, hi, rfl, hbx⟩ := hrel
     have HBX := Lib.hid hbx
     clear hbx
     have r0 := obj_cell (HBX.out).b_blk 0
     have r1 := obj_cell (HBX.out).b_blk 1
     obtain ⟨g0, hg0⟩ : ∃ g0, g0 = gk := ⟨_, rfl⟩
     subst hg0
     by_cases hlti : i < n2
     ·have ti : decide ((i : Int) < (n2 : Int)) = true := decide_eq_true (by omega)
      obtain ⟨x, hx⟩ : ∃ x, s.msgs[i]? = some x := ⟨_, List.getElem?_eq_getElem (by have := H.out.s_nm; omega)⟩
      have HXI := Lib.hid hx
      obtain ⟨ge, oe, A1, cap1, A3, cap3, rfl, _, hc, hl, hl2⟩ := ms_at H.out.s_m hx
      have q1 := hl.l_le
      have q2 := hl.l_max
      have q3 := hl2.l_le
      have q4 := hl2.l_max
      unfold maxLen at q2 q4
      have HL := Lib.hid hl
      have HL2 := Lib.hid hl2
      obtain ⟨nf, hnf⟩ : ∃ nf, nf = x.fields.length := ⟨_, rfl⟩
      obtain ⟨nb, hnb⟩ : ∃ nb, nb = x.barred.length := ⟨_, rfl⟩
      have HNF := Lib.hid hnf
      have HNB := Lib.hid hnb
      rw [← hnf] at hc q1
      rw [← hnb] at hc q3
      obtain ⟨sn, hsn⟩ : ∃ sn, sn = strOf x.name := ⟨_, rfl⟩
      have HSN := Lib.hid hsn
      rw [← hsn] at hc
      have HC := Lib.hid hc
      clear hx hl hl2 hnf hnb hsn hc
      obtain ⟨c0, c1, c2⟩ := HC.out _ HBX.out.b_bel
      have HX := Lib.hid (any_snoc s.msgs manyM i x HXI.out)
      have HD : Hid (manyM x = (decide (10 < nf) || decide (8 < nb))) := Lib.hid (by unfold manyM; rw [← HNF.out, ← HNB.out])
      obtain ⟨b, hb⟩ : ∃ b, b = (h2 || (s.msgs.take i).any manyM) := ⟨_, rfl⟩
      have HBB := Lib.hid hb
      rw [← hb]
      clear hb
      cases b with
      | true =>
        go_wp2
        go_roundg (g0 - 1)
        case measure => omega
        case rel => exact ⟨i + 1, by go_num, by omega, by rw [HX.out, ← Bool.or_assoc, ← HBB.out]; rfl, HBX.out⟩
      | false =>
        by_cases h10 : 10 < nf
        ·have d10 : decide ((nf : Int) > 10) = true := decide_eq_true (by omega)
         go_wp2
         go_roundg (g0 - 1)
         case measure => omega
         case rel => exact ⟨i + 1, by go_num, by omega, by rw [HX.out, ← Bool.or_assoc, ← HBB.out, HD.out, decide_eq_true h10]; rfl, HBX.out⟩
        ·have d10 : decide ((nf : Int) > 10) = false := decide_eq_false (by omega)
         have HD2 : Hid (decide (8 < nb) = decide ((8 : Int) < (nb : Int))) := Lib.hid (decide_eq_decide.mpr (by omega))
         go_wp2
         go_roundg (g0 - 1)
         case measure => omega
         case rel => exact ⟨i + 1, by go_num, by omega, by rw [HX.out, ← Bool.or_assoc, ← HBB.out, HD.out, decide_eq_false h10, HD2.out]; simp, HBX.out⟩
     ·have ti : decide ((i : Int) < (n2 : Int)) = false := decide_eq_false (by omega)
      rw [any_whole s.msgs manyM i (by have := H.out.s_nm; omega)]
      rw [← HV.out]
      go_wp2
      go_ret
      exact ⟨rfl, HBX.out.b_bel⟩
set_option maxHeartbeats 4000000 in
theorem rvnone_any {S : Nat → Nat → Prop} (w : World) {A A2 : Option Addr} {n cap n2 cap2 : Nat} {s : Sc} (h : ScAt S w A n cap A2 n2 cap2 s) :
 Calls Tryz.prog 19 #[.agg #[.slice A n cap, .slice A2 n2 cap2]] w fun e w' => e = .returned (.bool (noneT s)) ∧ Below w.heap.size w w' := by
 obtain ⟨m1, m2, m3, m4⟩ := scAt_max h
 have H := Lib.hid h
 have HBX := Lib.hid (bx_start w #[.slice A n cap, .slice A2 n2 cap2] 25)
 obtain ⟨hd, hhd⟩ : ∃ hd, hd = decide (n2 = 0) := ⟨_, rfl⟩
 have hz : ((n2 : Int) == 0) = hd := by rw [hhd]; exact nat_eqz n2
 have HV : Hid (noneT s = (hd || s.enums.any noneE)) := Lib.hid (by unfold noneT; rw [hhd, ← h.s_nm])
 clear h hhd
 have r0 := obj_cell (HBX.out).b_blk 0
 have r1 := obj_cell (HBX.out).b_blk 1
 go_enter Tryz.func19, Tryz.ntmps19
 go_wp2
 clear r0 r1
 go_loopg [3, 4] n (fun gz x0 x1 wr => ∃ i : Nat, x1 = .int .i64 (i : Int) ∧ i + gz = n ∧ x0 = .bool (hd || (s.enums.take i).any noneE) ∧ Bx w wr (.cells #[.slice A n cap, .slice A2 n2 cap2] 25 (0, 0)))
 case atStart => exact ⟨0, rfl, by omega, by simp, HBX.out⟩
 case round =>
  obtain ⟨i, rfl, hi, rfl, hbx⟩ := hrel
  have HBX := Lib.hid hbx
  clear hbx
  have r0 := obj_cell (HBX.out).b_blk 0
  have r1 := obj_cell (HBX.out).b_blk 1
  obtain ⟨g0, hg0⟩ : ∃ g0, g0 = gk := ⟨_, rfl⟩
  subst hg0
  by_cases hlti : i < n
  ·have ti : decide ((i : Int) < (n : Int)) = true := decide_eq_true (by omega)
   obtain ⟨x, hx⟩ : ∃ x, s.enums[i]? = some x := ⟨_, List.getElem?_eq_getElem (by have := H.out.s_ne; omega)⟩
   have HXI := Lib.hid hx
   obtain ⟨ge, oe, A1, cap1, rfl, _, hc, hl⟩ := en_at H.out.s_e hx
   have q1 := hl.l_le
   have q2 := hl.l_max
   unfold maxLen at q2
   have HL := Lib.hid hl
   obtain ⟨nv, hnv⟩ : ∃ nv, nv = x.values.length := ⟨_, rfl⟩
   have HNV := Lib.hid hnv
   rw [← hnv] at hc q1
   obtain ⟨sn, hsn⟩ : ∃ sn, sn = strOf x.name := ⟨_, rfl⟩
   have HSN := Lib.hid hsn
   rw [← hsn] at hc
   have HC := Lib.hid hc
   clear hx hl hnv hsn hc
   obtain ⟨c0, c1⟩ := HC.out _ HBX.out.b_bel
   have HX := Lib.hid (any_snoc s.enums noneE i x HXI.out)
   have HD : Hid (noneE x = ((nv : Int) == 0)) := Lib.hid (by unfold noneE; rw [← HNV.out, nat_eqz])
   obtain ⟨b, hb⟩ : ∃ b, b = (hd || (s.enums.take i).any noneE) := ⟨_, rfl⟩
   have HBB := Lib.hid hb
   rw [← hb]
   clear hb
   cases b with
   | true =>
     go_wp2
     go_roundg (g0 - 1)
     case measure => omega
     case rel => exact ⟨i + 1, by go_num, by omega, by rw [HX.out, ← Bool.or_assoc, ← HBB.out]; rfl, HBX.out⟩
   | false =>
     go_wp2
     go_roundg (g0 - 1)
     case measure => omega
     case rel => exact ⟨i + 1, by go_num, by omega, by rw [HX.out, ← Bool.or_assoc, ← HBB.out, HD.out]; simp, HBX.out⟩
  ·have ti : decide ((i : Int) < (n : Int)) = false := decide_eq_false (by omega)
   rw [any_whole s.enums noneE i (by have := H.out.s_ne; omega)]
   rw [← HV.out]
   go_wp2
   go_ret
   exact ⟨rfl, HBX.out.b_bel⟩
end Go.Proofs.YtloheacncefkgaaGreatDoor

/- The document's layer 15: numbers that rise, a number in a list, messages and enums by name. Conditions: those that each theorem names. -/
namespace Go.Proofs.YtloheacncefkgaaGreatDoor
open Go.RowKit
set_option linter.unusedVariables false
set_option maxRecDepth 100000

set_option maxHeartbeats 4000000 in
theorem rvrises_any {S : Nat → Prop} (w : World) {A : Option Addr} {cap n : Nat} {l : List Int} (h : Lst 1 S inR w A cap l) (hn : n = l.length) :
 Calls Tryz.prog 50 #[.slice A n cap] w fun e w' => e = .returned (.bool (risesB l)) ∧ ∃ k, w' = w.drewN k := by
 have hle := h.l_le
 have hmx := h.l_max
 rw [← hn] at hle
 unfold maxLen at hmx
 have H := Lib.hid h
 have HN := Lib.hid hn
 clear h hn
 go_enter Tryz.func50, Tryz.ntmps50
 go_wp2
 go_loopw [3] (fun x wr => ∃ k : Nat, x = .int .i64 ((k + 1 : Nat) : Int) ∧ k ≤ n ∧ (∃ i, wr = w.drewN i) ∧ ∀ (j : Nat) a b, j < k → l[j]? = some a → l[j + 1]? = some b → a < b) (fun x _ => n + 1 - (intOf x).toNat)
 case atStart => exact ⟨0, rfl, Nat.zero_le _, ⟨0, rfl⟩, fun j a b hj => absurd hj (Nat.not_lt_zero _)⟩
 case round =>
  obtain ⟨k, rfl, hk, ⟨i, rfl⟩, hall⟩ := hrel
  have HALL := Lib.hid hall
  clear hall
  obtain ⟨k1, hk1⟩ : ∃ k1, k1 = k + 1 := ⟨_, rfl⟩
  rw [← hk1]
  by_cases hlt : k1 < n
  ·have g1 : decide ((k1 : Int) < (n : Int)) = true := decide_eq_true (by omega)
   obtain ⟨a, ha⟩ : ∃ a, l[k]? = some a := ⟨_, List.getElem?_eq_getElem (by have := HN.out; omega)⟩
   obtain ⟨b, hb⟩ : ∃ b, l[k + 1]? = some b := ⟨_, List.getElem?_eq_getElem (by have := HN.out; omega)⟩
   obtain ⟨g, off, rfl, _, q0⟩ := in_at H.out ha
   obtain ⟨g', off', e', _, q1⟩ := in_at H.out hb
   cases e'
   have c0 := q0 w (Below.refl _ _)
   have c1 := q1 w (Below.refl _ _)
   rw [← hk1] at c1
   have HA := Lib.hid ha
   have HB := Lib.hid hb
   have gw : IntKind.i64.wrap ((k1 : Int) - 1) = (k : Int) := by rw [show (k1 : Int) - 1 = (k : Int) by omega]; exact IntWalk.i64_in _ (by omega)
   have gx : (k1 : Int) - 1 = (k : Int) := by omega
   have gw2 : IntKind.i64.wrap (k : Int) = (k : Int) := IntWalk.i64_in _ (by omega)
   have hkk : k < n := by omega
   have HK1 := Lib.hid hk1
   clear ha hb q0 q1 hk1 hk
   by_cases hab : a < b
   ·have g2 : decide (b ≤ a) = false := decide_eq_false (by omega)
    have g3 : decide (a ≥ b) = false := decide_eq_false (by omega)
    have HAB := Lib.hid hab
    clear hab
    go_wp2
    go_quiet (fail)
    go_wp2
    go_roundw
    case rel =>
     refine ⟨k + 1, by have := HK1.out; go_num, by have := HK1.out; omega, ⟨i + nq, rfl⟩, fun j x y hj hx hy => ?_⟩
     by_cases hjk : j < k
     ·exact HALL.out j x y hjk hx hy
     ·have : j = k := by omega
      subst this
      have e1 := HA.out.symm.trans hx
      have e2 := HB.out.symm.trans hy
      injection e1 with e1
      injection e2 with e2
      subst e1 e2
      exact HAB.out
    case measure => simp [intOf]; omega
   ·have g2 : decide (b ≤ a) = true := decide_eq_true (by omega)
    have g3 : decide (a ≥ b) = true := decide_eq_true (by omega)
    have HO := Lib.hid (risesB_off HA.out HB.out hab)
    clear hab
    go_wp2
    go_quiet (fail)
    go_wp2
    go_ret
    exact ⟨ret_bool' HO.out.symm, _, World.drewN_drewN _ _ _⟩
  ·have g1 : decide ((k1 : Int) < (n : Int)) = false := decide_eq_false (by omega)
   have HO : Hid (risesB l = true) := Lib.hid ((risesB_iff l).2 (fun j a b ha hb => HALL.out j a b (by have := (List.getElem?_eq_some_iff.mp hb).1; have := HN.out; omega) ha hb))
   clear hk1
   go_wp2
   go_ret
   exact ⟨ret_bool' HO.out.symm, _, rfl⟩

theorem isIn_miss {l : List Int} {n : Int} (h : ∀ (j : Nat) x, l[j]? = some x → x ≠ n) : isInB l n = false := by
 unfold isInB
 rw [List.any_eq_false]
 intro x hx
 obtain ⟨j, hj, e⟩ := List.mem_iff_getElem.mp hx
 have := h j x (by rw [List.getElem?_eq_getElem hj, e])
 simpa using this
set_option maxHeartbeats 4000000 in
theorem rvhas_any {S : Nat → Prop} (w : World) {A : Option Addr} {cap n : Nat} {l : List Int} (h : Lst 1 S inR w A cap l) (hn : n = l.length) (m : Int) :
 Calls Tryz.prog 53 #[.slice A n cap, .int .i64 m] w fun e w' => e = .returned (.bool (isInB l m)) ∧ w = w' := by
 have hle := h.l_le
 have hmx := h.l_max
 rw [← hn] at hle
 unfold maxLen at hmx
 have H := Lib.hid h
 have HN := Lib.hid hn
 clear h hn
 go_enter Tryz.func53, Tryz.ntmps53
 go_wp2
 go_loopg [5] n (fun gz x wr => ∃ i : Nat, x = .int .i64 (i : Int) ∧ i + gz = n ∧ wr = w ∧ ∀ (j : Nat) a, j < i → l[j]? = some a → a ≠ m)
 case atStart => exact ⟨0, rfl, by omega, rfl, fun j a hj => absurd hj (Nat.not_lt_zero _)⟩
 case round =>
  obtain ⟨i, rfl, hi, rfl, hall⟩ := hrel
  have HALL := Lib.hid hall
  clear hall
  obtain ⟨g0, hg0⟩ : ∃ g0, g0 = gk := ⟨_, rfl⟩
  subst hg0
  by_cases hlt : i < n
  ·have g1 : decide ((i : Int) < (n : Int)) = true := decide_eq_true (by omega)
   obtain ⟨a, ha⟩ : ∃ a, l[i]? = some a := ⟨_, List.getElem?_eq_getElem (by have := HN.out; omega)⟩
   obtain ⟨g, off, rfl, _, q0⟩ := in_at H.out ha
   have c0 := q0 _ (Below.refl _ _)
   have HA := Lib.hid ha
   clear ha q0
   by_cases hab : a = m
   ·subst hab
    have HO : Hid (isInB l a = true) := Lib.hid (any_off HA.out (decide_eq_true rfl))
    go_wp2
    go_ret
    exact ⟨ret_bool' HO.out.symm, rfl⟩
   ·have g2 : (a == m) = false := beq_false_of_ne hab
    have HAB := Lib.hid hab
    go_wp2
    go_roundg (g0 - 1)
    case measure => omega
    case rel =>
     refine ⟨i + 1, by go_num, by omega, rfl, fun j x hj hx => ?_⟩
     by_cases hji : j < i
     ·exact HALL.out j x hji hx
     ·have : j = i := by omega
      subst this
      have e1 := HA.out.symm.trans hx
      injection e1 with e1
      subst e1
      exact HAB.out
  ·have g1 : decide ((i : Int) < (n : Int)) = false := decide_eq_false (by omega)
   have HO : Hid (isInB l m = false) := Lib.hid (isIn_miss (fun j x hx => HALL.out j x (by have := (List.getElem?_eq_some_iff.mp hx).1; have := HN.out; omega) hx))
   go_wp2
   go_ret
   exact ⟨ret_bool' HO.out.symm, rfl⟩

set_option maxHeartbeats 4000000 in
theorem rvmessage_any {S : Nat → Nat → Prop} (w : World) {A A2 : Option Addr} {n cap n2 cap2 : Nat} {s : Sc} (h : ScAt S w A n cap A2 n2 cap2 s) (t : List UInt8) :
 Calls Tryz.prog 34 #[.agg #[.slice A n cap, .slice A2 n2 cap2], .string (strOf t)] w fun e w' => e = .returned (.int .i64 (messageT s t)) ∧ Below w.heap.size w w' := by
 obtain ⟨m1, m2, m3, m4⟩ := scAt_max h
 have H := Lib.hid h
 have HBX := Lib.hid (bx_start w #[.slice A n cap, .slice A2 n2 cap2] 25)
 obtain ⟨st, hst⟩ : ∃ st, st = strOf t := ⟨_, rfl⟩
 have HST := Lib.hid hst
 rw [← hst]
 clear h hst
 have r0 := obj_cell (HBX.out).b_blk 0
 have r1 := obj_cell (HBX.out).b_blk 1
 go_enter Tryz.func34, Tryz.ntmps34
 go_wp2
 clear r0 r1
 go_loopg [5] n2 (fun gz x0 wr => ∃ i : Nat, x0 = .int .i64 (i : Int) ∧ i + gz = n2 ∧ (∀ (j : Nat) y, j < i → (mNames s)[j]? = some y → y ≠ t) ∧ Bx w wr (.cells #[.slice A n cap, .slice A2 n2 cap2] 25 (0, 0)))
 case atStart => exact ⟨0, rfl, by omega, fun j y hj => absurd hj (Nat.not_lt_zero _), HBX.out⟩
 case round =>
  obtain ⟨i, rfl, hi, hall, hbx⟩ := hrel
  have HBX := Lib.hid hbx
  clear hbx
  have r0 := obj_cell (HBX.out).b_blk 0
  have r1 := obj_cell (HBX.out).b_blk 1
  obtain ⟨g0, hg0⟩ : ∃ g0, g0 = gk := ⟨_, rfl⟩
  subst hg0
  by_cases hlti : i < n2
  ·have ti : decide ((i : Int) < (n2 : Int)) = true := decide_eq_true (by omega)
   obtain ⟨x, hx⟩ : ∃ x, s.msgs[i]? = some x := ⟨_, List.getElem?_eq_getElem (by have := H.out.s_nm; omega)⟩
   have HXI := Lib.hid hx
   obtain ⟨ge, oe, A1, cap1, A3, cap3, rfl, _, hc, hl, hl2⟩ := ms_at H.out.s_m hx
   have q1 := hl.l_le
   have q2 := hl.l_max
   have q3 := hl2.l_le
   have q4 := hl2.l_max
   unfold maxLen at q2 q4
   have HL := Lib.hid hl
   have HL2 := Lib.hid hl2
   obtain ⟨nf, hnf⟩ : ∃ nf, nf = x.fields.length := ⟨_, rfl⟩
   obtain ⟨nb, hnb⟩ : ∃ nb, nb = x.barred.length := ⟨_, rfl⟩
   have HNF := Lib.hid hnf
   have HNB := Lib.hid hnb
   rw [← hnf] at hc q1
   rw [← hnb] at hc q3
   obtain ⟨sn, hsn⟩ : ∃ sn, sn = strOf x.name := ⟨_, rfl⟩
   have HSN := Lib.hid hsn
   rw [← hsn] at hc
   have HC := Lib.hid hc
   clear hx hl hl2 hnf hnb hsn hc
   obtain ⟨c0, c1, c2⟩ := HC.out _ HBX.out.b_bel
   have HALL := Lib.hid hall
   clear hall
   by_cases hab : x.name = t
   ·have HO : Hid (messageT s t = (i : Int)) := Lib.hid (placeT_hit (by unfold mNames; rw [List.getElem?_map, HXI.out, ← hab]; rfl) (fun j y hj hy => HALL.out j y hj hy))
    have es : sn = st := by rw [HSN.out, HST.out, hab]
    subst es
    go_wp2
    go_ret
    exact ⟨ret_int' HO.out.symm, HBX.out.b_bel⟩
   ·have hne : ¬ sn.toList = st.toList := by rw [HSN.out, HST.out, str_list, str_list]; exact hab
    have hne2 : (sn.toList == st.toList) = false := by rw [HSN.out, HST.out, strOf_beq]; exact decide_eq_false hab
    have HAB := Lib.hid hab
    clear hab
    go_wp2
    go_roundg (g0 - 1)
    case measure => omega
    case rel => exact ⟨i + 1, by go_num, by omega, (fun j y hj hy => by
     by_cases hji : j < i
     ·exact HALL.out j y hji hy
     ·have : j = i := by omega
      subst this
      unfold mNames at hy
      rw [List.getElem?_map, HXI.out] at hy
      injection hy with hy
      rw [← hy]
      exact HAB.out), HBX.out⟩
  ·have ti : decide ((i : Int) < (n2 : Int)) = false := decide_eq_false (by omega)
   have HO : Hid (messageT s t = -1) := Lib.hid (placeT_miss (fun j y hy => hall j y (by have := (List.getElem?_eq_some_iff.mp hy).1; unfold mNames at this; rw [List.length_map] at this; have := H.out.s_nm; omega) hy))
   clear hall
   go_wp2
   go_ret
   exact ⟨ret_int' HO.out.symm, HBX.out.b_bel⟩
set_option maxHeartbeats 4000000 in
theorem rvenum_any {S : Nat → Nat → Prop} (w : World) {A A2 : Option Addr} {n cap n2 cap2 : Nat} {s : Sc} (h : ScAt S w A n cap A2 n2 cap2 s) (t : List UInt8) :
 Calls Tryz.prog 54 #[.agg #[.slice A n cap, .slice A2 n2 cap2], .string (strOf t)] w fun e w' => e = .returned (.int .i64 (enumT s t)) ∧ Below w.heap.size w w' := by
 obtain ⟨m1, m2, m3, m4⟩ := scAt_max h
 have H := Lib.hid h
 have HBX := Lib.hid (bx_start w #[.slice A n cap, .slice A2 n2 cap2] 25)
 obtain ⟨st, hst⟩ : ∃ st, st = strOf t := ⟨_, rfl⟩
 have HST := Lib.hid hst
 rw [← hst]
 clear h hst
 have r0 := obj_cell (HBX.out).b_blk 0
 have r1 := obj_cell (HBX.out).b_blk 1
 go_enter Tryz.func54, Tryz.ntmps54
 go_wp2
 clear r0 r1
 go_loopg [5] n (fun gz x0 wr => ∃ i : Nat, x0 = .int .i64 (i : Int) ∧ i + gz = n ∧ (∀ (j : Nat) y, j < i → (eNames s)[j]? = some y → y ≠ t) ∧ Bx w wr (.cells #[.slice A n cap, .slice A2 n2 cap2] 25 (0, 0)))
 case atStart => exact ⟨0, rfl, by omega, fun j y hj => absurd hj (Nat.not_lt_zero _), HBX.out⟩
 case round =>
  obtain ⟨i, rfl, hi, hall, hbx⟩ := hrel
  have HBX := Lib.hid hbx
  clear hbx
  have r0 := obj_cell (HBX.out).b_blk 0
  have r1 := obj_cell (HBX.out).b_blk 1
  obtain ⟨g0, hg0⟩ : ∃ g0, g0 = gk := ⟨_, rfl⟩
  subst hg0
  by_cases hlti : i < n
  ·have ti : decide ((i : Int) < (n : Int)) = true := decide_eq_true (by omega)
   obtain ⟨x, hx⟩ : ∃ x, s.enums[i]? = some x := ⟨_, List.getElem?_eq_getElem (by have := H.out.s_ne; omega)⟩
   have HXI := Lib.hid hx
   obtain ⟨ge, oe, A1, cap1, rfl, _, hc, hl⟩ := en_at H.out.s_e hx
   have q1 := hl.l_le
   have q2 := hl.l_max
   unfold maxLen at q2
   have HL := Lib.hid hl
   obtain ⟨nv, hnv⟩ : ∃ nv, nv = x.values.length := ⟨_, rfl⟩
   have HNV := Lib.hid hnv
   rw [← hnv] at hc q1
   obtain ⟨sn, hsn⟩ : ∃ sn, sn = strOf x.name := ⟨_, rfl⟩
   have HSN := Lib.hid hsn
   rw [← hsn] at hc
   have HC := Lib.hid hc
   clear hx hl hnv hsn hc
   obtain ⟨c0, c1⟩ := HC.out _ HBX.out.b_bel
   have HALL := Lib.hid hall
   clear hall
   by_cases hab : x.name = t
   ·have HO : Hid (enumT s t = (i : Int)) := Lib.hid (placeT_hit (by unfold eNames; rw [List.getElem?_map, HXI.out, ← hab]; rfl) (fun j y hj hy => HALL.out j y hj hy))
    have es : sn = st := by rw [HSN.out, HST.out, hab]
    subst es
    go_wp2
    go_ret
    exact ⟨ret_int' HO.out.symm, HBX.out.b_bel⟩
   ·have hne : ¬ sn.toList = st.toList := by rw [HSN.out, HST.out, str_list, str_list]; exact hab
    have hne2 : (sn.toList == st.toList) = false := by rw [HSN.out, HST.out, strOf_beq]; exact decide_eq_false hab
    have HAB := Lib.hid hab
    clear hab
    go_wp2
    go_roundg (g0 - 1)
    case measure => omega
    case rel => exact ⟨i + 1, by go_num, by omega, (fun j y hj hy => by
     by_cases hji : j < i
     ·exact HALL.out j y hji hy
     ·have : j = i := by omega
      subst this
      unfold eNames at hy
      rw [List.getElem?_map, HXI.out] at hy
      injection hy with hy
      rw [← hy]
      exact HAB.out), HBX.out⟩
  ·have ti : decide ((i : Int) < (n : Int)) = false := decide_eq_false (by omega)
   have HO : Hid (enumT s t = -1) := Lib.hid (placeT_miss (fun j y hy => hall j y (by have := (List.getElem?_eq_some_iff.mp hy).1; unfold eNames at this; rw [List.length_map] at this; have := H.out.s_ne; omega) hy))
   clear hall
   go_wp2
   go_ret
   exact ⟨ret_int' HO.out.symm, HBX.out.b_bel⟩
end Go.Proofs.YtloheacncefkgaaGreatDoor

/- Two schemas side by side: what is the same, two boxes, numbers compared. Conditions: those that each theorem names. -/
namespace Go.Proofs.YtloheacncefkgaaGreatDoor
open Go.RowKit
set_option linter.unusedVariables false
set_option maxRecDepth 100000

instance : DecidableEq Vl := fun ⟨a, b⟩ ⟨c, d⟩ => if h : a = c ∧ b = d then .isTrue (by rw [h.1, h.2]) else .isFalse (fun e => by injection e with e1 e2; exact h ⟨e1, e2⟩)
instance : DecidableEq Fd := fun ⟨a, b, c, d, e, f, g⟩ ⟨a', b', c', d', e', f', g'⟩ =>
 if h : a = a' ∧ b = b' ∧ c = c' ∧ d = d' ∧ e = e' ∧ f = f' ∧ g = g' then .isTrue (by obtain ⟨rfl, rfl, rfl, rfl, rfl, rfl, rfl⟩ := h; rfl)
 else .isFalse (fun e => by injection e with e1 e2 e3 e4 e5 e6 e7; exact h ⟨e1, e2, e3, e4, e5, e6, e7⟩)
instance : DecidableEq En := fun ⟨a, b⟩ ⟨c, d⟩ => if h : a = c ∧ b = d then .isTrue (by rw [h.1, h.2]) else .isFalse (fun e => by injection e with e1 e2; exact h ⟨e1, e2⟩)
instance : DecidableEq Ms := fun ⟨a, b, x⟩ ⟨c, d, y⟩ => if h : a = c ∧ b = d ∧ x = y then .isTrue (by rw [h.1, h.2.1, h.2.2]) else .isFalse (fun e => by injection e with e1 e2 e3; exact h ⟨e1, e2, e3⟩)
instance : DecidableEq Sc := fun ⟨a, b⟩ ⟨c, d⟩ => if h : a = c ∧ b = d then .isTrue (by rw [h.1, h.2]) else .isFalse (fun e => by injection e with e1 e2; exact h ⟨e1, e2⟩)

/-- Two boxes of the call's own. -/
structure Bx2 (w wr : World) (o p : Obj) : Prop where
 b2_bel : Below w.heap.size w wr
 b2_one : wr.heap[w.heap.size]? = some o
 b2_two : wr.heap[w.heap.size + 1]? = some p
theorem bx2_start (w : World) (cs ds : Array Value) (t u : TypeId) : Bx2 w ((w.alloc (.cells cs t)).alloc (.cells ds u)) (.cells cs t (0, 0)) (.cells ds u (0, 0)) :=
 ⟨((Below.refl _ w).alloc (Nat.le_refl _) _).alloc (by simp) _, (Below.heap_alloc _ _ _ (by simp)).trans (heap_alloc_new w _), by have h := heap_alloc_new (w.alloc (.cells cs t)) (.cells ds u); rw [World.size_alloc] at h; exact h⟩
theorem bx2_step {w wr w2 : World} {o p : Obj} (h : Bx2 w wr o p) (hb : Below wr.heap.size wr w2) : Bx2 w w2 o p :=
 ⟨h.b2_bel.trans (hb.mono h.b2_bel.size), (hb.block _ (lt_of_block h.b2_one)).trans h.b2_one, (hb.block _ (lt_of_block h.b2_two)).trans h.b2_two⟩

end Go.Proofs.YtloheacncefkgaaGreatDoor

/- Three boxes of a call's own (no program here). Conditions: those that each theorem names. -/
namespace Go.Proofs.YtloheacncefkgaaGreatDoor
open Go.RowKit
set_option linter.unusedVariables false
set_option maxRecDepth 100000

/-- Three boxes of a call. -/
structure Bx3 (w wr : World) (o p q : Obj) : Prop where
 b3_bel : Below w.heap.size w wr
 b3_one : wr.heap[w.heap.size]? = some o
 b3_two : wr.heap[w.heap.size + 1]? = some p
 b3_thr : wr.heap[w.heap.size + 1 + 1]? = some q
theorem bx3_start (w : World) (cs ds es : Array Value) (t u v : TypeId) : Bx3 w (((w.alloc (.cells cs t)).alloc (.cells ds u)).alloc (.cells es v)) (.cells cs t (0, 0)) (.cells ds u (0, 0)) (.cells es v (0, 0)) := by
 have h := bx2_start w cs ds t u
 have hz : ((w.alloc (.cells cs t)).alloc (.cells ds u)).heap.size = w.heap.size + 1 + 1 := by simp
 refine ⟨h.b2_bel.alloc (by omega) _, (Below.heap_alloc _ _ _ (by omega)).trans h.b2_one, (Below.heap_alloc _ _ _ (by omega)).trans h.b2_two, ?_⟩
 rw [← hz]
 exact heap_alloc_new _ _
theorem bx3_step {w wr w2 : World} {o p q : Obj} (h : Bx3 w wr o p q) (hb : Below wr.heap.size wr w2) : Bx3 w w2 o p q :=
 ⟨h.b3_bel.trans (hb.mono h.b3_bel.size), (hb.block _ (lt_of_block h.b3_one)).trans h.b3_one, (hb.block _ (lt_of_block h.b3_two)).trans h.b3_two, (hb.block _ (lt_of_block h.b3_thr)).trans h.b3_thr⟩

end Go.Proofs.YtloheacncefkgaaGreatDoor
