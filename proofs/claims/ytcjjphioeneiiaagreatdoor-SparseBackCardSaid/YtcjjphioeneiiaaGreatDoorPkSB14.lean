/- Several texts in one: RiC, IwA, IwB, LexMath, LexNum, LexTxt, RiD, RiE, IdLaw, RlC, RlF, LexAll, LexJo, LexQu, SqMath, TokRun. What each proves, and its conditions, stands at its own head. -/
import Derived.Test.YtcjjphioeneiiaaGreatDoorPkSB0
import Derived.Test.YtcjjphioeneiiaaGreatDoorPkSB13
import Derived.Test.YtcjjphioeneiiaaGreatDoorPkSB2
import Derived.IntWalk
import Derived.Test.YtcjjphioeneiiaaGreatDoorChecked
import Derived.WalkKit
import Derived.RowKitTokens
import Derived.OwnWalk
import Derived.Deep.LoopGhost
/- The document's names: Letter, words, Right. Conditions: those that each theorem names. -/
namespace Go.Proofs.YtcjjphioeneiiaaGreatDoor
open Go.RowKit
set_option linter.unusedVariables false
set_option maxRecDepth 100000

def letterB (c : UInt8) : Bool := (decide (97 ≤ c.toNat) && decide (c.toNat ≤ 122)) || (decide (65 ≤ c.toNat) && decide (c.toNat ≤ 90))
def charB (c : UInt8) : Bool := letterB c || (decide (48 ≤ c.toNat) && decide (c.toNat ≤ 57)) || decide (c.toNat = 95)
/-- The words that are no names. -/
def wordsL : List (List UInt8) := [[101, 110, 117, 109], [109, 101, 115, 115, 97, 103, 101], [111, 110, 101, 111, 102], [114, 101, 112, 101, 97, 116, 101, 100], [114, 101, 115, 101, 114, 118, 101, 100], [108, 111, 111, 115, 101], [105, 110, 116, 51, 50], [105, 110, 116, 54, 52], [117, 105, 110, 116, 51, 50], [117, 105, 110, 116, 54, 52], [115, 105, 110, 116, 51, 50], [115, 105, 110, 116, 54, 52], [98, 111, 111, 108], [102, 105, 120, 101, 100, 51, 50], [102, 105, 120, 101, 100, 54, 52], [115, 102, 105, 120, 101, 100, 51, 50], [115, 102, 105, 120, 101, 100, 54, 52], [115, 116, 114, 105, 110, 103], [98, 121, 116, 101, 115], [114, 101, 110, 97, 109, 101], [114, 101, 110, 117, 109, 98, 101, 114], [114, 101, 116, 121, 112, 101], [115, 112, 108, 105, 116], [106, 111, 105, 110], [119, 114, 97, 112], [117, 110, 119, 114, 97, 112], [97, 100, 100], [100, 114, 111, 112], [116, 111], [105, 110, 116, 111], [97, 115], [111, 102], [100, 101, 102, 97, 117, 108, 116], [116, 114, 117, 101], [102, 97, 108, 115, 101]]
theorem words_length : wordsL.length = 35 := by decide
def nameB (t : List UInt8) : Bool := decide (1 ≤ t.length) && decide (t.length ≤ 12) && (match t with | [] => false | c :: _ => letterB c) && t.all charB && !(wordsL.contains t)

theorem rletter_any (c : UInt8) (w : World) : Calls Tryz.prog 147 #[.int .u8 (c.toNat : Int)] w fun e w' => e = .returned (.bool (letterB c)) ∧ w = w' := by
 have HL : Hid (letterB c = ((decide (97 ≤ c.toNat) && decide (c.toNat ≤ 122)) || (decide (65 ≤ c.toNat) && decide (c.toNat ≤ 90)))) := Lib.hid rfl
 obtain ⟨n, hn⟩ : ∃ n, n = c.toNat := ⟨_, rfl⟩
 rw [← hn] at HL ⊢
 clear hn
 by_cases h1 : 97 ≤ n <;> by_cases h2 : n ≤ 122 <;> by_cases h3 : 65 ≤ n <;> by_cases h4 : n ≤ 90
 all_goals first
  | omega
  | (have g1 : decide ((97 : Int) ≤ (n : Int)) = decide (97 ≤ n) := decide_eq_decide.mpr (by omega)
     have g2 : decide ((n : Int) ≤ 122) = decide (n ≤ 122) := decide_eq_decide.mpr (by omega)
     have g3 : decide ((65 : Int) ≤ (n : Int)) = decide (65 ≤ n) := decide_eq_decide.mpr (by omega)
     have g4 : decide ((n : Int) ≤ 90) = decide (n ≤ 90) := decide_eq_decide.mpr (by omega)
     simp only [h1, h2, h3, h4, decide_true, decide_false] at g1 g2 g3 g4 HL
     go_enter Tryz.func147, Tryz.ntmps147
     go_wp2
     go_ret
     exact ⟨ret_bool' HL.out.symm, rfl⟩)
theorem rwords_any (w : World) : Calls Tryz.prog 148 #[] w fun e w' => e = .returned (.slice (some ⟨w.heap.size, 0, none⟩) 35 35) ∧ w' = w.alloc (.cells (txts wordsL).toArray 9) := by
 go_enter Tryz.func148, Tryz.ntmps148
 go_wp2
 go_ret
 exact ⟨rfl, rfl⟩
end Go.Proofs.YtcjjphioeneiiaaGreatDoor

/- The program's layer 9: letter, digit. Conditions: those that each theorem names. -/
namespace Go.Proofs.YtcjjphioeneiiaaGreatDoor
open Go.RowKit
set_option linter.unusedVariables false
set_option maxRecDepth 100000

def letterN (n : Nat) : Bool := (decide (97 ≤ n) && decide (n ≤ 122)) || (decide (65 ≤ n) && decide (n ≤ 90))
def digitN (n : Nat) : Bool := decide (48 ≤ n) && decide (n ≤ 57)
theorem pletter_any (n : Nat) (hr : n ≤ 2147483647) (w : World) : Calls Tryz.prog 200 #[.int .i32 (n : Int)] w fun e w' => e = .returned (.bool (letterN n)) ∧ w = w' := by
 have HL : Hid (letterN n = ((decide (97 ≤ n) && decide (n ≤ 122)) || (decide (65 ≤ n) && decide (n ≤ 90)))) := Lib.hid rfl
 by_cases h1 : 97 ≤ n <;> by_cases h2 : n ≤ 122 <;> by_cases h3 : 65 ≤ n <;> by_cases h4 : n ≤ 90
 all_goals first
  | omega
  | (have g1 : decide ((97 : Int) ≤ (n : Int)) = decide (97 ≤ n) := decide_eq_decide.mpr (by omega)
     have g2 : decide ((n : Int) ≤ 122) = decide (n ≤ 122) := decide_eq_decide.mpr (by omega)
     have g3 : decide ((65 : Int) ≤ (n : Int)) = decide (65 ≤ n) := decide_eq_decide.mpr (by omega)
     have g4 : decide ((n : Int) ≤ 90) = decide (n ≤ 90) := decide_eq_decide.mpr (by omega)
     simp only [h1, h2, h3, h4, decide_true, decide_false] at g1 g2 g3 g4 HL
     clear hr
     go_enter Tryz.func200, Tryz.ntmps200
     go_wp2
     go_ret
     exact ⟨ret_bool' HL.out.symm, rfl⟩)
theorem pdigit_any (n : Nat) (hr : n ≤ 2147483647) (w : World) : Calls Tryz.prog 201 #[.int .i32 (n : Int)] w fun e w' => e = .returned (.bool (digitN n)) ∧ w = w' := by
 have HL : Hid (digitN n = (decide (48 ≤ n) && decide (n ≤ 57))) := Lib.hid rfl
 by_cases h1 : 48 ≤ n <;> by_cases h2 : n ≤ 57
 all_goals first
  | omega
  | (have g1 : decide ((48 : Int) ≤ (n : Int)) = decide (48 ≤ n) := decide_eq_decide.mpr (by omega)
     have g2 : decide ((n : Int) ≤ 57) = decide (n ≤ 57) := decide_eq_decide.mpr (by omega)
     simp only [h1, h2, decide_true, decide_false] at g1 g2 HL
     clear hr
     go_enter Tryz.func201, Tryz.ntmps201
     go_wp2
     go_ret
     exact ⟨ret_bool' HL.out.symm, rfl⟩)
end Go.Proofs.YtcjjphioeneiiaaGreatDoor

/- The program's layer 9: word. Conditions: those that each theorem names. -/
namespace Go.Proofs.YtcjjphioeneiiaaGreatDoor
open Go.RowKit
set_option linter.unusedVariables false
set_option maxRecDepth 100000

set_option maxHeartbeats 4000000 in
theorem pword_any (t : List UInt8) (w : World) : Calls Tryz.prog 199 #[.string (strOf t)] w fun e w' => e = .returned (.bool (wordsL.contains t)) ∧ w = w' := by
 obtain ⟨str, hstr⟩ : ∃ str, str = strOf t := ⟨_, rfl⟩
 have hl : t = str.toList := by rw [hstr, str_list]
 rw [← hstr, hl]
 clear hl hstr
 go_enter Tryz.func199, Tryz.ntmps199
 go_wp2
 all_goals go_ret
 all_goals first
  | (rename_i h g; exact absurd (h.symm.trans g) (by decide))
  | (rename_i h; refine ⟨congrArg (fun b => Ending.returned (.bool b)) (?_ : true = wordsL.contains str.toList), rfl⟩; rw [eq_of_beq h]; decide)
  | (refine ⟨congrArg (fun b => Ending.returned (.bool b)) (?_ : false = wordsL.contains str.toList), rfl⟩; simp only [wordsL, List.contains_cons, List.contains_nil, *, Bool.or_false])
end Go.Proofs.YtcjjphioeneiiaaGreatDoor

/- Layer 10 in plain words (no program here): what is passed over, how long a name is, digits, quotes, numbers, texts, tokens. -/
namespace Go.Proofs.YtcjjphioeneiiaaGreatDoor
set_option linter.unusedVariables false

def digitB (c : UInt8) : Bool := decide (48 ≤ c.toNat) && decide (c.toNat ≤ 57)
def nameCh (c : UInt8) : Bool := letterB c || (digitB c || decide (c.toNat = 95))
def markB (c : UInt8) : Bool := decide (c.toNat = 123 ∨ c.toNat = 125 ∨ c.toNat = 40 ∨ c.toNat = 41 ∨ c.toNat = 61 ∨ c.toNat = 44 ∨ c.toNat = 46 ∨ c.toNat = 59)
def blankB (c : UInt8) : Bool := decide (c.toNat = 32 ∨ c.toNat = 10 ∨ c.toNat = 9)
/-- How long a name is. -/
def wordRun : List UInt8 → Nat
 | [] => 0
 | c :: r => if nameCh c = true then wordRun r + 1 else 0
def wordN : List UInt8 → Nat
 | [] => 0
 | c :: r => if letterB c = true then wordRun r + 1 else 0
theorem wordRun_le : ∀ t, wordRun t ≤ t.length
 | [] => Nat.le_refl _
 | c :: r => by
   have := wordRun_le r
   unfold wordRun
   split
   ·simp; omega
   ·simp
theorem wordN_le : ∀ t, wordN t ≤ t.length
 | [] => Nat.le_refl _
 | c :: r => by
   have := wordRun_le r
   show (if letterB c = true then wordRun r + 1 else 0) ≤ r.length + 1
   split <;> omega
/-- How many bytes are passed over; first: within a comment or not. -/
def passM : Bool → List UInt8 → Nat
 | _, [] => 0
 | true, c :: r => if c.toNat = 10 then passM false r + 1 else passM true r + 1
 | false, c :: r => if blankB c = true then passM false r + 1 else if c.toNat = 47 ∧ r.head?.map UInt8.toNat = some 47 then passM true r + 1 else 0
theorem passM_le : ∀ b t, passM b t ≤ t.length
 | _, [] => by simp [passM]
 | true, c :: r => by
   have h1 := passM_le true r
   have h2 := passM_le false r
   unfold passM
   split
   ·simp; omega
   ·simp; omega
 | false, c :: r => by
   have h1 := passM_le true r
   have h2 := passM_le false r
   unfold passM
   split
   ·simp; omega
   ·split
    ·simp; omega
    ·simp
/-- A number's digits. -/
def decOf (n : Nat) : List UInt8 := if h : n = 0 then [] else decOf (n / 10) ++ [(48 + n % 10).toUInt8]
termination_by n
decreasing_by omega
def digitsT (n : Nat) (neg : Bool) : List UInt8 := if n = 0 then [48] else if neg = true then 45 :: decOf n else decOf n
theorem decOf_zero : decOf 0 = [] := by rw [decOf]; rfl
theorem decOf_pos {n : Nat} (h : n ≠ 0) : decOf n = decOf (n / 10) ++ [(48 + n % 10).toUInt8] := by
 conv => lhs; rw [decOf]
 rw [dif_neg h]
theorem decOf_length : ∀ (k n : Nat), n < 10 ^ k → (decOf n).length ≤ k
 | 0, n, h => by
   have : n = 0 := by simpa using h
   subst this
   rw [decOf_zero]; exact Nat.le_refl _
 | k + 1, n, h => by
   by_cases h0 : n = 0
   ·subst h0; rw [decOf_zero]; exact Nat.zero_le _
   ·rw [decOf_pos h0, List.length_append]
    have := decOf_length k (n / 10) (by rw [Nat.pow_succ] at h; omega)
    simp; omega
theorem decOf_len64 {n : Nat} (h : n < 18446744073709551616) : (decOf n).length ≤ 20 := decOf_length 20 n (by omega)
theorem wrap64_in2 (n : Int) (h : -9223372036854775808 ≤ n ∧ n ≤ 9223372036854775807) : Go.RowKit.wrap64 n = n := by unfold Go.RowKit.wrap64; omega
theorem strOf_append (a b : List UInt8) : strOf a ++ strOf b = strOf (a ++ b) := by
 apply ByteArray.ext
 rw [ByteArray.data_append]
 simp [strOf]
theorem strOf_extract (t : List UInt8) (i j : Nat) : (strOf t).extract i j = strOf ((t.take j).drop i) := by
 apply ByteArray.ext
 rw [ByteArray.data_extract]
 simp [strOf, List.extract_toArray, List.extract_eq_take_drop, List.drop_take]
theorem drop_get {t : List UInt8} {n : Nat} {c : UInt8} (h : t[n]? = some c) : t.drop n = c :: t.drop (n + 1) := by
 obtain ⟨h1, rfl⟩ := List.getElem?_eq_some_iff.mp h
 exact List.drop_eq_getElem_cons h1
end Go.Proofs.YtcjjphioeneiiaaGreatDoor

/- Layer 10 in plain words (no program here): the number that a text begins with. -/
namespace Go.Proofs.YtcjjphioeneiiaaGreatDoor
set_option linter.unusedVariables false

def digs (t : List UInt8) : List UInt8 := t.takeWhile digitB
def valOf (acc : Nat) (l : List UInt8) : Nat := l.foldl (fun a c => 10 * a + (c.toNat - 48)) acc
theorem valOf_append (a b : List UInt8) (acc : Nat) : valOf acc (a ++ b) = valOf (valOf acc a) b := List.foldl_append ..
theorem valOf_cons (acc : Nat) (c : UInt8) (r : List UInt8) : valOf acc (c :: r) = valOf (10 * acc + (c.toNat - 48)) r := by unfold valOf; rw [List.foldl_cons]
theorem valOf_ge : ∀ (a : List UInt8) (acc : Nat), acc ≤ valOf acc a
 | [], acc => Nat.le_refl _
 | c :: a, acc => by have := valOf_ge a (10 * acc + (c.toNat - 48)); rw [valOf_cons]; omega
def numNeg (t : List UInt8) : Bool := match t with
 | [] => false
 | c :: _ => decide (c.toNat = 45)
def numFrom (t : List UInt8) : Nat := if numNeg t = true then 1 else 0
def numDs (t : List UInt8) : List UInt8 := digs (t.drop (numFrom t))
def numV (t : List UInt8) : Nat := valOf 0 (numDs t)
def numI (t : List UInt8) : Nat := numFrom t + (numDs t).length
/-- Is none there? -/
def numBad (t : List UInt8) : Bool := decide (numDs t = []) || (decide (18446744073709551616 ≤ numV t) || (decide (digitsT (numV t) (numNeg t) ≠ t.take (numI t)) || (numNeg t && decide (9223372036854775808 < numV t))))
def numT (t : List UInt8) : Nat × Bool × Nat := if numBad t = true then (0, false, 0) else (numV t, numNeg t, numI t)
theorem digs_le (t : List UInt8) : (digs t).length ≤ t.length := (List.takeWhile_prefix _).length_le
theorem numFrom_le (t : List UInt8) : numFrom t ≤ t.length := by
 unfold numFrom numNeg
 cases t with
 | nil => simp
 | cons c r =>
   show (if decide (c.toNat = 45) = true then 1 else 0) ≤ r.length + 1
   split <;> omega
theorem numI_le (t : List UInt8) : numI t ≤ t.length := by
 unfold numI numDs
 have h1 := digs_le (t.drop (numFrom t))
 have h2 := numFrom_le t
 rw [List.length_drop] at h1
 omega
theorem numT_le (t : List UInt8) : (numT t).2.2 ≤ t.length := by
 unfold numT
 split
 ·exact Nat.zero_le _
 ·exact numI_le t
theorem digs_cons_yes {c : UInt8} {r : List UInt8} (h : digitB c = true) : digs (c :: r) = c :: digs r := by unfold digs; rw [List.takeWhile_cons_of_pos h]
theorem digs_cons_no {c : UInt8} {r : List UInt8} (h : digitB c = false) : digs (c :: r) = [] := by unfold digs; rw [List.takeWhile_cons_of_neg (by simp [h])]
theorem digitB_iff (c : UInt8) : digitB c = true ↔ 48 ≤ c.toNat ∧ c.toNat ≤ 57 := by unfold digitB; simp
/-- So many digits were read. -/
structure NumAt (t pre : List UInt8) (i n : Nat) : Prop where
 ds : numDs t = pre ++ digs (t.drop i)
 i_ : i = numFrom t + pre.length
 n_ : n = valOf 0 pre
 lt : n < 18446744073709551616
 le : i ≤ t.length
section
variable {t pre : List UInt8} {i n : Nat} {c : UInt8}
theorem NumAt.over (h : NumAt t pre i n) (hc : t[i]? = some c) (hd : digitB c = true) (hn : 18446744073709551616 ≤ 10 * n + (c.toNat - 48)) : numT t = (0, false, 0) := by
 unfold numT
 rw [if_pos]
 have h1 : 18446744073709551616 ≤ numV t := by
  unfold numV
  rw [h.ds, drop_get hc, digs_cons_yes hd, valOf_append, valOf_cons, ← h.n_]
  exact Nat.le_trans hn (valOf_ge _ _)
 unfold numBad
 rw [decide_eq_true h1]
 simp
theorem NumAt.stop (h : NumAt t pre i n) (hs : digs (t.drop i) = []) : numDs t = pre ∧ numV t = n ∧ numI t = i := by
 have e : numDs t = pre := by rw [h.ds, hs, List.append_nil]
 exact ⟨e, by unfold numV; rw [e, h.n_], by unfold numI; rw [e, h.i_]⟩
theorem NumAt.first (h : NumAt t pre i n) (hs : digs (t.drop i) = []) (he : i = numFrom t) : numT t = (0, false, 0) := by
 have e := (h.stop hs).1
 have : pre = [] := List.eq_nil_of_length_eq_zero (by have := h.i_; omega)
 unfold numT
 rw [if_pos]
 unfold numBad
 rw [e, this]
 simp
end
end Go.Proofs.YtcjjphioeneiiaaGreatDoor

/- Layer 10 in plain words (no program here): the text that a text begins with. -/
namespace Go.Proofs.YtcjjphioeneiiaaGreatDoor
set_option linter.unusedVariables false

/-- Behind the opening quote: what is said, and how many bytes that and the closing quote are. -/
def textR : List UInt8 → Option (List UInt8 × Nat)
 | [] => none
 | c :: r => if c.toNat ≠ 39 then (textR r).map (fun p => (c :: p.1, p.2 + 1)) else
   match r with
   | [] => some ([], 1)
   | d :: q => if d.toNat ≠ 39 then some ([], 1) else (textR q).map (fun p => (39 :: p.1, p.2 + 2))
def textT (t : List UInt8) : List UInt8 × Nat := match t with
 | [] => ([], 0)
 | c :: r => if c.toNat = 39 then (match textR r with | some p => (p.1, p.2 + 1) | none => ([], 0)) else ([], 0)
theorem textR_other {c : UInt8} {r : List UInt8} (h : c.toNat ≠ 39) : textR (c :: r) = (textR r).map (fun p => (c :: p.1, p.2 + 1)) := by
 rw [textR.eq_def]; dsimp only; rw [if_pos h]
theorem textR_last {c : UInt8} (h : c.toNat = 39) : textR [c] = some ([], 1) := by
 rw [textR.eq_def]; dsimp only; rw [if_neg (by simp [h])]
theorem textR_close {c d : UInt8} {q : List UInt8} (h : c.toNat = 39) (hd : d.toNat ≠ 39) : textR (c :: d :: q) = some ([], 1) := by
 rw [textR.eq_def]; dsimp only; rw [if_neg (by simp [h]), if_pos hd]
theorem textR_two {c d : UInt8} {q : List UInt8} (h : c.toNat = 39) (hd : d.toNat = 39) : textR (c :: d :: q) = (textR q).map (fun p => (39 :: p.1, p.2 + 2)) := by
 rw [textR.eq_def]; dsimp only; rw [if_neg (by simp [h]), if_neg (by simp [hd])]
/-- So much was read, up to i. -/
def TextAt (t o : List UInt8) (i : Nat) : Prop := textR (t.drop 1) = (textR (t.drop i)).map (fun p => (o ++ p.1, i - 1 + p.2))
theorem textAt_start (t : List UInt8) : TextAt t [] 1 := by
 unfold TextAt
 cases textR (t.drop 1) with
 | none => rfl
 | some p => simp
section
variable {t o : List UInt8} {i : Nat} {c d : UInt8}
theorem txt_none (h : TextAt t o i) (h0 : t[0]? = some c) (h39 : c.toNat = 39) (hr : textR (t.drop i) = none) : textT t = ([], 0) := by
 unfold TextAt at h
 rw [hr] at h
 cases t with
 | nil => rfl
 | cons b r =>
   simp at h0
   subst h0
   have h' : textR r = Option.none := h
   unfold textT
   dsimp only
   rw [if_pos h39, h']
end
theorem text_no {t : List UInt8} (h : ∀ c, t[0]? = some c → c.toNat ≠ 39) : textT t = ([], 0) := by
 cases t with
 | nil => rfl
 | cons b r =>
   unfold textT
   dsimp only
   rw [if_neg (h b rfl)]
end Go.Proofs.YtcjjphioeneiiaaGreatDoor

/- The document's Right of names: what is none at once. Conditions: those that each theorem names. -/
namespace Go.Proofs.YtcjjphioeneiiaaGreatDoor
open Go.RowKit
set_option linter.unusedVariables false
set_option maxRecDepth 100000

/-- No name: too short. -/
theorem rname_short (w : World) (t : List UInt8) (h : t.length < 1) : Calls Tryz.prog 75 #[.string (strOf t)] w fun e w' => e = .returned (.bool (nameB t)) ∧ Below w.heap.size w w' := by
 have HF : Hid (nameB t = false) := Lib.hid (by unfold nameB; rw [decide_eq_false (by omega)]; rfl)
 obtain ⟨n, hn⟩ : ∃ n, n = t.length := ⟨_, rfl⟩
 obtain ⟨str, hstr⟩ : ∃ str, str = strOf t := ⟨_, rfl⟩
 have hsz : str.size = n := by rw [hstr, str_size, hn]
 rw [← hstr]
 have g1 : decide ((n : Int) < 1) = true := decide_eq_true (by omega)
 clear hstr hn h
 go_enter Tryz.func75, Tryz.ntmps75
 go_wp2
 go_ret
 exact ⟨ret_bool' HF.out.symm, Below.refl _ _⟩
/-- No name: too long. -/
theorem rname_long (w : World) (t : List UInt8) (h : 12 < t.length) : Calls Tryz.prog 75 #[.string (strOf t)] w fun e w' => e = .returned (.bool (nameB t)) ∧ Below w.heap.size w w' := by
 have HF : Hid (nameB t = false) := Lib.hid (by unfold nameB; rw [decide_eq_false (show ¬ t.length ≤ 12 by omega)]; simp)
 obtain ⟨n, hn⟩ : ∃ n, n = t.length := ⟨_, rfl⟩
 obtain ⟨str, hstr⟩ : ∃ str, str = strOf t := ⟨_, rfl⟩
 have hsz : str.size = n := by rw [hstr, str_size, hn]
 rw [← hstr]
 have g1 : decide ((n : Int) < 1) = false := decide_eq_false (by omega)
 have g2 : decide ((n : Int) > 12) = true := decide_eq_true (by omega)
 clear hstr hn h
 go_enter Tryz.func75, Tryz.ntmps75
 go_wp2
 go_ret
 exact ⟨ret_bool' HF.out.symm, Below.refl _ _⟩
/-- No name: its first is no letter. -/
theorem rname_first (w : World) (c : UInt8) (r : List UInt8) (h12 : (c :: r).length ≤ 12) (hl : letterB c = false) : Calls Tryz.prog 75 #[.string (strOf (c :: r))] w fun e w' => e = .returned (.bool (nameB (c :: r))) ∧ Below w.heap.size w w' := by
 have HF : Hid (nameB (c :: r) = false) := Lib.hid (by unfold nameB; simp only [hl, Bool.and_false, Bool.false_and])
 have h1 : 1 ≤ (c :: r).length := by simp
 obtain ⟨n, hn⟩ : ∃ n, n = (c :: r).length := ⟨_, rfl⟩
 obtain ⟨str, hstr⟩ : ∃ str, str = strOf (c :: r) := ⟨_, rfl⟩
 have hsz : str.size = n := by rw [hstr, str_size, hn]
 rw [← hn] at h1 h12
 have hs0 : 0 < str.size := by omega
 have EA : Hid (str[0]'hs0 = c) := by
  show _ = _
  have := hstr
  subst this
  rfl
 rw [← hstr]
 have g1 : decide ((n : Int) < 1) = false := decide_eq_false (by omega)
 have g2 : decide ((n : Int) > 12) = false := decide_eq_false (by omega)
 have hp0 : (0 : Int) < (n : Int) := by omega
 have HL := Lib.hid (fun w => rletter_any c w)
 rw [hl] at HL
 clear hl hn hstr
 go_enter Tryz.func75, Tryz.ntmps75
 go_wp2_with (go_at_call 147; rw [EA.out]; refine (HL.out _).mono ?_; rintro e w2 ⟨rfl, rfl⟩)
 go_ret
 exact ⟨ret_bool' HF.out.symm, Below.refl _ _⟩
end Go.Proofs.YtcjjphioeneiiaaGreatDoor

/- The document's Right of names: the walk through the letters and the words. Conditions: those that each theorem names. -/
namespace Go.Proofs.YtcjjphioeneiiaaGreatDoor
open Go.RowKit
set_option linter.unusedVariables false
set_option maxRecDepth 100000

theorem words_sl (w : World) : Sl (w.alloc (.cells (txts wordsL).toArray 9)) (some ⟨w.heap.size, 0, none⟩) 35 (txts wordsL) :=
 ⟨by rw [txts_length, words_length]; exact Nat.le_refl _, by decide, (fun h => by cases h), fun j u hj => ⟨w.heap.size, 0, rfl, by
  rw [World.cell?_alloc_at _ _ _ _ rfl, Nat.zero_add, List.getElem?_toArray]; exact hj⟩⟩
set_option maxHeartbeats 2000000 in
theorem rname_loops (w : World) (c : UInt8) (r t : List UInt8) (ht : t = c :: r) (h12 : t.length ≤ 12) (hl : letterB c = true) : Calls Tryz.prog 75 #[.string (strOf t)] w fun e w' => e = .returned (.bool (nameB t)) ∧ Below w.heap.size w w' := by
 have HT : Hid (nameB t = (t.all charB && !(wordsL.contains t))) := Lib.hid (by unfold nameB; rw [decide_eq_true h12, ht]; simp [hl])
 have h1 : 1 ≤ t.length := by rw [ht]; simp
 obtain ⟨n, hn⟩ : ∃ n, n = t.length := ⟨_, rfl⟩
 obtain ⟨str, hstr⟩ : ∃ str, str = strOf t := ⟨_, rfl⟩
 have hsz : str.size = n := by rw [hstr, str_size, hn]
 rw [← hn] at h1 h12
 have hs0 : 0 < str.size := by omega
 have EA : Hid (str[0]'hs0 = c) := by
  show _ = _
  have := hstr
  subst this
  subst ht
  rfl
 rw [← hstr]
 have HN := Lib.hid hn
 have HST := Lib.hid hstr
 have g1 : decide ((n : Int) < 1) = false := decide_eq_false (by omega)
 have g2 : decide ((n : Int) > 12) = false := decide_eq_false (by omega)
 have hp0 : (0 : Int) < (n : Int) := by omega
 have HL := Lib.hid (fun w => rletter_any c w)
 rw [hl] at HL
 clear hl hn hstr ht
 go_enter Tryz.func75, Tryz.ntmps75
 go_wp2_with (go_at_call 147; rw [EA.out]; refine (HL.out _).mono ?_; rintro e w2 ⟨rfl, rfl⟩)
 clear EA HL
 go_loop [3] (fun x => ∃ k : Nat, k ≤ n ∧ x = .int .i64 (k : Int) ∧ ∀ (j : Nat) a, j < k → t[j]? = some a → charB a = true) (fun x => n - (intOf x).toNat)
 case atStart => exact ⟨0, Nat.zero_le _, rfl, fun j a hj => absurd hj (Nat.not_lt_zero _)⟩
 case round =>
  obtain ⟨k, hk, rfl, hall⟩ := hrel
  have HALL := Lib.hid hall
  clear hall
  by_cases hlt : k < n
  ·have g3 : decide ((k : Int) < (n : Int)) = true := decide_eq_true (by omega)
   obtain ⟨a, ha⟩ : ∃ a, t[k]? = some a := ⟨_, List.getElem?_eq_getElem (by have := HN.out; omega)⟩
   have hsk : k < str.size := by omega
   have EK : str[k]'hsk = a := by
    obtain ⟨q1, q2⟩ := List.getElem?_eq_some_iff.mp ha
    have := HST.out
    subst this
    exact q2
   have hk0 : 0 ≤ (k : Int) := by omega
   have hk1 : (k : Int) < (n : Int) := by omega
   have HLA := Lib.hid (fun w => rletter_any a w)
   have HA := Lib.hid ha
   have HCH : Hid (charB a = (letterB a || (decide (48 ≤ a.toNat) && decide (a.toNat ≤ 57)) || decide (a.toNat = 95))) := Lib.hid rfl
   clear ha
   cases hla : letterB a with
   | true =>
     rw [hla] at HCH HLA
     have HC : Hid (charB a = true) := Lib.hid (by rw [HCH.out]; rfl)
     clear hla
     go_wp2_with (go_at_call 147; (try rw [EK]); refine (HLA.out _).mono ?_; rintro e w2 ⟨rfl, rfl⟩)
     go_round
     case rel =>
      refine ⟨k + 1, by omega, by go_num, fun j b hj hb => ?_⟩
      by_cases hjk : j < k
      ·exact HALL.out j b hjk hb
      ·have : j = k := by omega
       subst this
       have e1 := HA.out.symm.trans hb
       injection e1 with e1
       subst e1
       exact HC.out
     case measure => simp [intOf]; omega
   | false =>
     rw [hla] at HCH HLA
     clear hla
     by_cases h48 : a.toNat < 48
     ·have g4 : decide ((a.toNat : Int) < 48) = true := decide_eq_true (by omega)
      have hne : ¬ ((a.toNat : Int) = 95) := by omega
      have hne2 : ((a.toNat : Int) == 95) = false := beq_false_of_ne hne
      have HC : Hid (charB a = false) := Lib.hid (by rw [HCH.out, decide_eq_false (show ¬ 48 ≤ a.toNat by omega), decide_eq_false (show ¬ a.toNat = 95 by omega)]; rfl)
      have HF : Hid (nameB t = false) := Lib.hid (by rw [HT.out, show t.all charB = false from by rw [List.all_eq_false]; exact ⟨a, List.mem_of_getElem? HA.out, by rw [HC.out]; simp⟩]; rfl)
      go_wp2_with (go_at_call 147; (try rw [EK]); refine (HLA.out _).mono ?_; rintro e w2 ⟨rfl, rfl⟩)
      go_ret
      exact ⟨ret_bool' HF.out.symm, Below.refl _ _⟩
     ·have g4 : decide ((a.toNat : Int) < 48) = false := decide_eq_false (by omega)
      by_cases h57 : a.toNat ≤ 57
      ·have g5 : decide ((a.toNat : Int) > 57) = false := decide_eq_false (by omega)
       have HC : Hid (charB a = true) := Lib.hid (by rw [HCH.out, decide_eq_true (show 48 ≤ a.toNat by omega), decide_eq_true h57]; rfl)
       go_wp2_with (go_at_call 147; (try rw [EK]); refine (HLA.out _).mono ?_; rintro e w2 ⟨rfl, rfl⟩)
       go_round
       case rel =>
        refine ⟨k + 1, by omega, by go_num, fun j b hj hb => ?_⟩
        by_cases hjk : j < k
        ·exact HALL.out j b hjk hb
        ·have : j = k := by omega
         subst this
         have e1 := HA.out.symm.trans hb
         injection e1 with e1
         subst e1
         exact HC.out
       case measure => simp [intOf]; omega
      ·have g5 : decide ((a.toNat : Int) > 57) = true := decide_eq_true (by omega)
       by_cases h95 : a.toNat = 95
       ·have hne : ((a.toNat : Int) = 95) := by omega
        have HC : Hid (charB a = true) := Lib.hid (by rw [HCH.out, decide_eq_true h95]; simp)
        have HLB : Hid (∀ w, Calls Tryz.prog 147 #[.int .u8 (95 : Int)] w fun e w' => e = .returned (.bool false) ∧ w = w') := Lib.hid (fun w => by have := HLA.out w; rw [hne] at this; exact this)
        go_wp2_with (go_at_call 147; (try rw [EK]); (try rw [hne]); with_reducible refine (HLB.out _).mono ?_; rintro e w2 ⟨rfl, rfl⟩)
        go_round
        case rel =>
         refine ⟨k + 1, by omega, by go_num, fun j b hj hb => ?_⟩
         by_cases hjk : j < k
         ·exact HALL.out j b hjk hb
         ·have : j = k := by omega
          subst this
          have e1 := HA.out.symm.trans hb
          injection e1 with e1
          subst e1
          exact HC.out
        case measure => simp [intOf]; omega
       ·have hne : ¬ ((a.toNat : Int) = 95) := by omega
        have hne2 : ((a.toNat : Int) == 95) = false := beq_false_of_ne hne
        have HC : Hid (charB a = false) := Lib.hid (by rw [HCH.out, decide_eq_false h57, decide_eq_false h95]; simp)
        have HF : Hid (nameB t = false) := Lib.hid (by rw [HT.out, show t.all charB = false from by rw [List.all_eq_false]; exact ⟨a, List.mem_of_getElem? HA.out, by rw [HC.out]; simp⟩]; rfl)
        go_wp2_with (go_at_call 147; (try rw [EK]); refine (HLA.out _).mono ?_; rintro e w2 ⟨rfl, rfl⟩)
        go_ret
        exact ⟨ret_bool' HF.out.symm, Below.refl _ _⟩
  ·have g3 : decide ((k : Int) < (n : Int)) = false := decide_eq_false (by omega)
   have hal : t.all charB = true := by
    rw [List.all_eq_true]
    intro x hx
    obtain ⟨j, hj⟩ := List.getElem?_of_mem hx
    exact HALL.out j x (by have := (List.getElem?_eq_some_iff.mp hj).1; have := HN.out; omega) hj
   have HA2 : Hid (nameB t = !(wordsL.contains t)) := Lib.hid (by rw [HT.out, hal]; rfl)
   have HW := Lib.hid (words_sl w)
   clear hal
   go_wp2_with (go_at_call 148; refine (rwords_any _).mono ?_; rintro e w2 ⟨rfl, rfl⟩)
   obtain ⟨w1, hw1⟩ : ∃ w1, w1 = w.alloc (.cells (txts wordsL).toArray 9) := ⟨_, rfl⟩
   rw [← hw1] at HW ⊢
   have HB1 : Hid (Below w.heap.size w w1) := Lib.hid (hw1 ▸ (Below.refl _ _).alloc (Nat.le_refl _) _)
   clear hw1
   go_loopg [5] 35 (fun h y wr => ∃ i : Nat, y = .int .i64 (i : Int) ∧ i + h = 35 ∧ wr = w1 ∧ ∀ (q : Nat) b, q < i → wordsL[q]? = some b → b ≠ t)
   case atStart => exact ⟨0, rfl, by omega, rfl, fun q b hq => absurd hq (Nat.not_lt_zero _)⟩
   case round =>
    obtain ⟨i, rfl, hi, rfl, hin⟩ := hrel
    obtain ⟨h0, hh0⟩ : ∃ h0, h0 = gk := ⟨_, rfl⟩
    subst hh0
    have HIN := Lib.hid hin
    clear hin
    by_cases hli : i < 35
    ·have g4 : decide ((i : Int) < 35) = true := decide_eq_true (by omega)
     obtain ⟨b, hb⟩ : ∃ b, wordsL[i]? = some b := ⟨_, List.getElem?_eq_getElem (by rw [words_length]; exact hli)⟩
     obtain ⟨g', off', e', c1⟩ := HW.out.at_ i (.string (strOf b)) (by rw [txts, List.getElem?_map, hb]; rfl)
     cases e'
     rw [Nat.zero_add] at c1
     have HB := Lib.hid hb
     by_cases hab : b = t
     ·subst hab
      rw [← HST.out] at c1
      have HF : Hid (nameB b = false) := Lib.hid (by rw [HA2.out, List.contains_iff_mem.mpr (List.mem_of_getElem? HB.out)]; rfl)
      clear hb
      go_wp2
      go_ret
      exact ⟨ret_bool' HF.out.symm, HB1.out⟩
     ·obtain ⟨sb, hsb⟩ : ∃ sb, sb = strOf b := ⟨_, rfl⟩
      have hne : ¬ sb.toList = str.toList := by rw [HST.out, hsb, str_list, str_list]; exact hab
      have hne2 : (sb.toList == str.toList) = false := by rw [HST.out, hsb, strOf_beq]; exact decide_eq_false hab
      rw [← hsb] at c1
      have HAB := Lib.hid hab
      clear hb hsb hab
      go_wp2
      go_roundg (h0 - 1)
      case measure => omega
      case rel =>
       refine ⟨i + 1, by go_num, by omega, rfl, fun q c hq hc => ?_⟩
       by_cases hqk : q < i
       ·exact HIN.out q c hqk hc
       ·have : q = i := by omega
        subst this
        have e1 := HB.out.symm.trans hc
        injection e1 with e1
        subst e1
        exact HAB.out
    ·have g4 : decide ((i : Int) < 35) = false := decide_eq_false (by omega)
     have HF : Hid (nameB t = true) := Lib.hid (by
      rw [HA2.out, Bool.not_eq_true']
      cases hc : wordsL.contains t with
      | false => rfl
      | true =>
        obtain ⟨j, hj⟩ := List.getElem?_of_mem (List.contains_iff_mem.mp hc)
        exact absurd rfl (HIN.out j t (by have := (List.getElem?_eq_some_iff.mp hj).1; rw [words_length] at this; omega) hj))
     go_wp2
     go_ret
     exact ⟨ret_bool' HF.out.symm, HB1.out⟩
theorem rname_any (w : World) (t : List UInt8) : Calls Tryz.prog 75 #[.string (strOf t)] w fun e w' => e = .returned (.bool (nameB t)) ∧ Below w.heap.size w w' := by
 by_cases h1 : t.length < 1
 ·exact rname_short w t h1
 ·by_cases h12 : 12 < t.length
  ·exact rname_long w t h12
  ·cases t with
   | nil => simp at h1
   | cons c r =>
     cases hl : letterB c with
     | false => exact rname_first w c r (by omega) hl
     | true => exact rname_loops w c r _ rfl (by omega) hl
end Go.Proofs.YtcjjphioeneiiaaGreatDoor

/- What is asked of the program's layer 9, and the walks of IdentRight and IdentLists. Conditions: those that each theorem names. -/
namespace Go.Proofs.YtcjjphioeneiiaaGreatDoor
open Go.RowKit
set_option linter.unusedVariables false
set_option maxRecDepth 100000

/-- What is asked of layer 9. -/
structure IdOk : Prop where
 right : ∀ w t, Calls Tryz.prog 126 #[.string (strOf t)] w fun e w' => e = .returned (.bool (nameB t)) ∧ Below w.heap.size w w'
 rise : ∀ w A cap n ts, Sl w A cap (txts ts) → n = ts.length → Calls Tryz.prog 131 #[.slice A n cap] w fun e w' => e = .returned (.bool (riseB ts)) ∧ Below w.heap.size w w'
 once : ∀ w A cap n ts, Sl w A cap (txts ts) → n = ts.length → n ≤ 1000000 → Calls Tryz.prog 128 #[.slice A n cap] w fun e w' => e = .returned (.bool (onceB ts)) ∧ Below w.heap.size w w'
theorem below_drewN {B : Nat} {a w : World} (h : Below B a w) (k : Nat) : Below B a (w.drewN k) :=
 ⟨h.os, h.tape, h.output, h.size, h.block⟩
end Go.Proofs.YtcjjphioeneiiaaGreatDoor

/- The document's digits of a number, and a text quoted. Conditions: those that each theorem names. -/
namespace Go.Proofs.YtcjjphioeneiiaaGreatDoor
open Go.RowKit
set_option linter.unusedVariables false
set_option maxRecDepth 100000

theorem strOf_nil : strOf [] = ⟨#[]⟩ := rfl
set_option maxHeartbeats 2000000 in
theorem rldigits_any (n : Nat) (neg : Bool) (w : World) (hn : n < 18446744073709551616) : Calls Tryz.prog 99 #[.int .u64 (n : Int), .bool neg] w fun e w' => e = .returned (.string (strOf (digitsT n neg))) ∧ Below w.heap.size w w' := by
 by_cases h0 : n = 0
 ·subst h0
  go_enter Tryz.func99, Tryz.ntmps99
  go_wp2
  go_ret
  exact ⟨rfl, Below.refl _ _⟩
 ·have e0 : ((n : Int) == 0) = false := beq_false_of_ne (by omega)
  have f0 : ¬ (n : Int) = 0 := by omega
  have HD := Lib.hid (decOf_len64 hn)
  have HT : Hid (digitsT n neg = if neg = true then 45 :: decOf n else decOf n) := Lib.hid (by unfold digitsT; rw [if_neg h0])
  go_enter Tryz.func99, Tryz.ntmps99
  go_wp2
  go_loopw [5, 6] (fun v x wr => ∃ (u : Nat) (l : List UInt8) (o : ByteArray), x = .int .u64 (u : Int) ∧ v = .string o ∧ o = strOf l ∧ u < 18446744073709551616 ∧ decOf n = decOf u ++ l ∧ Below w.heap.size w wr) (fun _ x _ => (intOf x).toNat)
  case atStart => exact ⟨n, [], _, rfl, rfl, strOf_nil.symm, hn, (List.append_nil _).symm, Below.refl _ _⟩
  case round =>
   obtain ⟨u, l, o, rfl, rfl, ho, hu, hd, hbel⟩ := hrel
   have hll : l.length ≤ 20 := by have := HD.out; rw [hd, List.length_append] at this; omega
   have hos : o.size = l.length := by rw [ho, str_size]
   have HO := Lib.hid ho
   have HDD := Lib.hid hd
   have HB := Lib.hid hbel
   clear ho hd hbel
   by_cases hu0 : u = 0
   ·subst hu0
    have HL : Hid (decOf n = l) := Lib.hid (by rw [HDD.out, decOf_zero, List.nil_append])
    have hc : ¬ 9223372036854775807 < 1 + o.size := by omega
    cases neg with
    | true =>
      rw [if_pos rfl] at HT
      go_wp2
      go_ret
      refine ⟨?_, HB.out⟩
      rw [HT.out, HL.out, show (45 :: l) = [45] ++ l from rfl, ← strOf_append, ← HO.out]
      rfl
    | false =>
      rw [if_neg (by simp)] at HT
      go_wp2
      go_ret
      exact ⟨by rw [HT.out, HL.out, ← HO.out]; rfl, HB.out⟩
   ·have g2 : decide ((u : Int) > 0) = true := decide_eq_true (by omega)
    have g3 : decide (0 < u) = true := decide_eq_true (by omega)
    have g4 : 0 < u := by omega
    obtain ⟨d, hd⟩ : ∃ d : UInt8, d = (48 + u % 10).toUInt8 := ⟨_, rfl⟩
    have hdn : (d.toNat : Int) = 48 + (u : Int) % 10 := by
     rw [hd, show ((48 + u % 10).toUInt8).toNat = (48 + u % 10) % 256 from rfl]; omega
    obtain ⟨sd, hsd⟩ : ∃ sd, sd = strOf [d] := ⟨_, rfl⟩
    have hcap : ¬ 9223372036854775807 < sd.size + o.size := by rw [hsd, str_size, List.length_singleton]; omega
    have hcv : (convert 172 9 (.slice (some ⟨wr.heap.size, 0, none⟩) 1 1)).run Tryz.prog (wr.alloc (.cells #[.int .u8 (48 + (u : Int) % 10)] 5)) = .ok (.string sd) (wr.alloc (.cells #[.int .u8 (48 + (u : Int) % 10)] 5)) := by
     rw [hsd]
     exact run_string_bytes (P := Tryz.prog) (Bs.lit wr _ _ [d] (by simp [cellsOf, hdn]) (by simp only [List.length_cons, List.length_nil]; unfold maxLen; omega)) Tryz.underlying172 Tryz.underlying5 Tryz.underlying9
    have HSD := Lib.hid hsd
    have HDE := Lib.hid hd
    clear hsd hd hdn
    go_wp2
    go_roundw
    case rel =>
     refine ⟨u / 10, d :: l, _, by go_num, rfl, ?_, by omega, ?_, HB.out.alloc HB.out.size _⟩
     ·rw [HSD.out, HO.out, strOf_append]; rfl
     ·rw [HDD.out, decOf_pos hu0, List.append_assoc, ← HDE.out]; rfl
    case measure => simp [intOf]; omega

end Go.Proofs.YtcjjphioeneiiaaGreatDoor

/- The document's token that a text begins with. Conditions: what number answers; those that each theorem names. -/
namespace Go.Proofs.YtcjjphioeneiiaaGreatDoor
open Go.RowKit
set_option linter.unusedVariables false
set_option maxRecDepth 100000

structure Tk where
 kind : Int
 s : List UInt8
 n : Nat
 neg : Bool
 pos : Nat
def tkV (x : Tk) : Value := .agg #[.int .i64 x.kind, .string (strOf x.s), .int .u64 (x.n : Int), .bool x.neg, .int .i64 (x.pos : Int)]
def tkCells (x : Tk) : List Value := [.int .i64 x.kind, .string (strOf x.s), .int .u64 (x.n : Int), .bool x.neg, .int .i64 (x.pos : Int)]
def tk0 : Tk := ⟨0, [], 0, false, 0⟩
def oneT (t : List UInt8) : Tk × Nat :=
 if 0 < wordN t then (⟨1, t.take (wordN t), 0, false, 0⟩, wordN t)
 else if 0 < (numT t).2.2 then (⟨2, [], (numT t).1, (numT t).2.1, 0⟩, (numT t).2.2)
 else if 0 < (textT t).2 then (⟨3, (textT t).1, 0, false, 0⟩, (textT t).2)
 else match t with
  | [] => (tk0, 0)
  | c :: r => if markB c = true then (⟨4, [c], 0, false, 0⟩, 1) else (tk0, 0)
def oneV (r : Tk × Nat) : Value := .tuple #[tkV r.1, .int .i64 (r.2 : Int)]
theorem box_below {w0 w : World} {p : Nat} (h : Below w0.heap.size w0 w) (hp : w0.heap.size ≤ p) (v0 v1 v2 v3 v4 : Value) :
 Below w0.heap.size w0 (((((w.setCell ⟨p, 0, none⟩ v0).setCell ⟨p, 1, none⟩ v1).setCell ⟨p, 2, none⟩ v2).setCell ⟨p, 3, none⟩ v3).setCell ⟨p, 4, none⟩ v4) :=
 ((((h.setCell (p := ⟨p, 0, none⟩) hp v0).setCell (p := ⟨p, 1, none⟩) hp v1).setCell (p := ⟨p, 2, none⟩) hp v2).setCell (p := ⟨p, 3, none⟩) hp v3).setCell (p := ⟨p, 4, none⟩) hp v4

end Go.Proofs.YtcjjphioeneiiaaGreatDoor

/- Layer 10 (no program here, but for the document's tokens in memory): all tokens of a text. Conditions: those that each theorem names. -/
namespace Go.Proofs.YtcjjphioeneiiaaGreatDoor
open Go.RowKit
set_option linter.unusedVariables false

theorem textR_le : ∀ (r : List UInt8) (p : List UInt8 × Nat), textR r = some p → p.2 ≤ r.length
 | [], p, h => by simp [textR] at h
 | [c], p, h => by
   by_cases hc : c.toNat = 39
   ·rw [textR_last hc] at h; cases h; simp
   ·rw [textR_other hc] at h; simp [textR] at h
 | c :: d :: q, p, h => by
   by_cases hc : c.toNat = 39
   ·by_cases hd : d.toNat = 39
    ·rw [textR_two hc hd] at h
     cases hq : textR q with
     | none => rw [hq] at h; simp at h
     | some x =>
       rw [hq] at h
       have := textR_le q x hq
       simp at h
       rw [← h]
       simp
       omega
    ·rw [textR_close hc hd] at h; cases h; simp
   ·rw [textR_other hc] at h
    cases hq : textR (d :: q) with
    | none => rw [hq] at h; simp at h
    | some x =>
      rw [hq] at h
      have := textR_le (d :: q) x hq
      simp at h
      rw [← h]
      simp at this ⊢
      omega
theorem textT_le (t : List UInt8) : (textT t).2 ≤ t.length := by
 cases t with
 | nil => exact Nat.le_refl _
 | cons c r =>
   unfold textT
   dsimp only
   split
   ·cases hr : textR r with
    | none => exact Nat.zero_le _
    | some p => have := textR_le r p hr; simp; exact this
   ·exact Nat.zero_le _
theorem oneT_le (t : List UInt8) : (oneT t).2 ≤ t.length := by
 unfold oneT
 split
 ·exact wordN_le t
 ·split
  ·exact numT_le t
  ·split
   ·exact textT_le t
   ·cases t with
    | nil => exact Nat.le_refl _
    | cons c r => dsimp only; split <;> simp
def passTo (t : List UInt8) (i : Nat) : Nat := i + passM false (t.drop i)
theorem passTo_le {t : List UInt8} {i : Nat} (h : i ≤ t.length) : passTo t i ≤ t.length := by
 unfold passTo
 have := passM_le false (t.drop i)
 rw [List.length_drop] at this
 omega
theorem passTo_ge (t : List UInt8) (i : Nat) : i ≤ passTo t i := Nat.le_add_right _ _
def tkAt (x : Tk) (i : Nat) : Tk := ⟨x.kind, x.s, x.n, x.neg, i⟩
/-- The tokens from a place on, the place where it ends, and whether that is the end. -/
def lexFrom (t : List UInt8) : Nat → Nat → List Tk × Nat × Bool
 | 0, i => ([], i, false)
 | f + 1, i => if i < t.length then (if (oneT (t.drop i)).2 = 0 then ([], i, false) else
     (tkAt (oneT (t.drop i)).1 i :: (lexFrom t f (passTo t (i + (oneT (t.drop i)).2))).1, (lexFrom t f (passTo t (i + (oneT (t.drop i)).2))).2)) else ([], i, true)
def lexS (t : List UInt8) : List Tk × Nat × Bool := lexFrom t (t.length + 1) (passTo t 0)
def lexT (t : List UInt8) (most : Int) : List Tk × Nat × Int :=
 if most < (t.length : Int) then ([], 0, 3) else if (lexS t).2.2 = true then ((lexS t).1 ++ [⟨0, [], 0, false, t.length⟩], t.length, 0) else ([], (lexS t).2.1, 2)
/-- So much was read. -/
structure LexAt (t : List UInt8) (acc : List Tk) (i : Nat) : Prop where
 all : lexS t = (acc ++ (lexFrom t (t.length + 1 - acc.length) i).1, (lexFrom t (t.length + 1 - acc.length) i).2)
 cnt : acc.length ≤ i
 le : i ≤ t.length
theorem lexAt_start (t : List UInt8) : LexAt t [] (passTo t 0) := ⟨rfl, Nat.zero_le _, passTo_le (Nat.zero_le _)⟩
section
variable {t : List UInt8} {acc : List Tk} {i : Nat}
theorem lexAt_fuel (h : LexAt t acc i) : t.length + 1 - acc.length = (t.length - acc.length) + 1 := by have := h.cnt; have := h.le; omega
theorem lex_ends (h : LexAt t acc i) (hi : ¬ i < t.length) : lexS t = (acc, i, true) := by
 have := h.all
 rw [lexAt_fuel h, lexFrom, if_neg hi, List.append_nil] at this
 exact this
theorem lex_fails (h : LexAt t acc i) (hi : i < t.length) (hz : (oneT (t.drop i)).2 = 0) : lexS t = (acc, i, false) := by
 have := h.all
 rw [lexAt_fuel h, lexFrom, if_pos hi, if_pos hz, List.append_nil] at this
 exact this
theorem lex_goes (h : LexAt t acc i) (hi : i < t.length) (hz : (oneT (t.drop i)).2 ≠ 0) : LexAt t (acc ++ [tkAt (oneT (t.drop i)).1 i]) (passTo t (i + (oneT (t.drop i)).2)) := by
 have ha := h.all
 rw [lexAt_fuel h, lexFrom, if_pos hi, if_neg hz] at ha
 have hle := oneT_le (t.drop i)
 rw [List.length_drop] at hle
 have hg := passTo_ge t (i + (oneT (t.drop i)).2)
 refine ⟨?_, by rw [List.length_append]; have := h.cnt; simp; omega, passTo_le (by omega)⟩
 rw [List.length_append, show t.length + 1 - (acc.length + [tkAt (oneT (t.drop i)).1 i].length) = t.length - acc.length by simp, List.append_assoc]
 exact ha
end

theorem tkCells_length (x : Tk) : (tkCells x).length = 5 := rfl
def tkRow (l : List Tk) : List Value := l.flatMap tkCells
theorem tkRow_length (l : List Tk) : (tkRow l).length = l.length * 5 := flat_length tkCells 5 tkCells_length l
theorem tkRow_snoc (l : List Tk) (x : Tk) : tkRow (l ++ [x]) = tkRow l ++ tkCells x := by simp [tkRow]
theorem tkCells_one (x : Tk) : ∀ u ∈ tkCells x, u.oneCell' = true := by
 intro u hu
 simp [tkCells] at hu
 rcases hu with rfl | rfl | rfl | rfl | rfl <;> rfl
/-- A slice that reads as these tokens. -/
structure Toks (w : World) (A : Option Addr) (cap : Nat) (l : List Tk) : Prop where
 le : l.length ≤ cap
 max : cap ≤ 9223372036854775807
 cells : ∀ (j : Nat) x, l[j]? = some x → ∃ g off, A = some ⟨g, off, none⟩ ∧ ∀ i u, (tkCells x)[i]? = some u → w.cell? ⟨g, off + j * 5 + i, none⟩ = some u
theorem toks_nil (w : World) (A : Option Addr) (cap : Nat) (h : cap ≤ 9223372036854775807) : Toks w A cap [] := ⟨Nat.zero_le _, h, fun j x hj => by simp at hj⟩
theorem toks_bel {w w' : World} {A : Option Addr} {cap : Nat} {l : List Tk} (h : Toks w A cap l) (hb : Below w.heap.size w w') : Toks w' A cap l :=
 ⟨h.le, h.max, fun j x hj => by
  obtain ⟨g, off, e, hc⟩ := h.cells j x hj
  refine ⟨g, off, e, fun i u hu => ?_⟩
  have h1 := hc i u hu
  exact (hb.cell (p := ⟨g, off + j * 5 + i, none⟩) (World.block_lt_of_cell? w _ h1)).trans h1⟩
/-- A row of the call's own reads so. -/
theorem toks_own {w : World} {base : Nat} {t : TypeId} {v : Value} {n : Nat} {l : List Tk} (h : w.ownsRow base t 5 v n (tkRow l)) : n = l.length ∧ ∃ A cap, v = .slice A l.length cap ∧ Toks w A cap l := by
 have hn : n = l.length := by have := h.1; rw [tkRow_length] at this; omega
 subst hn
 obtain ⟨A, cap, rfl, h1, h2, h3, _⟩ := own_form h
 refine ⟨rfl, A, cap, rfl, h1, by unfold maxLen at h2; omega, fun j x hj => ?_⟩
 have hjl := (List.getElem?_eq_some_iff.mp hj).1
 obtain ⟨g, cp, hv, _, _, _, _⟩ := own_pos h (by omega)
 injection hv with e1 e2 e3
 subst e1 e3
 refine ⟨g, 0, rfl, fun i u hu => ?_⟩
 have hi : i < 5 := by have := (List.getElem?_eq_some_iff.mp hu).1; rwa [tkCells_length] at this
 have hg : (tkRow l)[j * 5 + i]? = some u := by rw [Nat.mul_comm j 5]; exact (flat_get tkCells 5 tkCells_length l j x i hj hi).trans hu
 have := own_cell h (g := g) rfl hg
 rwa [Nat.zero_add]
end Go.Proofs.YtcjjphioeneiiaaGreatDoor

/- Layer 10 in plain words (no program here): a line feed behind a text changes no token of it. -/
namespace Go.Proofs.YtcjjphioeneiiaaGreatDoor
set_option linter.unusedVariables false

def later (d : Nat) (x : Tk) : Tk := tkAt x (d + x.pos)
end Go.Proofs.YtcjjphioeneiiaaGreatDoor

/- Layer 10 in plain words (no program here): what is quoted, and what is written as digits, is read as it. -/
namespace Go.Proofs.YtcjjphioeneiiaaGreatDoor
set_option linter.unusedVariables false

theorem numT_none {t : List UInt8} (h : numDs t = []) : numT t = (0, false, 0) := by
 unfold numT
 rw [if_pos]
 unfold numBad
 rw [decide_eq_true h]; rfl
theorem digit_nat (d : Nat) (h : d < 10) : ((48 + d).toUInt8).toNat = 48 + d := by
 show (48 + d) % 256 = 48 + d
 omega
theorem decOf_digits : ∀ (k n : Nat), n ≤ k → ∀ c ∈ decOf n, digitB c = true
 | 0, n, h, c, hc => by
   obtain rfl : n = 0 := by omega
   rw [decOf_zero] at hc
   cases hc
 | k + 1, n, h, c, hc => by
   by_cases h0 : n = 0
   ·subst h0; rw [decOf_zero] at hc; cases hc
   ·rw [decOf_pos h0, List.mem_append] at hc
    rcases hc with hc | hc
    ·exact decOf_digits k (n / 10) (by omega) c hc
    ·rw [List.mem_singleton] at hc
     rw [hc, digitB_iff, digit_nat (n % 10) (by omega)]
     omega
theorem decOf_val : ∀ (k n : Nat), n ≤ k → valOf 0 (decOf n) = n
 | 0, n, h => by
   obtain rfl : n = 0 := by omega
   rw [decOf_zero]; rfl
 | k + 1, n, h => by
   by_cases h0 : n = 0
   ·subst h0; rw [decOf_zero]; rfl
   ·rw [decOf_pos h0, valOf_append, decOf_val k (n / 10) (by omega), valOf_cons, digit_nat _ (by omega)]
    show 10 * (n / 10) + (48 + n % 10 - 48) = n
    omega
theorem decOf_ne {n : Nat} (h : n ≠ 0) : decOf n ≠ [] := by rw [decOf_pos h]; simp
theorem digit_first {c : UInt8} (h : digitB c = true) : letterB c = false ∧ c.toNat ≠ 45 ∧ blankB c = false ∧ c.toNat ≠ 47 := by
 rw [digitB_iff] at h
 refine ⟨?_, by omega, decide_eq_false (by omega), by omega⟩
 unfold letterB
 rw [decide_eq_false (by omega : ¬ 97 ≤ c.toNat), decide_eq_false (by omega : ¬ 65 ≤ c.toNat)]
 rfl
end Go.Proofs.YtcjjphioeneiiaaGreatDoor

/- Layer 18 in plain words (no program here): tokens, and where one is. Conditions: those that each theorem names. -/
namespace Go.Proofs.YtcjjphioeneiiaaGreatDoor
open Go.RowKit
set_option linter.unusedVariables false

/-- Where it is; whether it went wrong there. -/
structure Ps where
 at_i : Nat
 at_bad : Bool
def tokOf (l : List Tk) (i : Nat) : Tk := (l[i]?).getD ⟨0, [], 0, false, 0⟩
def isP (l : List Tk) (p : Ps) (t : List UInt8) : Bool := (!p.at_bad && (decide ((tokOf l p.at_i).kind = 4) || decide ((tokOf l p.at_i).kind = 1))) && decide ((tokOf l p.at_i).s = t)
def nextP (p : Ps) : Ps := ⟨p.at_i + 1, p.at_bad⟩
def wrongP (p : Ps) : Ps := ⟨p.at_i, true⟩
def needP (l : List Tk) (p : Ps) (t : List UInt8) : Ps := if isP l p t = true then nextP p else wrongP p
def noName (l : List Tk) (p : Ps) : Bool := p.at_bad || decide ((tokOf l p.at_i).kind ≠ 1)
def nameP (l : List Tk) (p : Ps) : List UInt8 × Ps := if noName l p = true then ([], wrongP p) else ((tokOf l p.at_i).s, nextP p)
def noNum (l : List Tk) (p : Ps) : Bool := ((p.at_bad || decide ((tokOf l p.at_i).kind ≠ 2)) || (tokOf l p.at_i).neg) || decide (1073741824 < (tokOf l p.at_i).n)
def numP (l : List Tk) (p : Ps) : Nat × Ps := if noNum l p = true then (0, wrongP p) else ((tokOf l p.at_i).n, nextP p)
end Go.Proofs.YtcjjphioeneiiaaGreatDoor

/- Layer 10 in plain words (no program here), on: texts piece by piece, and the tokens that they are read as. Conditions: those that each theorem names. -/
namespace Go.Proofs.YtcjjphioeneiiaaGreatDoor
open Go.RowKit
set_option linter.unusedVariables false

/-- What is left behind what is passed over. -/
def skipB (u : List UInt8) : List UInt8 := u.drop (passM false u)
/-- A text is read as these tokens, one by one, up to what is left. -/
def Run : List Tk → List UInt8 → List UInt8 → Prop
 | [], u, v => u = v
 | x :: ks, u, v => ∃ k, oneT u = (x, k) ∧ 0 < k ∧ Run ks (skipB (u.drop k)) v
theorem run_then : ∀ {a b : List Tk} {u v w : List UInt8}, Run a u v → Run b v w → Run (a ++ b) u w
 | [], b, u, v, w, h, k => by rw [show u = v from h]; exact k
 | x :: a, b, u, v, w, ⟨k, h1, h2, h3⟩, g => ⟨k, h1, h2, run_then h3 g⟩
theorem skip_len (u : List UInt8) : (skipB u).length ≤ u.length := by unfold skipB; rw [List.length_drop]; omega
theorem run_len : ∀ {ks : List Tk} {u v : List UInt8}, Run ks u v → ks.length + v.length ≤ u.length
 | [], u, v, h => by rw [show u = v from h]; simp
 | x :: ks, u, v, ⟨k, h1, h2, h3⟩ => by
   have h4 := run_len h3
   have h5 := skip_len (u.drop k)
   have h6 := oneT_le u
   rw [h1] at h6
   rw [List.length_drop] at h5
   rw [List.length_cons]
   dsimp only at h6
   omega
def bare (x : Tk) : Tk := tkAt x 0
theorem drop_pass (t : List UInt8) (i : Nat) : t.drop (passTo t i) = skipB (t.drop i) := by unfold passTo skipB; rw [List.drop_drop]
theorem run_from (t : List UInt8) : ∀ (ks : List Tk) (i f : Nat), i ≤ t.length → ks.length < f → Run ks (t.drop i) [] → ∃ l, lexFrom t f i = (l, t.length, true) ∧ l.map bare = ks.map bare
 | [], i, f, hi, hf, h => by
   have hn : t.drop i = [] := h
   have hi2 : i = t.length := by have := congrArg List.length hn; rw [List.length_drop, List.length_nil] at this; omega
   obtain ⟨g, rfl⟩ : ∃ g, f = g + 1 := ⟨f - 1, by simp at hf; omega⟩
   exact ⟨[], by rw [lexFrom, if_neg (by omega), hi2], rfl⟩
 | x :: ks, i, f, hi, hf, ⟨k, h1, h2, h3⟩ => by
   obtain ⟨g, rfl⟩ : ∃ g, f = g + 1 := ⟨f - 1, by rw [List.length_cons] at hf; omega⟩
   have h6 := oneT_le (t.drop i)
   rw [h1, List.length_drop] at h6
   dsimp only at h6
   rw [List.drop_drop, ← drop_pass] at h3
   obtain ⟨l, e1, e2⟩ := run_from t ks (passTo t (i + k)) g (passTo_le (by omega)) (by rw [List.length_cons] at hf; omega) h3
   refine ⟨tkAt x i :: l, ?_, ?_⟩
   ·rw [lexFrom, if_pos (by omega), h1]
    dsimp only
    rw [if_neg (by omega), e1]
   ·rw [List.map_cons, List.map_cons, e2]
    rfl
/-- All of a text. -/
theorem run_all {t : List UInt8} {ks : List Tk} (h : Run ks (skipB t) []) : ∃ l, lexS t = (l, t.length, true) ∧ l.map bare = ks.map bare := by
 have h1 := run_len h
 have h2 := skip_len t
 have h3 : t.drop (passTo t 0) = skipB t := drop_pass t 0
 exact run_from t ks (passTo t 0) (t.length + 1) (passTo_le (Nat.zero_le _)) (by simp at h1; omega) (by rw [h3]; exact h)

/-- A piece of a text, whatever stands behind it. -/
def Reads (t : List UInt8) (ks : List Tk) : Prop := ∀ rest, Run ks (skipB (t ++ rest)) (skipB rest)
theorem reads_nil : Reads [] [] := fun _ => rfl
theorem reads_then {a b : List UInt8} {ks ls : List Tk} (h : Reads a ks) (g : Reads b ls) : Reads (a ++ b) (ks ++ ls) := fun rest => by
 rw [List.append_assoc]
 exact run_then (h (b ++ rest)) (g rest)
theorem reads_flat {α : Type} {f : α → List UInt8} {g : α → List Tk} : ∀ {l : List α}, (∀ x ∈ l, Reads (f x) (g x)) → Reads (l.flatMap f) (l.flatMap g)
 | [], _ => reads_nil
 | x :: l, h => by
   rw [List.flatMap_cons, List.flatMap_cons]
   exact reads_then (h x List.mem_cons_self) (reads_flat (fun y hy => h y (List.mem_cons_of_mem _ hy)))
theorem reads_all {t : List UInt8} {ks : List Tk} (h : Reads t ks) : ∃ l, lexS t = (l, t.length, true) ∧ l.map bare = ks.map bare := run_all (by have := h []; rw [List.append_nil] at this; exact this)
theorem skip_blank {c : UInt8} (h : blankB c = true) (r : List UInt8) : skipB (c :: r) = skipB r := by
 unfold skipB
 rw [passM, if_pos h, List.drop_succ_cons]
theorem skip_stop {c : UInt8} (h : blankB c = false) (h2 : c.toNat ≠ 47) (r : List UInt8) : skipB (c :: r) = c :: r := by
 unfold skipB
 rw [passM, if_neg (by rw [h]; simp), if_neg (fun e => h2 e.1)]
 rfl
theorem reads_sp : Reads [32] [] := fun rest => skip_blank (by decide) rest
theorem reads_lf : Reads [10] [] := fun rest => skip_blank (by decide) rest
def nameTk (t : List UInt8) : Tk := ⟨1, t, 0, false, 0⟩
def numTk (n : Nat) : Tk := ⟨2, [], n, false, 0⟩
def markTk (c : UInt8) : Tk := ⟨4, [c], 0, false, 0⟩
/-- A name: a letter, then letters, digits, lines. -/
def wordish : List UInt8 → Bool
 | [] => false
 | c :: r => letterB c && r.all nameCh
theorem letter_first {c : UInt8} (h : letterB c = true) : blankB c = false ∧ c.toNat ≠ 47 := by
 unfold letterB at h
 simp only [Bool.or_eq_true, Bool.and_eq_true, decide_eq_true_iff] at h
 exact ⟨decide_eq_false (by omega), by omega⟩
theorem wordRun_to {d : UInt8} (hd : nameCh d = false) (rest : List UInt8) : ∀ {r : List UInt8}, r.all nameCh = true → wordRun (r ++ d :: rest) = r.length
 | [], _ => by rw [List.nil_append, wordRun, if_neg (by rw [hd]; simp)]; rfl
 | c :: r, h => by
   rw [List.all_cons, Bool.and_eq_true] at h
   rw [List.cons_append, wordRun, if_pos h.1, wordRun_to hd rest h.2, List.length_cons]
theorem one_word {t : List UInt8} (h : wordish t = true) {d : UInt8} (hd : nameCh d = false) (rest : List UInt8) : oneT (t ++ d :: rest) = (nameTk t, t.length) := by
 cases t with
 | nil => cases h
 | cons c r =>
   unfold wordish at h
   rw [Bool.and_eq_true] at h
   have hw : wordN (c :: r ++ d :: rest) = (c :: r).length := by
    rw [List.cons_append, wordN, if_pos h.1, wordRun_to hd rest h.2, List.length_cons]
   unfold oneT
   rw [hw, if_pos (by simp)]
   rw [List.take_left]
   rfl
theorem reads_word {t : List UInt8} (h : wordish t = true) {d : UInt8} (hd : nameCh d = false) (ks : List Tk) (hk : Reads [d] ks) : Reads (t ++ [d]) (nameTk t :: ks) := fun rest => by
 have e1 : t ++ [d] ++ rest = t ++ d :: rest := by rw [List.append_assoc]; rfl
 have e2 : skipB (t ++ d :: rest) = t ++ d :: rest := by
  cases t with
  | nil => cases h
  | cons c r =>
    unfold wordish at h
    rw [Bool.and_eq_true] at h
    obtain ⟨a1, a2⟩ := letter_first h.1
    exact skip_stop a1 a2 _
 rw [e1, e2]
 refine ⟨t.length, one_word h hd rest, ?_, ?_⟩
 ·cases t with
  | nil => cases h
  | cons c r => simp
 ·rw [List.drop_left]
  exact hk rest
theorem digs_to {d : UInt8} (hd : digitB d = false) (rest : List UInt8) : ∀ {l : List UInt8}, (∀ c ∈ l, digitB c = true) → digs (l ++ d :: rest) = l
 | [], _ => by rw [List.nil_append, digs_cons_no hd]
 | c :: l, h => by rw [List.cons_append, digs_cons_yes (h c List.mem_cons_self), digs_to hd rest (fun x hx => h x (List.mem_cons_of_mem _ hx))]
theorem dig_all {n : Nat} : ∀ c ∈ digitsT n false, digitB c = true := by
 unfold digitsT
 split
 ·intro c hc
  rw [List.mem_singleton] at hc
  subst hc
  decide
 ·rw [if_neg (by decide)]
  exact decOf_digits n n (Nat.le_refl _)
theorem dig_ne (n : Nat) : digitsT n false ≠ [] := by
 unfold digitsT
 split
 ·simp
 ·rename_i h
  rw [if_neg (by decide)]
  exact decOf_ne h
theorem dig_val (n : Nat) : valOf 0 (digitsT n false) = n := by
 unfold digitsT
 split
 ·rename_i h; rw [h]; rfl
 ·rw [if_neg (by decide)]
  exact decOf_val n n (Nat.le_refl _)
theorem tk_one_num {n : Nat} (hn : n < 18446744073709551616) {d : UInt8} (hd : digitB d = false) (rest : List UInt8) : oneT (digitsT n false ++ d :: rest) = (numTk n, (digitsT n false).length) := by
 obtain ⟨ds, hds⟩ : ∃ ds, ds = digitsT n false := ⟨_, rfl⟩
 have hall := dig_all (n := n)
 have hne := dig_ne n
 have hv := dig_val n
 rw [← hds] at hall hne hv ⊢
 cases ds with
 | nil => exact absurd rfl hne
 | cons c r =>
   obtain ⟨f1, f2, f3, f4⟩ := digit_first (hall c List.mem_cons_self)
   have hng : numNeg (c :: r ++ d :: rest) = false := by rw [List.cons_append]; exact decide_eq_false f2
   have hfr : numFrom (c :: r ++ d :: rest) = 0 := by unfold numFrom; rw [hng]; rfl
   have hd2 : numDs (c :: r ++ d :: rest) = c :: r := by unfold numDs; rw [hfr, List.drop_zero, digs_to hd rest hall]
   have hnv : numV (c :: r ++ d :: rest) = n := by unfold numV; rw [hd2, hv]
   have hni : numI (c :: r ++ d :: rest) = (c :: r).length := by unfold numI; rw [hfr, hd2, Nat.zero_add]
   have hnt : numT (c :: r ++ d :: rest) = (n, false, (c :: r).length) := by
    unfold numT numBad
    rw [hd2, hnv, hng, hni, decide_eq_false hne, decide_eq_false (by omega : ¬ 18446744073709551616 ≤ n), ← hds, List.take_left]
    simp
   have hw : wordN (c :: r ++ d :: rest) = 0 := by rw [List.cons_append]; show (if letterB c = true then _ else 0) = 0; rw [f1]; rfl
   unfold oneT
   rw [hw, if_neg (by decide), hnt, if_pos (by simp)]
   rfl
theorem reads_num {n : Nat} (hn : n < 18446744073709551616) {d : UInt8} (hd : digitB d = false) (ks : List Tk) (hk : Reads [d] ks) : Reads (digitsT n false ++ [d]) (numTk n :: ks) := fun rest => by
 have e1 : digitsT n false ++ [d] ++ rest = digitsT n false ++ d :: rest := by rw [List.append_assoc]; rfl
 have e2 : skipB (digitsT n false ++ d :: rest) = digitsT n false ++ d :: rest := by
  have hall := dig_all (n := n)
  have hne := dig_ne n
  cases hds : digitsT n false with
  | nil => exact absurd hds hne
  | cons c r =>
    rw [hds] at hall
    obtain ⟨f1, f2, f3, f4⟩ := digit_first (hall c List.mem_cons_self)
    exact skip_stop f3 f4 _
 rw [e1, e2]
 refine ⟨(digitsT n false).length, tk_one_num hn hd rest, ?_, ?_⟩
 ·have hne := dig_ne n
  cases hds : digitsT n false with
  | nil => exact absurd hds hne
  | cons c r => simp
 ·rw [List.drop_left]
  exact hk rest
theorem mark_facts {c : UInt8} (h : markB c = true) : letterB c = false ∧ digitB c = false ∧ c.toNat ≠ 45 ∧ c.toNat ≠ 39 ∧ blankB c = false ∧ c.toNat ≠ 47 := by
 unfold markB at h
 rw [decide_eq_true_iff] at h
 refine ⟨?_, ?_, by omega, by omega, decide_eq_false (by omega), by omega⟩
 ·unfold letterB
  simp only [Bool.or_eq_false_iff, Bool.and_eq_false_iff, decide_eq_false_iff_not]
  omega
 ·unfold digitB
  simp only [Bool.and_eq_false_iff, decide_eq_false_iff_not]
  omega
theorem tk_one_mark {c : UInt8} (h : markB c = true) (rest : List UInt8) : oneT (c :: rest) = (markTk c, 1) := by
 obtain ⟨m1, m2, m3, m4, m5, m6⟩ := mark_facts h
 have hw : wordN (c :: rest) = 0 := by show (if letterB c = true then _ else 0) = 0; rw [m1]; rfl
 have hng : numNeg (c :: rest) = false := decide_eq_false m3
 have hds : numDs (c :: rest) = [] := by unfold numDs numFrom; rw [hng]; exact digs_cons_no m2
 have hnt : numT (c :: rest) = (0, false, 0) := numT_none hds
 have htx : (textT (c :: rest)).2 = 0 := by unfold textT; dsimp only; rw [if_neg m4]
 unfold oneT
 rw [hw, if_neg (by decide), hnt, if_neg (by decide), htx, if_neg (by decide)]
 dsimp only
 rw [if_pos h]
 rfl
theorem reads_mark {c : UInt8} (h : markB c = true) : Reads [c] [markTk c] := fun rest => by
 obtain ⟨m1, m2, m3, m4, m5, m6⟩ := mark_facts h
 refine ⟨1, ?_, by decide, ?_⟩
 ·rw [List.singleton_append, skip_stop m5 m6]
  exact tk_one_mark h rest
 ·rw [List.singleton_append, skip_stop m5 m6]
  rfl
end Go.Proofs.YtcjjphioeneiiaaGreatDoor
