/- Several texts in one: LwM, LwD. What each proves, and its conditions, stands at its own head. -/
import Derived.Test.YtcjjphioeneiiaaGreatDoorPkSB14
import Derived.Lib.ParseIntB
import Derived.Lib.ReplaceLaws
import Derived.Lib.IndexMore
import Derived.Lib.ItoaNum
import Derived.Lib.Strings
import Derived.Test.YtcjjphioeneiiaaGreatDoorPkSB1
import Derived.Test.YtcjjphioeneiiaaGreatDoorPkSB8
import Derived.Lib.AppendIntMem
import Derived.Lib.SmallJoins
/- Layer 10 in plain words (no program here): the program's way of reading (by the library's Index, Cut, ParseUint, FormatUint, ReplaceAll), held against the document's. Conditions: those that each theorem names. -/
namespace Go.Proofs.YtcjjphioeneiiaaGreatDoor
set_option linter.unusedVariables false

theorem u8_is (c k : UInt8) (n : Nat) (hk : k.toNat = n) : (c == k) = decide (c.toNat = n) := by
 subst hk
 by_cases h : c = k
 ·subst h; simp
 ·rw [beq_eq_false_iff_ne.mpr h, decide_eq_false (fun e => h (UInt8.toNat_inj.mp e))]
/-- How many bytes there are ahead of the first byte k. -/
def upto (k : Nat) : List UInt8 → Nat
 | [] => 0
 | c :: r => if c.toNat = k then 0 else upto k r + 1
theorem upto_yes {k : Nat} {c : UInt8} (r : List UInt8) (h : c.toNat = k) : upto k (c :: r) = 0 := by rw [upto, if_pos h]
theorem upto_no {k : Nat} {c : UInt8} (r : List UInt8) (h : ¬ c.toNat = k) : upto k (c :: r) = upto k r + 1 := by rw [upto, if_neg h]
theorem upto_le (k : Nat) : ∀ r, upto k r ≤ r.length
 | [] => Nat.le_refl _
 | c :: r => by
   have := upto_le k r
   rw [upto]
   split
   ·exact Nat.zero_le _
   ·rw [List.length_cons]; omega
theorem upto_index (k : UInt8) : ∀ l, Lib.indexByte l k = if upto k.toNat l < l.length then (upto k.toNat l : Int) else -1
 | [] => rfl
 | c :: r => by
   have ih := upto_index k r
   rw [Lib.indexByte, u8_is c k _ rfl]
   by_cases h : c.toNat = k.toNat
   ·rw [decide_eq_true h, if_pos rfl, upto_yes r h, if_pos (by simp)]; rfl
   ·rw [decide_eq_false h, if_neg (by decide), upto_no r h, ih]
    have := upto_le k.toNat r
    by_cases hl : upto k.toNat r < r.length
    ·rw [if_pos hl, if_neg (by simp), if_pos (by rw [List.length_cons]; omega)]; simp
    ·rw [if_neg hl, if_pos (by decide), if_neg (by rw [List.length_cons]; omega)]
theorem upto_index1 (k : UInt8) : ∀ l, Lib.index l [k] = if upto k.toNat l < l.length then (upto k.toNat l : Int) else -1
 | [] => rfl
 | c :: r => by
   have ih := upto_index1 k r
   have e : [k].isPrefixOf (c :: r) = decide (c.toNat = k.toNat) := by
    show (k == c && [].isPrefixOf r) = _
    rw [u8_is k c _ rfl]
    simp [eq_comm]
   rw [Lib.index, e]
   by_cases h : c.toNat = k.toNat
   ·rw [decide_eq_true h, if_pos rfl, upto_yes r h, if_pos (by simp)]; rfl
   ·rw [decide_eq_false h, if_neg (by decide), upto_no r h, ih]
    have := upto_le k.toNat r
    by_cases hl : upto k.toNat r < r.length
    ·rw [if_pos hl, if_neg (by simp), if_pos (by rw [List.length_cons]; omega)]; simp
    ·rw [if_neg hl, if_pos (by decide), if_neg (by rw [List.length_cons]; omega)]
theorem cut_at (k : UInt8) (l : List UInt8) : Lib.cut l [k] = if upto k.toNat l < l.length then (l.take (upto k.toNat l), l.drop (upto k.toNat l + 1), true) else (l, [], false) := by
 unfold Lib.cut
 rw [upto_index1]
 by_cases hl : upto k.toNat l < l.length
 ·rw [if_pos hl, if_pos hl, if_pos (by omega)]; simp
 ·rw [if_neg hl, if_neg hl, if_neg (by decide)]
/- what is passed over -/
theorem pass_line : ∀ r, passM true r = upto 10 r + passM false (r.drop (upto 10 r))
 | [] => rfl
 | c :: r => by
   by_cases h : c.toNat = 10
   ·have hb : blankB c = true := decide_eq_true (.inr (.inl h))
    rw [upto_yes r h, List.drop_zero, passM, if_pos h, passM, if_pos hb]; omega
   ·rw [upto_no r h, passM, if_neg h, pass_line r, List.drop_succ_cons]; omega
theorem pass_slash {c d : UInt8} (r : List UInt8) (hc : c.toNat = 47) (hd : d.toNat = 47) : passM false (c :: d :: r) = upto 10 (c :: d :: r) + passM false ((c :: d :: r).drop (upto 10 (c :: d :: r))) := by
 have hb : ¬ blankB c = true := by unfold blankB; simp; omega
 rw [upto_no _ (by omega), passM, if_neg hb, if_pos ⟨hc, by simp [hd]⟩, pass_line (d :: r), List.drop_succ_cons]
 omega
theorem pass_blank1 {c : UInt8} (r : List UInt8) (h : blankB c = true) : passM false (c :: r) = 1 + passM false r := by rw [passM, if_pos h]; omega
def slashB (l : List UInt8) : Bool := Lib.hasPrefix l [47, 47]
theorem slash_form {c : UInt8} {r : List UInt8} (h : slashB (c :: r) = true) : c.toNat = 47 ∧ ∃ d q, r = d :: q ∧ d.toNat = 47 := by
 cases r with
 | nil => simp [slashB, Lib.hasPrefix] at h
 | cons d q =>
   simp only [slashB, Lib.hasPrefix, List.isPrefixOf, Bool.and_true, Bool.and_eq_true, beq_iff_eq] at h
   obtain ⟨h1, h2⟩ := h
   subst h1 h2
   exact ⟨rfl, 47, q, rfl, rfl⟩
theorem pass_not {c : UInt8} {r : List UInt8} (hb : blankB c = false) (hs : slashB (c :: r) = false) : passM false (c :: r) = 0 := by
 rw [passM, if_neg (by simp [hb]), if_neg]
 rintro ⟨h1, h2⟩
 cases r with
 | nil => simp at h2
 | cons d q =>
   simp at h2
   have e1 : c = 47 := UInt8.toNat_inj.mp h1
   have e2 : d = 47 := UInt8.toNat_inj.mp h2
   subst e1 e2
   simp [slashB, Lib.hasPrefix, List.isPrefixOf] at hs
/- by places -/
section
variable {t acc : List UInt8} {k : Nat} {c : UInt8}
theorem pt_blank (h : t[k]? = some c) (hb : blankB c = true) : passTo t k = passTo t (k + 1) := by
 unfold passTo
 rw [drop_get h, pass_blank1 _ hb]; omega
theorem pt_slash (h : t[k]? = some c) (hs : slashB (t.drop k) = true) : passTo t k = passTo t (k + upto 10 (t.drop k)) := by
 unfold passTo
 rw [drop_get h] at hs
 obtain ⟨h1, d, q, h2, h3⟩ := slash_form hs
 have e : t.drop k = c :: d :: q := by rw [drop_get h, h2]
 rw [← List.drop_drop, e, pass_slash q h1 h3]; omega
theorem pt_not (h : t[k]? = some c) (hb : blankB c = false) (hs : slashB (t.drop k) = false) : passTo t k = k := by
 unfold passTo
 rw [drop_get h] at hs ⊢
 rw [pass_not hb hs]; rfl
theorem pt_end (h : t.length ≤ k) : passTo t k = k := by
 unfold passTo
 rw [List.drop_of_length_le h]; rfl
theorem upto_pos (h : t[k]? = some c) (hs : slashB (t.drop k) = true) : 0 < upto 10 (t.drop k) := by
 rw [drop_get h] at hs ⊢
 rw [upto_no _ (by have := (slash_form hs).1; omega)]; omega
end
/- names -/
theorem wordN_letter {c : UInt8} {r : List UInt8} (h : letterB c = true) : wordN (c :: r) = wordRun (c :: r) := by
 rw [wordN, if_pos h, wordRun, if_pos (by unfold nameCh; rw [h]; rfl)]
theorem wordN_pos {c : UInt8} {r : List UInt8} (h : letterB c = true) : 0 < wordN (c :: r) := by rw [wordN, if_pos h]; omega
theorem wordN_no {c : UInt8} {r : List UInt8} (h : letterB c = false) : wordN (c :: r) = 0 := by rw [wordN, if_neg (by simp [h])]
/-- How many bytes of a kind stand ahead. -/
def runN (f : UInt8 → Bool) : List UInt8 → Nat
 | [] => 0
 | c :: r => if f c = true then runN f r + 1 else 0
theorem runN_name : ∀ l, runN nameCh l = wordRun l
 | [] => rfl
 | c :: r => by rw [runN, wordRun, runN_name r]
theorem runN_digs : ∀ l, runN digitB l = (digs l).length
 | [] => rfl
 | c :: r => by
   rw [runN, runN_digs r]
   by_cases h : digitB c = true
   ·rw [if_pos h, digs_cons_yes h]; rfl
   ·rw [if_neg h, digs_cons_no (by simpa using h)]; rfl
/-- So much was counted. -/
theorem runN_step {f : UInt8 → Bool} {l : List UInt8} {k : Nat} {c : UInt8} (h : l[k]? = some c) (hf : f c = true) : k + runN f (l.drop k) = (k + 1) + runN f (l.drop (k + 1)) := by
 rw [drop_get h, runN, if_pos hf]; omega
theorem runN_stop {f : UInt8 → Bool} {l : List UInt8} {k : Nat} {c : UInt8} (h : l[k]? = some c) (hf : f c = false) : k + runN f (l.drop k) = k := by
 rw [drop_get h, runN, if_neg (by simp [hf])]; rfl
theorem runN_end {f : UInt8 → Bool} {l : List UInt8} {k : Nat} (h : l.length ≤ k) : k + runN f (l.drop k) = k := by
 rw [List.drop_of_length_le h]; rfl
/- numbers -/
theorem digs_all : ∀ (t : List UInt8), ∀ c ∈ digs t, digitB c = true
 | [], c, h => by simp [digs] at h
 | d :: r, c, h => by
   by_cases hd : digitB d = true
   ·rw [digs_cons_yes hd] at h
    rcases List.mem_cons.1 h with rfl | h
    ·exact hd
    ·exact digs_all r c h
   ·rw [digs_cons_no (by simpa using hd)] at h; simp at h
theorem parse_digs : ∀ (l : List UInt8) (acc : Nat), (∀ c ∈ l, digitB c = true) → acc < 18446744073709551616 →
 Lib.parseUintM 18446744073709551615 acc l = if valOf acc l < 18446744073709551616 then .ok (valOf acc l) else .range
 | [], acc, _, h => by
   have e : valOf acc [] = acc := rfl
   rw [e, if_pos h]; rfl
 | c :: r, acc, hd, h => by
   have hc := (digitB_iff c).1 (hd c (by simp))
   have hg := valOf_ge r (10 * acc + (c.toNat - 48))
   rw [Lib.parseUintM, if_pos hc, valOf_cons]
   by_cases h1 : 1844674407370955162 ≤ acc
   ·rw [if_pos h1, if_neg (by omega)]
   ·rw [if_neg h1]
    by_cases h2 : 18446744073709551615 < acc * 10 + (c.toNat - 48)
    ·rw [if_pos h2, if_neg (by omega)]
    ·rw [if_neg h2, show acc * 10 + (c.toNat - 48) = 10 * acc + (c.toNat - 48) by omega]
     exact parse_digs r _ (fun x hx => hd x (by simp [hx])) (by omega)
theorem parse_num (t : List UInt8) : Lib.parseUintB 64 (numDs t) = if numDs t = [] then Lib.parseUintB 64 [] else if numV t < 18446744073709551616 then .ok (numV t) else .range := by
 by_cases h : numDs t = []
 ·rw [if_pos h, h]
 ·rw [if_neg h]
  unfold Lib.parseUintB
  rw [if_neg h]
  exact parse_digs _ 0 (digs_all _) (by decide)
theorem neg_prefix (t : List UInt8) : Lib.hasPrefix t [45] = numNeg t := by
 cases t with
 | nil => rfl
 | cons c r =>
   show ((45 : UInt8) == c && [].isPrefixOf r) = decide (c.toNat = 45)
   rw [u8_is 45 c _ rfl]
   simp [eq_comm]
theorem neg_trim (t : List UInt8) : Lib.trimPrefix t [45] = t.drop (numFrom t) := by
 unfold Lib.trimPrefix numFrom
 rw [neg_prefix]
 cases numNeg t <;> rfl
theorem numDs_take (t : List UInt8) : (t.drop (numFrom t)).take (numDs t).length = numDs t := by
 have h : (digs (t.drop (numFrom t))) <+: t.drop (numFrom t) := List.takeWhile_prefix _
 exact (List.prefix_iff_eq_take.1 h).symm
/-- What the program's number answers. -/
def numR (t : List UInt8) : Tk × Nat := if numBad t = true then (tk0, 0) else (⟨2, [], numV t, numNeg t, 0⟩, numI t)
theorem numBad_pos {t : List UInt8} (h : numBad t = false) : 0 < numI t := by
 unfold numBad at h
 simp only [Bool.or_eq_false_iff, decide_eq_false_iff_not] at h
 have : 0 < (numDs t).length := List.length_pos_iff.mpr h.1
 unfold numI
 omega
theorem textT_no39 {c : UInt8} {r : List UInt8} (h : c.toNat ≠ 39) : textT (c :: r) = ([], 0) := text_no (fun d hd => by simp at hd; subst hd; exact h)
theorem numBad_head {c : UInt8} {r : List UInt8} (hd : digitB c = false) (hm : c.toNat ≠ 45) : numBad (c :: r) = true := by
 have e : numDs (c :: r) = [] := by
  unfold numDs numFrom
  rw [show numNeg (c :: r) = false from decide_eq_false hm, if_neg (by decide), List.drop_zero, digs_cons_no hd]
 unfold numBad
 rw [e]; simp
theorem letter_mark {c : UInt8} (h : markB c = true) : letterB c = false ∧ digitB c = false ∧ c.toNat ≠ 45 ∧ c.toNat ≠ 39 := by
 unfold markB at h
 unfold letterB digitB
 simp at h ⊢
 omega
section
variable {c : UInt8} {r : List UInt8}
theorem one_name (h : letterB c = true) : oneT (c :: r) = (⟨1, (c :: r).take (wordRun (c :: r)), 0, false, 0⟩, wordRun (c :: r)) := by
 unfold oneT
 rw [if_pos (wordN_pos h), wordN_letter h]
theorem one_num (h : letterB c = false) (hd : digitB c = true ∨ c.toNat = 45) : oneT (c :: r) = numR (c :: r) := by
 have h39 : c.toNat ≠ 39 := by rcases hd with hd | hd
                               ·have := (digitB_iff c).1 hd; omega
                               ·omega
 have hmk : markB c = false := by
  cases hm : markB c
  ·rfl
  ·have := letter_mark hm
   rcases hd with hd | hd
   ·rw [this.2.1] at hd; cases hd
   ·exact absurd hd this.2.2.1
 unfold oneT numR
 rw [wordN_no h, if_neg (by decide)]
 unfold numT
 cases hb : numBad (c :: r)
 ·simp only [Bool.false_eq_true, if_false]
  rw [if_pos (numBad_pos hb)]
 ·simp only [if_true]
  rw [if_neg (by decide), textT_no39 h39, if_neg (by decide)]
  rw [hmk]; rfl
theorem one_rest (h : letterB c = false) (hd : digitB c = false) (hm : c.toNat ≠ 45) : oneT (c :: r) = if 0 < (textT (c :: r)).2 then (⟨3, (textT (c :: r)).1, 0, false, 0⟩, (textT (c :: r)).2) else if markB c = true then (⟨4, [c], 0, false, 0⟩, 1) else (tk0, 0) := by
 unfold oneT
 rw [wordN_no h, if_neg (by decide)]
 unfold numT
 rw [numBad_head hd hm, if_pos rfl, if_neg (by decide)]
/-- What the program's text answers. -/
def txtR (t : List UInt8) : Tk × Nat := if 0 < (textT t).2 then (⟨3, (textT t).1, 0, false, 0⟩, (textT t).2) else (tk0, 0)
theorem one_txt (h : c.toNat = 39) : oneT (c :: r) = txtR (c :: r) := by
 rw [one_rest (by unfold letterB; simp; omega) (by unfold digitB; simp; omega) (by omega)]
 unfold txtR
 rw [show markB c = false by unfold markB; simp; omega]
 rfl
theorem one_mark (h : markB c = true) : oneT (c :: r) = (⟨4, [c], 0, false, 0⟩, 1) := by
 obtain ⟨h1, h2, h3, h4⟩ := letter_mark h
 rw [one_rest h1 h2 h3, textT_no39 h4, if_neg (by decide), if_pos h]
theorem one_none (h : letterB c = false) (hd : digitB c = false) (hm : c.toNat ≠ 45) (h39 : c.toNat ≠ 39) (hk : markB c = false) : oneT (c :: r) = (tk0, 0) := by
 rw [one_rest h hd hm, textT_no39 h39, if_neg (by decide), if_neg (by simp [hk])]
end
theorem mark_fin : ∀ n : Fin 256, decide (0 ≤ Lib.indexByte [123, 125, 40, 41, 61, 44, 46, 59] n.val.toUInt8) = markB n.val.toUInt8 := by decide +kernel
theorem mark_index (c : UInt8) : decide (0 ≤ Lib.indexByte [123, 125, 40, 41, 61, 44, 46, 59] (c.toNat : Int).toNat.toUInt8) = markB c := by
 have h := mark_fin ⟨c.toNat, c.toNat_lt⟩
 simpa using h
/- texts -/
theorem textR_none : ∀ l, ¬ upto 39 l < l.length → textR l = none
 | [], _ => by rw [textR.eq_def]
 | c :: r, h => by
   by_cases hc : c.toNat = 39
   ·rw [upto_yes r hc] at h; simp at h
   ·rw [upto_no r hc, List.length_cons] at h
    rw [textR_other hc, textR_none r (by omega)]; rfl
theorem textR_shut : ∀ l, upto 39 l < l.length → (∀ d, l[upto 39 l + 1]? = some d → d.toNat ≠ 39) → textR l = some (l.take (upto 39 l), upto 39 l + 1)
 | [], h, _ => by simp [upto] at h
 | c :: r, h, hd => by
   by_cases hc : c.toNat = 39
   ·rw [upto_yes r hc] at hd ⊢
    cases r with
    | nil => rw [textR_last hc]; rfl
    | cons d q => rw [textR_close hc (hd d rfl)]; rfl
   ·rw [upto_no r hc] at h hd ⊢
    rw [textR_other hc, textR_shut r (by rw [List.length_cons] at h; omega) (fun d h' => hd d h')]
    rfl
theorem textR_again : ∀ l, upto 39 l < l.length → (∃ d, l[upto 39 l + 1]? = some d ∧ d.toNat = 39) →
 textR l = (textR (l.drop (upto 39 l + 2))).map (fun p => (l.take (upto 39 l) ++ (39 :: p.1), upto 39 l + 2 + p.2))
 | [], h, _ => by simp [upto] at h
 | c :: r, h, hd => by
   by_cases hc : c.toNat = 39
   ·rw [upto_yes r hc] at hd ⊢
    obtain ⟨d, h1, h2⟩ := hd
    cases r with
    | nil => simp at h1
    | cons e q =>
      simp at h1
      subst h1
      rw [textR_two hc h2]
      show _ = (textR q).map _
      congr 1
      funext p
      simp
      omega
   ·rw [upto_no r hc] at h hd ⊢
    rw [textR_other hc, textR_again r (by rw [List.length_cons] at h; omega) (by obtain ⟨d, h1, h2⟩ := hd; exact ⟨d, h1, h2⟩), Option.map_map]
    show _ = (textR (r.drop (upto 39 r + 2))).map _
    congr 1
    funext p
    simp
    omega
section
variable {t o : List UInt8} {i : Nat} {c : UInt8}
theorem txt_end (h : TextAt t o i) (hi : 1 ≤ i) (h0 : t[0]? = some c) (h39 : c.toNat = 39) {p : List UInt8} {m : Nat} (hr : textR (t.drop i) = some (p, m)) : textT t = (o ++ p, i + m) := by
 unfold TextAt at h
 rw [hr] at h
 cases t with
 | nil => simp at h0
 | cons b r =>
   simp at h0
   subst h0
   have h' : textR r = some (o ++ p, i - 1 + m) := h
   unfold textT
   dsimp only
   rw [if_pos h39, h']
   simp
   omega
theorem txt_more (h : TextAt t o i) (hi : 1 ≤ i) (hq : upto 39 (t.drop i) < (t.drop i).length) {d : UInt8} (hd : t[i + upto 39 (t.drop i) + 1]? = some d) (hd39 : d.toNat = 39) :
 TextAt t (o ++ (t.drop i).take (upto 39 (t.drop i)) ++ [39]) (i + upto 39 (t.drop i) + 2) := by
 unfold TextAt at *
 rw [h, textR_again _ hq ⟨d, by rw [List.getElem?_drop]; exact hd, hd39⟩, Option.map_map, List.drop_drop, show i + (upto 39 (t.drop i) + 2) = i + upto 39 (t.drop i) + 2 by omega]
 congr 1
 funext p
 simp
 omega
end
/- quotes, digits -/
theorem dec_lib : ∀ (k n : Nat), n ≤ k → n ≠ 0 → Lib.decDigits n = decOf n
 | 0, n, h, h0 => absurd (Nat.le_zero.1 h) h0
 | k + 1, n, h, h0 => by
   rw [Lib.decDigits, decOf_pos h0]
   by_cases h10 : n < 10
   ·rw [dif_pos h10, show n / 10 = 0 by omega, decOf_zero, show n % 10 = n by omega]; rfl
   ·rw [dif_neg h10, dec_lib k (n / 10) (by omega) (by omega)]
theorem digitsT_lib (n : Nat) (neg : Bool) : digitsT n neg = if (neg && decide (n ≠ 0)) = true then 45 :: Lib.decDigits n else Lib.decDigits n := by
 unfold digitsT
 by_cases h : n = 0
 ·subst h
  rw [if_pos rfl, decide_eq_false (fun h => h rfl), Bool.and_false, if_neg (by decide), Lib.decDigits, dif_pos (by decide)]; rfl
 ·rw [if_neg h, decide_eq_true h, Bool.and_true, dec_lib n n (Nat.le_refl _) h]
end Go.Proofs.YtcjjphioeneiiaaGreatDoor

/- The library's table of tens as a law's row lays it (`DecEnv`); FormatUint; the program's Digits. Conditions: DecEnv; those that each theorem names. -/
namespace Go.Proofs.YtcjjphioeneiiaaGreatDoor
open Go.RowKit Go.Sort
set_option linter.unusedVariables false
set_option maxRecDepth 100000

structure DecEnv (w : World) : Prop where
 tab : Lib.TabIs Tryz.prog w "internal/strconv.uint64pow10" .u64 Lib.pow10Tab
theorem gv_tab : Tryz.prog.globalNamed "internal/strconv.uint64pow10" = some 4 := by kernel_rfl
theorem DecEnv.along {w w' : World} (h : DecEnv w) (hb : Below w.heap.size w w') : DecEnv w' := ⟨Joins.var_stays gv_tab h.tab hb (Nat.le_refl _)⟩

theorem sm_any (i : Nat) (h : i < 100) (w : World) : Calls Tryz.prog 284 #[.int .i64 (i : Int)] w fun e w' => e = .returned (.string (strOf (Lib.decDigits i))) ∧ w' = w := Any.internal_strconv_small lsm_lays i h w
theorem nd_any (u : Nat) (h1 : 1 ≤ u) (h2 : u < 18446744073709551616) (w : World) (htab : Lib.TabIs Tryz.prog w "internal/strconv.uint64pow10" .u64 Lib.pow10Tab) :
 Calls Tryz.prog 285 #[.int .u64 (u : Int)] w fun e w' => e = .returned (.int .i64 (Lib.nDigits u)) ∧ w' = w := Any.internal_strconv_numDigits lnd_lays u h1 h2 w htab
def byteV (b : UInt8) : Value := .int .u8 (b.toNat : Int)
/-- The new array and what formatBase10 lays in it. -/
def fuW (w : World) (dk : Array UInt8) (k : Nat) : World := (putRow byteV (w.alloc (.cells Lib.zeros24 251)) w.heap.size 0 dk).drewN k
theorem fb_any (u : Nat) (h1 : 1 ≤ u) (h2 : u < 18446744073709551616) (w : World) :
 Calls Tryz.prog 286 #[.slice (some ⟨w.heap.size, 0, none⟩) (Lib.nDigits u) 24, .int .u64 (u : Int)] (w.alloc (.cells Lib.zeros24 251)) fun e w' =>
  e = .returned (.tuple #[]) ∧ ∃ dk k, w' = fuW w dk k ∧ ∀ j (hj : j < (Lib.decDigits u).length), w'.cell? ((⟨w.heap.size, 0, none⟩ : Addr).add j) = some (byteV (Lib.decDigits u)[j]) := by
 have hnd20 : Lib.nDigits u ≤ 20 := by have := Lib.numDigits_eq u h1 h2; split at this <;> omega
 have hH := Lib.holds_zero0 w 251 (Lib.nDigits u) (by omega)
 have hfmt := Any.internal_strconv_formatBase10 lfb_lays w.heap.size 0 24 u (Array.replicate (Lib.nDigits u) 0) (w.alloc (.cells Lib.zeros24 251)) hH (by rw [Array.size_replicate]; exact Lib.lt_pow_nDigits u) h2 (by rw [Array.size_replicate]; omega)
 rw [Array.size_replicate] at hfmt
 refine Calls.mono hfmt ?_
 rintro e w' ⟨he, k, v', dk, hw, hF⟩
 refine ⟨he, dk, k, hw, fun j hj => ?_⟩
 rw [hw, Lib.row_is_numeral hF j hj, Lib.add_plain, World.cell?_drewN]
 exact cell?_putRow (fun (b : UInt8) => Value.int .u8 (b.toNat : Int)) _ w.heap.size 0 _ dk hH (by rw [hF.size, Array.size_replicate]) j (by rw [hF.size]; rw [Lib.decDigits_length] at hj; exact hj)
theorem fuW_below (w : World) (dk : Array UInt8) (k : Nat) : Below w.heap.size w (fuW w dk k) := by
 obtain ⟨os, e⟩ := Lib.fin_at w (.cells Lib.zeros24 251) dk k 0
 show Below w.heap.size w ((putRow (fun (b : UInt8) => Value.int .u8 (b.toNat : Int)) (w.alloc (.cells Lib.zeros24 251)) w.heap.size 0 dk).drewN k)
 rw [e]
 exact Lib.below_grow _ w (Nat.le_refl _) k os

set_option maxHeartbeats 4000000 in
theorem fui_any (u : Nat) (hu64 : u < 18446744073709551616) (w : World) (htab : Lib.TabIs Tryz.prog w "internal/strconv.uint64pow10" .u64 Lib.pow10Tab) :
 Calls Tryz.prog 264 #[.int .u64 (u : Int), .int .i64 10] w fun e w' => e = .returned (.string (strOf (Lib.decDigits u))) ∧ Below w.heap.size w w' := by
 by_cases hs : u < 100
 ·have g1 : decide ((u : Int) < 100) = true := decide_eq_true (by omega)
  have hw : wrap64 (u : Int) = (u : Int) := wrap64_in2 _ (by omega)
  go_enter Tryz.func264, Tryz.ntmps264
  go_wp2_with (go_at_call 284; refine (sm_any u hs _).mono ?_; rintro e w' ⟨rfl, rfl⟩)
  go_ret
  exact ⟨rfl, Below.refl _ _⟩
 ·have g1 : decide ((u : Int) < 100) = false := decide_eq_false (by omega)
  have hu1 : 1 ≤ u := by omega
  have hnd20 : Lib.nDigits u ≤ 20 := by have := Lib.numDigits_eq u hu1 hu64; split at this <;> omega
  have hlen := Lib.decDigits_length u
  have hal : Tryz.prog.arrayLen 251 = 24 := by kernel_rfl
  obtain ⟨m, hm⟩ : ∃ m, m = Lib.nDigits u := ⟨_, rfl⟩
  have HND := Lib.hid (fun w h => nd_any u hu1 hu64 w h)
  have HFB := Lib.hid (fb_any u hu1 hu64 w)
  rw [← hm] at HND HFB hlen hnd20
  have hsl : ∀ W, (Instr.sliceAt 251 (.pointer (some ⟨w.heap.size, 0, none⟩)) none (some (.int .i64 (m : Int))) none).run Tryz.prog W = .ok (.slice (some ⟨w.heap.size, 0, none⟩) m 24) W := fun W => by
   rw [run_sliceAt_array_h W 251 ⟨w.heap.size, 0, none⟩ (by simp [Program.arrayLen, Program.elem, Tryz.underlying251]) .i64 (m : Int) (by omega) (by rw [hal]; omega)]
   go_simp
  clear hal hm
  go_enter Tryz.func264, Tryz.ntmps264
  go_wp2_with (first
   | (go_at_call 285; refine (HND.out _ (Lib.tabIs_alloc htab _)).mono ?_; rintro e w' ⟨rfl, rfl⟩)
   | (go_at_call 286
      refine HFB.out.mono ?_
      rintro e w' ⟨rfl, dk, k, hw, hc⟩
      have HBE := Lib.hid (fuW_below w dk k)
      rw [← hw] at HBE
      clear hw
      have hcv : (convert 172 9 (.slice (some ⟨w.heap.size, 0, none⟩) m 24)).run Tryz.prog w' = .ok (.string (strOf (Lib.decDigits u))) w' := by
       have h := run_convert_bytes_back (P := Tryz.prog) w' 172 9 5 ⟨w.heap.size, 0, none⟩ 24 (Lib.decDigits u) Tryz.underlying172 Tryz.underlying5 Tryz.underlying9 hc
       rw [hlen] at h
       exact h
      clear hc))
  go_ret
  exact ⟨rfl, HBE.out⟩
theorem fu_any (u : Nat) (hu64 : u < 18446744073709551616) (w : World) (htab : Lib.TabIs Tryz.prog w "internal/strconv.uint64pow10" .u64 Lib.pow10Tab) :
 Calls Tryz.prog 240 #[.int .u64 (u : Int), .int .i64 10] w fun e w' => e = .returned (.string (strOf (Lib.decDigits u))) ∧ Below w.heap.size w w' := by
 have H := Lib.hid (fui_any u hu64 w htab)
 clear htab
 go_enter Tryz.func240, Tryz.ntmps240
 go_wp2_with (go_at_call 264; refine H.out.mono ?_; rintro e w' ⟨rfl, hb⟩)
 go_ret
 exact ⟨rfl, hb⟩

theorem pdigits_any (n : Nat) (neg : Bool) (w : World) (env : DecEnv w) (hn : n < 18446744073709551616) : Calls Tryz.prog 177 #[.int .u64 (n : Int), .bool neg] w fun e w' => e = .returned (.string (strOf (digitsT n neg))) ∧ Below w.heap.size w w' := by
 have hl : (Lib.decDigits n).length ≤ 20 := by
  rw [Lib.decDigits_length]
  by_cases h : n = 0
  ·subst h; rw [Lib.nDigits_small (by decide)]; decide
  ·have := Lib.numDigits_eq n (by omega) hn; split at this <;> omega
 have HD := Lib.hid (digitsT_lib n neg)
 have HF := Lib.hid (fu_any n hn w env.tab)
 obtain ⟨o, ho⟩ : ∃ o, o = strOf (Lib.decDigits n) := ⟨_, rfl⟩
 rw [← ho] at HF
 have hos : o.size ≤ 20 := by rw [ho, str_size]; exact hl
 have HO := Lib.hid ho
 have hcap : ¬ 9223372036854775807 < 1 + o.size := by omega
 clear ho hl env
 by_cases h0 : n = 0
 ·subst h0
  rw [decide_eq_false (fun h => h rfl), Bool.and_false, if_neg (by decide)] at HD
  rw [show ((0 : Nat) : Int) = 0 from rfl] at HF ⊢
  clear hn
  cases neg
  all_goals
   go_enter Tryz.func177, Tryz.ntmps177
   go_wp2_with (go_at_call 240; refine HF.out.mono ?_; rintro e w' ⟨rfl, hb⟩)
   go_ret
   exact ⟨by rw [HD.out, ← HO.out]; rfl, hb⟩
 ·have e0 : ((n : Int) == 0) = false := beq_false_of_ne (by omega)
  have f0 : ¬ (n : Int) = 0 := by omega
  rw [decide_eq_true h0, Bool.and_true] at HD
  clear h0 hn
  cases neg with
  | true =>
    rw [if_pos rfl] at HD
    go_enter Tryz.func177, Tryz.ntmps177
    go_wp2_with (go_at_call 240; refine HF.out.mono ?_; rintro e w' ⟨rfl, hb⟩)
    go_ret
    refine ⟨?_, hb⟩
    rw [HD.out, show (45 :: Lib.decDigits n) = [45] ++ Lib.decDigits n from rfl, ← strOf_append, ← HO.out]
    rfl
  | false =>
    rw [if_neg (by decide)] at HD
    go_enter Tryz.func177, Tryz.ntmps177
    go_wp2_with (go_at_call 240; refine HF.out.mono ?_; rintro e w' ⟨rfl, hb⟩)
    go_ret
    exact ⟨by rw [HD.out, ← HO.out]; rfl, hb⟩
end Go.Proofs.YtcjjphioeneiiaaGreatDoor
