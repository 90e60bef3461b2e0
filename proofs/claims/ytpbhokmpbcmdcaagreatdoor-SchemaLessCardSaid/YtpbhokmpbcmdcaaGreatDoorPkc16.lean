/- Several texts in one: LwM. What each proves, and its conditions, stands at its own head. -/
import Derived.Test.YtpbhokmpbcmdcaaGreatDoorPkc13
import Derived.Lib.ParseIntB
import Derived.Lib.ReplaceLaws
import Derived.Lib.IndexMore
import Derived.Lib.ItoaNum
import Derived.Lib.Strings
/- Layer 10 in plain words (no program here): the program's way of reading (by the library's Index, Cut, ParseUint, FormatUint, ReplaceAll), held against the document's. Conditions: those that each theorem names. -/
namespace Go.Proofs.YtpbhokmpbcmdcaaGreatDoor
set_option linter.unusedVariables false

theorem u8_is (c k : UInt8) (n : Nat) (hk : k.toNat = n) : (c == k) = decide (c.toNat = n) := by
  subst hk
  by_cases h : c = k
  · subst h; simp
  · rw [beq_eq_false_iff_ne.mpr h, decide_eq_false (fun e => h (UInt8.toNat_inj.mp e))]
/-- How many bytes there are ahead of the first byte k. -/
def upto (k : Nat) : List UInt8 → Nat
  | [] => 0
  | c :: r => if c.toNat = k then 0 else upto k r + 1
theorem upto_yes {k : Nat} {c : UInt8} (r : List UInt8) (h : c.toNat = k) : upto k (c :: r) = 0 := by rw [upto, if_pos h]
theorem upto_no {k : Nat} {c : UInt8} (r : List UInt8) (h : ¬ c.toNat = k) : upto k (c :: r) = upto k r + 1 := by rw [upto, if_neg h]
theorem upto_le (k : Nat) : ∀ r, upto k r ≤ r.length
  | [] => Nat.le_refl _
  | c :: r => by
    have := upto_le k r
    rw [upto]
    split
    · exact Nat.zero_le _
    · rw [List.length_cons]; omega
theorem upto_index (k : UInt8) : ∀ l, Lib.indexByte l k = if upto k.toNat l < l.length then (upto k.toNat l : Int) else -1
  | [] => rfl
  | c :: r => by
    have ih := upto_index k r
    rw [Lib.indexByte, u8_is c k _ rfl]
    by_cases h : c.toNat = k.toNat
    · rw [decide_eq_true h, if_pos rfl, upto_yes r h, if_pos (by simp)]; rfl
    · rw [decide_eq_false h, if_neg (by decide), upto_no r h, ih]
      have := upto_le k.toNat r
      by_cases hl : upto k.toNat r < r.length
      · rw [if_pos hl, if_neg (by simp), if_pos (by rw [List.length_cons]; omega)]; simp
      · rw [if_neg hl, if_pos (by decide), if_neg (by rw [List.length_cons]; omega)]
theorem upto_index1 (k : UInt8) : ∀ l, Lib.index l [k] = if upto k.toNat l < l.length then (upto k.toNat l : Int) else -1
  | [] => rfl
  | c :: r => by
    have ih := upto_index1 k r
    have e : [k].isPrefixOf (c :: r) = decide (c.toNat = k.toNat) := by
      show (k == c && [].isPrefixOf r) = _
      rw [u8_is k c _ rfl]
      simp [eq_comm]
    rw [Lib.index, e]
    by_cases h : c.toNat = k.toNat
    · rw [decide_eq_true h, if_pos rfl, upto_yes r h, if_pos (by simp)]; rfl
    · rw [decide_eq_false h, if_neg (by decide), upto_no r h, ih]
      have := upto_le k.toNat r
      by_cases hl : upto k.toNat r < r.length
      · rw [if_pos hl, if_neg (by simp), if_pos (by rw [List.length_cons]; omega)]; simp
      · rw [if_neg hl, if_pos (by decide), if_neg (by rw [List.length_cons]; omega)]
theorem cut_at (k : UInt8) (l : List UInt8) : Lib.cut l [k] = if upto k.toNat l < l.length then (l.take (upto k.toNat l), l.drop (upto k.toNat l + 1), true) else (l, [], false) := by
  unfold Lib.cut
  rw [upto_index1]
  by_cases hl : upto k.toNat l < l.length
  · rw [if_pos hl, if_pos hl, if_pos (by omega)]; simp
  · rw [if_neg hl, if_neg hl, if_neg (by decide)]
theorem upto_get (k : Nat) : ∀ l, upto k l < l.length → ∃ c, l[upto k l]? = some c ∧ c.toNat = k
  | [], h => by simp [upto] at h
  | c :: r, h => by
    by_cases hc : c.toNat = k
    · rw [upto_yes r hc]; exact ⟨c, rfl, hc⟩
    · rw [upto_no r hc] at h ⊢
      exact upto_get k r (by rw [List.length_cons] at h; omega)
/- what is passed over -/
theorem pass_line : ∀ r, passM true r = upto 10 r + passM false (r.drop (upto 10 r))
  | [] => rfl
  | c :: r => by
    by_cases h : c.toNat = 10
    · have hb : blankB c = true := decide_eq_true (.inr (.inl h))
      rw [upto_yes r h, List.drop_zero, passM, if_pos h, passM, if_pos hb]; omega
    · rw [upto_no r h, passM, if_neg h, pass_line r, List.drop_succ_cons]; omega
theorem pass_slash {c d : UInt8} (r : List UInt8) (hc : c.toNat = 47) (hd : d.toNat = 47) : passM false (c :: d :: r) = upto 10 (c :: d :: r) + passM false ((c :: d :: r).drop (upto 10 (c :: d :: r))) := by
  have hb : ¬ blankB c = true := by unfold blankB; simp; omega
  rw [upto_no _ (by omega), passM, if_neg hb, if_pos ⟨hc, by simp [hd]⟩, pass_line (d :: r), List.drop_succ_cons]
  omega
theorem pass_blank1 {c : UInt8} (r : List UInt8) (h : blankB c = true) : passM false (c :: r) = 1 + passM false r := by rw [passM, if_pos h]; omega
def slashB (l : List UInt8) : Bool := Lib.hasPrefix l [47, 47]
theorem slash_form {c : UInt8} {r : List UInt8} (h : slashB (c :: r) = true) : c.toNat = 47 ∧ ∃ d q, r = d :: q ∧ d.toNat = 47 := by
  cases r with
  | nil => simp [slashB, Lib.hasPrefix] at h
  | cons d q =>
    simp only [slashB, Lib.hasPrefix, List.isPrefixOf, Bool.and_true, Bool.and_eq_true, beq_iff_eq] at h
    obtain ⟨h1, h2⟩ := h
    subst h1 h2
    exact ⟨rfl, 47, q, rfl, rfl⟩
theorem pass_not {c : UInt8} {r : List UInt8} (hb : blankB c = false) (hs : slashB (c :: r) = false) : passM false (c :: r) = 0 := by
  rw [passM, if_neg (by simp [hb]), if_neg]
  rintro ⟨h1, h2⟩
  cases r with
  | nil => simp at h2
  | cons d q =>
    simp at h2
    have e1 : c = 47 := UInt8.toNat_inj.mp h1
    have e2 : d = 47 := UInt8.toNat_inj.mp h2
    subst e1 e2
    simp [slashB, Lib.hasPrefix, List.isPrefixOf] at hs
/- by places -/
section
variable {t acc : List UInt8} {k : Nat} {c : UInt8}
theorem pt_blank (h : t[k]? = some c) (hb : blankB c = true) : passTo t k = passTo t (k + 1) := by
  unfold passTo
  rw [drop_get h, pass_blank1 _ hb]; omega
theorem pt_slash (h : t[k]? = some c) (hs : slashB (t.drop k) = true) : passTo t k = passTo t (k + upto 10 (t.drop k)) := by
  unfold passTo
  rw [drop_get h] at hs
  obtain ⟨h1, d, q, h2, h3⟩ := slash_form hs
  have e : t.drop k = c :: d :: q := by rw [drop_get h, h2]
  rw [← List.drop_drop, e, pass_slash q h1 h3]; omega
theorem pt_not (h : t[k]? = some c) (hb : blankB c = false) (hs : slashB (t.drop k) = false) : passTo t k = k := by
  unfold passTo
  rw [drop_get h] at hs ⊢
  rw [pass_not hb hs]; rfl
theorem pt_end (h : t.length ≤ k) : passTo t k = k := by
  unfold passTo
  rw [List.drop_of_length_le h]; rfl
theorem upto_pos (h : t[k]? = some c) (hs : slashB (t.drop k) = true) : 0 < upto 10 (t.drop k) := by
  rw [drop_get h] at hs ⊢
  rw [upto_no _ (by have := (slash_form hs).1; omega)]; omega
end
/- names -/
theorem wordN_letter {c : UInt8} {r : List UInt8} (h : letterB c = true) : wordN (c :: r) = wordRun (c :: r) := by
  rw [wordN, if_pos h, wordRun, if_pos (by unfold nameCh; rw [h]; rfl)]
theorem wordN_pos {c : UInt8} {r : List UInt8} (h : letterB c = true) : 0 < wordN (c :: r) := by rw [wordN, if_pos h]; omega
theorem wordN_no {c : UInt8} {r : List UInt8} (h : letterB c = false) : wordN (c :: r) = 0 := by rw [wordN, if_neg (by simp [h])]
/-- How many bytes of a kind stand ahead. -/
def runN (f : UInt8 → Bool) : List UInt8 → Nat
  | [] => 0
  | c :: r => if f c = true then runN f r + 1 else 0
theorem runN_le (f : UInt8 → Bool) : ∀ l, runN f l ≤ l.length
  | [] => Nat.le_refl _
  | c :: r => by
    have := runN_le f r
    rw [runN]
    split
    · rw [List.length_cons]; omega
    · exact Nat.zero_le _
theorem runN_name : ∀ l, runN nameCh l = wordRun l
  | [] => rfl
  | c :: r => by rw [runN, wordRun, runN_name r]
theorem runN_digs : ∀ l, runN digitB l = (digs l).length
  | [] => rfl
  | c :: r => by
    rw [runN, runN_digs r]
    by_cases h : digitB c = true
    · rw [if_pos h, digs_cons_yes h]; rfl
    · rw [if_neg h, digs_cons_no (by simpa using h)]; rfl
/-- So much was counted. -/
theorem runN_step {f : UInt8 → Bool} {l : List UInt8} {k : Nat} {c : UInt8} (h : l[k]? = some c) (hf : f c = true) : k + runN f (l.drop k) = (k + 1) + runN f (l.drop (k + 1)) := by
  rw [drop_get h, runN, if_pos hf]; omega
theorem runN_stop {f : UInt8 → Bool} {l : List UInt8} {k : Nat} {c : UInt8} (h : l[k]? = some c) (hf : f c = false) : k + runN f (l.drop k) = k := by
  rw [drop_get h, runN, if_neg (by simp [hf])]; rfl
theorem runN_end {f : UInt8 → Bool} {l : List UInt8} {k : Nat} (h : l.length ≤ k) : k + runN f (l.drop k) = k := by
  rw [List.drop_of_length_le h]; rfl
/- numbers -/
theorem digs_all : ∀ (t : List UInt8), ∀ c ∈ digs t, digitB c = true
  | [], c, h => by simp [digs] at h
  | d :: r, c, h => by
    by_cases hd : digitB d = true
    · rw [digs_cons_yes hd] at h
      rcases List.mem_cons.1 h with rfl | h
      · exact hd
      · exact digs_all r c h
    · rw [digs_cons_no (by simpa using hd)] at h; simp at h
theorem parse_digs : ∀ (l : List UInt8) (acc : Nat), (∀ c ∈ l, digitB c = true) → acc < 18446744073709551616 →
    Lib.parseUintM 18446744073709551615 acc l = if valOf acc l < 18446744073709551616 then .ok (valOf acc l) else .range
  | [], acc, _, h => by
    have e : valOf acc [] = acc := rfl
    rw [e, if_pos h]; rfl
  | c :: r, acc, hd, h => by
    have hc := (digitB_iff c).1 (hd c (by simp))
    have hg := valOf_ge r (10 * acc + (c.toNat - 48))
    rw [Lib.parseUintM, if_pos hc, valOf_cons]
    by_cases h1 : 1844674407370955162 ≤ acc
    · rw [if_pos h1, if_neg (by omega)]
    · rw [if_neg h1]
      by_cases h2 : 18446744073709551615 < acc * 10 + (c.toNat - 48)
      · rw [if_pos h2, if_neg (by omega)]
      · rw [if_neg h2, show acc * 10 + (c.toNat - 48) = 10 * acc + (c.toNat - 48) by omega]
        exact parse_digs r _ (fun x hx => hd x (by simp [hx])) (by omega)
theorem parse_num (t : List UInt8) : Lib.parseUintB 64 (numDs t) = if numDs t = [] then Lib.parseUintB 64 [] else if numV t < 18446744073709551616 then .ok (numV t) else .range := by
  by_cases h : numDs t = []
  · rw [if_pos h, h]
  · rw [if_neg h]
    unfold Lib.parseUintB
    rw [if_neg h]
    exact parse_digs _ 0 (digs_all _) (by decide)
theorem neg_prefix (t : List UInt8) : Lib.hasPrefix t [45] = numNeg t := by
  cases t with
  | nil => rfl
  | cons c r =>
    show ((45 : UInt8) == c && [].isPrefixOf r) = decide (c.toNat = 45)
    rw [u8_is 45 c _ rfl]
    simp [eq_comm]
theorem neg_trim (t : List UInt8) : Lib.trimPrefix t [45] = t.drop (numFrom t) := by
  unfold Lib.trimPrefix numFrom
  rw [neg_prefix]
  cases numNeg t <;> rfl
theorem numDs_take (t : List UInt8) : (t.drop (numFrom t)).take (numDs t).length = numDs t := by
  have h : (digs (t.drop (numFrom t))) <+: t.drop (numFrom t) := List.takeWhile_prefix _
  exact (List.prefix_iff_eq_take.1 h).symm
/-- What the program's number answers. -/
def numR (t : List UInt8) : Tk × Nat := if numBad t = true then (tk0, 0) else (⟨2, [], numV t, numNeg t, 0⟩, numI t)
theorem numBad_pos {t : List UInt8} (h : numBad t = false) : 0 < numI t := by
  unfold numBad at h
  simp only [Bool.or_eq_false_iff, decide_eq_false_iff_not] at h
  have : 0 < (numDs t).length := List.length_pos_iff.mpr h.1
  unfold numI
  omega
theorem textT_no39 {c : UInt8} {r : List UInt8} (h : c.toNat ≠ 39) : textT (c :: r) = ([], 0) := text_no (fun d hd => by simp at hd; subst hd; exact h)
theorem numBad_head {c : UInt8} {r : List UInt8} (hd : digitB c = false) (hm : c.toNat ≠ 45) : numBad (c :: r) = true := by
  have e : numDs (c :: r) = [] := by
    unfold numDs numFrom
    rw [show numNeg (c :: r) = false from decide_eq_false hm, if_neg (by decide), List.drop_zero, digs_cons_no hd]
  unfold numBad
  rw [e]; simp
theorem letter_mark {c : UInt8} (h : markB c = true) : letterB c = false ∧ digitB c = false ∧ c.toNat ≠ 45 ∧ c.toNat ≠ 39 := by
  unfold markB at h
  unfold letterB digitB
  simp at h ⊢
  omega
section
variable {c : UInt8} {r : List UInt8}
theorem one_name (h : letterB c = true) : oneT (c :: r) = (⟨1, (c :: r).take (wordRun (c :: r)), 0, false, 0⟩, wordRun (c :: r)) := by
  unfold oneT
  rw [if_pos (wordN_pos h), wordN_letter h]
theorem one_num (h : letterB c = false) (hd : digitB c = true ∨ c.toNat = 45) : oneT (c :: r) = numR (c :: r) := by
  have h39 : c.toNat ≠ 39 := by rcases hd with hd | hd
                                · have := (digitB_iff c).1 hd; omega
                                · omega
  have hmk : markB c = false := by
    cases hm : markB c
    · rfl
    · have := letter_mark hm
      rcases hd with hd | hd
      · rw [this.2.1] at hd; cases hd
      · exact absurd hd this.2.2.1
  unfold oneT numR
  rw [wordN_no h, if_neg (by decide)]
  unfold numT
  cases hb : numBad (c :: r)
  · simp only [Bool.false_eq_true, if_false]
    rw [if_pos (numBad_pos hb)]
  · simp only [if_true]
    rw [if_neg (by decide), textT_no39 h39, if_neg (by decide)]
    rw [hmk]; rfl
theorem one_rest (h : letterB c = false) (hd : digitB c = false) (hm : c.toNat ≠ 45) : oneT (c :: r) = if 0 < (textT (c :: r)).2 then (⟨3, (textT (c :: r)).1, 0, false, 0⟩, (textT (c :: r)).2) else if markB c = true then (⟨4, [c], 0, false, 0⟩, 1) else (tk0, 0) := by
  unfold oneT
  rw [wordN_no h, if_neg (by decide)]
  unfold numT
  rw [numBad_head hd hm, if_pos rfl, if_neg (by decide)]
/-- What the program's text answers. -/
def txtR (t : List UInt8) : Tk × Nat := if 0 < (textT t).2 then (⟨3, (textT t).1, 0, false, 0⟩, (textT t).2) else (tk0, 0)
theorem one_txt (h : c.toNat = 39) : oneT (c :: r) = txtR (c :: r) := by
  rw [one_rest (by unfold letterB; simp; omega) (by unfold digitB; simp; omega) (by omega)]
  unfold txtR
  rw [show markB c = false by unfold markB; simp; omega]
  rfl
theorem one_mark (h : markB c = true) : oneT (c :: r) = (⟨4, [c], 0, false, 0⟩, 1) := by
  obtain ⟨h1, h2, h3, h4⟩ := letter_mark h
  rw [one_rest h1 h2 h3, textT_no39 h4, if_neg (by decide), if_pos h]
theorem one_none (h : letterB c = false) (hd : digitB c = false) (hm : c.toNat ≠ 45) (h39 : c.toNat ≠ 39) (hk : markB c = false) : oneT (c :: r) = (tk0, 0) := by
  rw [one_rest h hd hm, textT_no39 h39, if_neg (by decide), if_neg (by simp [hk])]
end
theorem mark_fin : ∀ n : Fin 256, decide (0 ≤ Lib.indexByte [123, 125, 40, 41, 61, 44, 46, 59] n.val.toUInt8) = markB n.val.toUInt8 := by decide +kernel
theorem mark_index (c : UInt8) : decide (0 ≤ Lib.indexByte [123, 125, 40, 41, 61, 44, 46, 59] (c.toNat : Int).toNat.toUInt8) = markB c := by
  have h := mark_fin ⟨c.toNat, c.toNat_lt⟩
  simpa using h
/- texts -/
theorem textR_none : ∀ l, ¬ upto 39 l < l.length → textR l = none
  | [], _ => by rw [textR.eq_def]
  | c :: r, h => by
    by_cases hc : c.toNat = 39
    · rw [upto_yes r hc] at h; simp at h
    · rw [upto_no r hc, List.length_cons] at h
      rw [textR_other hc, textR_none r (by omega)]; rfl
theorem textR_shut : ∀ l, upto 39 l < l.length → (∀ d, l[upto 39 l + 1]? = some d → d.toNat ≠ 39) → textR l = some (l.take (upto 39 l), upto 39 l + 1)
  | [], h, _ => by simp [upto] at h
  | c :: r, h, hd => by
    by_cases hc : c.toNat = 39
    · rw [upto_yes r hc] at hd ⊢
      cases r with
      | nil => rw [textR_last hc]; rfl
      | cons d q => rw [textR_close hc (hd d rfl)]; rfl
    · rw [upto_no r hc] at h hd ⊢
      rw [textR_other hc, textR_shut r (by rw [List.length_cons] at h; omega) (fun d h' => hd d h')]
      rfl
theorem textR_again : ∀ l, upto 39 l < l.length → (∃ d, l[upto 39 l + 1]? = some d ∧ d.toNat = 39) →
    textR l = (textR (l.drop (upto 39 l + 2))).map (fun p => (l.take (upto 39 l) ++ (39 :: p.1), upto 39 l + 2 + p.2))
  | [], h, _ => by simp [upto] at h
  | c :: r, h, hd => by
    by_cases hc : c.toNat = 39
    · rw [upto_yes r hc] at hd ⊢
      obtain ⟨d, h1, h2⟩ := hd
      cases r with
      | nil => simp at h1
      | cons e q =>
        simp at h1
        subst h1
        rw [textR_two hc h2]
        show _ = (textR q).map _
        congr 1
        funext p
        simp
        omega
    · rw [upto_no r hc] at h hd ⊢
      rw [textR_other hc, textR_again r (by rw [List.length_cons] at h; omega) (by obtain ⟨d, h1, h2⟩ := hd; exact ⟨d, h1, h2⟩), Option.map_map]
      show _ = (textR (r.drop (upto 39 r + 2))).map _
      congr 1
      funext p
      simp
      omega
section
variable {t o : List UInt8} {i : Nat} {c : UInt8}
theorem txt_end (h : TextAt t o i) (hi : 1 ≤ i) (h0 : t[0]? = some c) (h39 : c.toNat = 39) {p : List UInt8} {m : Nat} (hr : textR (t.drop i) = some (p, m)) : textT t = (o ++ p, i + m) := by
  unfold TextAt at h
  rw [hr] at h
  cases t with
  | nil => simp at h0
  | cons b r =>
    simp at h0
    subst h0
    have h' : textR r = some (o ++ p, i - 1 + m) := h
    unfold textT
    dsimp only
    rw [if_pos h39, h']
    simp
    omega
theorem txt_more (h : TextAt t o i) (hi : 1 ≤ i) (hq : upto 39 (t.drop i) < (t.drop i).length) {d : UInt8} (hd : t[i + upto 39 (t.drop i) + 1]? = some d) (hd39 : d.toNat = 39) :
    TextAt t (o ++ (t.drop i).take (upto 39 (t.drop i)) ++ [39]) (i + upto 39 (t.drop i) + 2) := by
  unfold TextAt at *
  rw [h, textR_again _ hq ⟨d, by rw [List.getElem?_drop]; exact hd, hd39⟩, Option.map_map, List.drop_drop, show i + (upto 39 (t.drop i) + 2) = i + upto 39 (t.drop i) + 2 by omega]
  congr 1
  funext p
  simp
  omega
end
/- quotes, digits -/
theorem quoteB_append (a b : List UInt8) : quoteB (a ++ b) = quoteB a ++ quoteB b := List.flatMap_append ..
theorem quoteB_upto : ∀ s : List UInt8, quoteB (s.take (upto 39 s)) = s.take (upto 39 s)
  | [] => rfl
  | c :: r => by
    by_cases hc : c.toNat = 39
    · rw [upto_yes r hc]; rfl
    · rw [upto_no r hc, List.take_succ_cons]
      show quoteC c ++ quoteB _ = _
      rw [quoteB_upto r]
      unfold quoteC
      rw [if_neg hc]; rfl
theorem replace_fuel : ∀ (f : Nat) (s : List UInt8), s.length < f → Lib.replaceK [39] [39, 39] (Lib.countFrom [39] f s) s = quoteB s
  | 0, s, h => absurd h (Nat.not_lt_zero _)
  | f + 1, s, h => by
    rw [Lib.countFrom, upto_index1]
    by_cases hl : upto 39 s < s.length
    · have hl' : upto (39 : UInt8).toNat s < s.length := hl
      rw [if_pos hl', if_neg (by simp), Nat.add_comm 1]
      obtain ⟨c, hc, h39⟩ := upto_get 39 s hl
      have e39 : c = 39 := UInt8.toNat_inj.mp h39
      have hs : s = s.take (upto 39 s) ++ (39 :: s.drop (upto 39 s + 1)) := by
        rw [← e39, ← drop_get hc, List.take_append_drop]
      rw [Lib.replaceK_hit _ _ _ _ (upto 39 s) (by rw [upto_index1, if_pos hl']; rfl)]
      have ht : ((upto (39 : UInt8).toNat s : Int)).toNat = upto 39 s := rfl
      rw [ht, show ([39] : List UInt8).length = 1 from rfl, replace_fuel f _ (by rw [List.length_drop]; omega)]
      conv => rhs; rw [hs]
      rw [quoteB_append, quoteB_upto]
      show _ = _ ++ (quoteC 39 ++ quoteB _)
      rw [List.append_assoc]
      rfl
    · have hl' : ¬ upto (39 : UInt8).toNat s < s.length := hl
      rw [if_neg hl', if_pos (by decide)]
      have := upto_le 39 s
      have e : s.take (upto 39 s) = s := List.take_of_length_le (by omega)
      have q := quoteB_upto s
      rw [e] at q
      rw [q]; rfl
theorem replace_quote (s : List UInt8) : Lib.replaceAll s [39] [39, 39] = quoteB s := by
  unfold Lib.replaceAll Lib.replace Lib.replaceNum Lib.count
  rw [if_neg (by decide), if_pos (.inl (by decide))]
  exact replace_fuel _ s (Nat.lt_succ_self _)
theorem dec_lib : ∀ (k n : Nat), n ≤ k → n ≠ 0 → Lib.decDigits n = decOf n
  | 0, n, h, h0 => absurd (Nat.le_zero.1 h) h0
  | k + 1, n, h, h0 => by
    rw [Lib.decDigits, decOf_pos h0]
    by_cases h10 : n < 10
    · rw [dif_pos h10, show n / 10 = 0 by omega, decOf_zero, show n % 10 = n by omega]; rfl
    · rw [dif_neg h10, dec_lib k (n / 10) (by omega) (by omega)]
theorem digitsT_lib (n : Nat) (neg : Bool) : digitsT n neg = if (neg && decide (n ≠ 0)) = true then 45 :: Lib.decDigits n else Lib.decDigits n := by
  unfold digitsT
  by_cases h : n = 0
  · subst h
    rw [if_pos rfl, decide_eq_false (fun h => h rfl), Bool.and_false, if_neg (by decide), Lib.decDigits, dif_pos (by decide)]; rfl
  · rw [if_neg h, decide_eq_true h, Bool.and_true, dec_lib n n (Nat.le_refl _) h]
end Go.Proofs.YtpbhokmpbcmdcaaGreatDoor
