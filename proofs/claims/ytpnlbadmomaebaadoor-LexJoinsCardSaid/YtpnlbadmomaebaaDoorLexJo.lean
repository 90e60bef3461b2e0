/- Layer 10 in plain words (no program here): a line feed behind a text changes no token of it. -/
import Derived.Test.YtpnlbadmomaebaaDoorLexAll
namespace Go.Proofs.YtpnlbadmomaebaaDoor
set_option linter.unusedVariables false

theorem wordRun_lf (r : List UInt8) : ∀ t : List UInt8, wordRun (t ++ 10 :: r) = wordRun t
  | [] => rfl
  | c :: q => by
    rw [List.cons_append, wordRun, wordRun, wordRun_lf r q]
theorem wordN_lf (r : List UInt8) : ∀ t : List UInt8, wordN (t ++ 10 :: r) = wordN t
  | [] => rfl
  | c :: q => by
    show (if letterB c = true then wordRun (q ++ 10 :: r) + 1 else 0) = if letterB c = true then wordRun q + 1 else 0
    rw [wordRun_lf]
theorem digs_lf (r : List UInt8) : ∀ t : List UInt8, digs (t ++ 10 :: r) = digs t
  | [] => rfl
  | c :: q => by
    cases h : digitB c with
    | true => rw [List.cons_append, digs_cons_yes h, digs_cons_yes h, digs_lf r q]
    | false => rw [List.cons_append, digs_cons_no h, digs_cons_no h]
theorem numT_lf (r : List UInt8) : ∀ t : List UInt8, numT (t ++ 10 :: r) = numT t
  | [] => by
    have e1 : numT (10 :: r) = (0, false, 0) := by
      unfold numT
      rw [if_pos]
      unfold numBad
      rw [show numDs (10 :: r) = [] from rfl]
      rfl
    exact e1
  | c :: q => by
    have hng : numNeg ((c :: q) ++ 10 :: r) = numNeg (c :: q) := rfl
    have hfr : numFrom ((c :: q) ++ 10 :: r) = numFrom (c :: q) := rfl
    have hle := numFrom_le (c :: q)
    have hds : numDs ((c :: q) ++ 10 :: r) = numDs (c :: q) := by
      unfold numDs
      rw [hfr, List.drop_append_of_le_length hle, digs_lf]
    have hv : numV ((c :: q) ++ 10 :: r) = numV (c :: q) := by unfold numV; rw [hds]
    have hi : numI ((c :: q) ++ 10 :: r) = numI (c :: q) := by unfold numI; rw [hfr, hds]
    have ht : ((c :: q) ++ 10 :: r).take (numI (c :: q)) = (c :: q).take (numI (c :: q)) := List.take_append_of_le_length (numI_le _)
    unfold numT numBad
    rw [hds, hv, hi, hng, ht]
theorem textR_lf (r : List UInt8) : ∀ (q : List UInt8) (p : List UInt8 × Nat), textR q = some p → textR (q ++ 10 :: r) = some p
  | [], p, h => by simp [textR] at h
  | [c], p, h => by
    by_cases hc : c.toNat = 39
    · rw [textR_last hc] at h
      show textR (c :: 10 :: r) = _
      rw [textR_close hc (by decide)]
      exact h
    · rw [textR_other hc] at h; simp [textR] at h
  | c :: d :: q, p, h => by
    by_cases hc : c.toNat = 39
    · by_cases hd : d.toNat = 39
      · rw [textR_two hc hd] at h
        show textR (c :: d :: (q ++ 10 :: r)) = _
        rw [textR_two hc hd]
        cases hq : textR q with
        | none => rw [hq] at h; simp at h
        | some x => rw [textR_lf r q x hq]; rw [hq] at h; exact h
      · rw [textR_close hc hd] at h
        show textR (c :: d :: (q ++ 10 :: r)) = _
        rw [textR_close hc hd]
        exact h
    · rw [textR_other hc] at h
      show textR (c :: ((d :: q) ++ 10 :: r)) = _
      rw [textR_other hc]
      cases hq : textR (d :: q) with
      | none => rw [hq] at h; simp at h
      | some x => rw [textR_lf r (d :: q) x hq]; rw [hq] at h; exact h
theorem textT_lf (r : List UInt8) {t : List UInt8} (h : 0 < (textT t).2) : textT (t ++ 10 :: r) = textT t := by
  cases t with
  | nil => exact absurd h (by decide)
  | cons c q =>
    unfold textT at h ⊢
    rw [List.cons_append]
    dsimp only at h ⊢
    by_cases hc : c.toNat = 39
    · rw [if_pos hc] at h ⊢
      cases hq : textR q with
      | none => rw [hq] at h; exact absurd h (by decide)
      | some p => rw [if_pos hc, textR_lf r q p hq]
    · rw [if_neg hc, if_neg hc]
theorem mark_no39 {c : UInt8} (h : markB c = true) : c.toNat ≠ 39 := by
  have := of_decide_eq_true h
  omega
/-- A token is the same, whatever stands behind the line feed. -/
theorem oneT_lf (r : List UInt8) {t : List UInt8} (h : (oneT t).2 ≠ 0) : oneT (t ++ 10 :: r) = oneT t := by
  unfold oneT at h ⊢
  rw [wordN_lf, numT_lf]
  by_cases h1 : 0 < wordN t
  · rw [if_pos h1, if_pos h1, List.take_append_of_le_length (wordN_le t)]
  · rw [if_neg h1] at h ⊢
    rw [if_neg h1]
    by_cases h2 : 0 < (numT t).2.2
    · rw [if_pos h2, if_pos h2]
    · rw [if_neg h2] at h ⊢
      rw [if_neg h2]
      by_cases h3 : 0 < (textT t).2
      · rw [textT_lf r h3, if_pos h3, if_pos h3]
      · rw [if_neg h3] at h ⊢
        cases t with
        | nil => exact absurd rfl h
        | cons c q =>
          dsimp only at h ⊢
          by_cases hm : markB c = true
          · have ht : textT ((c :: q) ++ 10 :: r) = ([], 0) := text_no (fun d hd => by simp at hd; rw [← hd]; exact mark_no39 hm)
            rw [ht, if_neg (by decide), List.cons_append]
          · rw [if_neg hm] at h; exact absurd rfl h
/-- What is passed over up to the end, goes on behind the line feed. -/
theorem passM_lf_end (r : List UInt8) : ∀ (b : Bool) (t : List UInt8), passM b t = t.length → passM b (t ++ 10 :: r) = t.length + 1 + passM false r
  | true, [], _ => by show passM true (10 :: r) = _; rw [passM, if_pos (by decide)]; simp; omega
  | false, [], _ => by show passM false (10 :: r) = _; rw [passM, if_pos (by decide)]; simp; omega
  | true, c :: q, h => by
    rw [List.cons_append]
    rw [passM] at h ⊢
    split
    · rename_i hc
      rw [if_pos hc] at h
      rw [passM_lf_end r false q (by simpa using h)]
      simp; omega
    · rename_i hc
      rw [if_neg hc] at h
      rw [passM_lf_end r true q (by simpa using h)]
      simp; omega
  | false, c :: q, h => by
    rw [List.cons_append]
    rw [passM] at h ⊢
    split
    · rename_i hc
      rw [if_pos hc] at h
      rw [passM_lf_end r false q (by simpa using h)]
      simp; omega
    · rename_i hc
      rw [if_neg hc] at h
      by_cases h2 : c.toNat = 47 ∧ q.head?.map UInt8.toNat = some 47
      · rw [if_pos h2] at h
        have h3 : c.toNat = 47 ∧ (q ++ 10 :: r).head?.map UInt8.toNat = some 47 := by
          refine ⟨h2.1, ?_⟩
          cases q with
          | nil => simp at h2
          | cons d q' => exact h2.2
        rw [if_pos h3, passM_lf_end r true q (by simpa using h)]
        simp; omega
      · rw [if_neg h2] at h; simp at h
/-- What is passed over up to a token, is so with the line feed. -/
theorem passM_lf_in (r : List UInt8) : ∀ (b : Bool) (t : List UInt8), passM b t ≠ t.length → passM b (t ++ 10 :: r) = passM b t
  | _, [], h => absurd (by simp [passM]) h
  | true, c :: q, h => by
    rw [List.cons_append]
    rw [passM] at h ⊢
    rw [passM]
    by_cases hc : c.toNat = 10
    · rw [if_pos hc] at h
      rw [if_pos hc, if_pos hc, passM_lf_in r false q (by intro e; apply h; rw [e]; rfl)]
    · rw [if_neg hc] at h
      rw [if_neg hc, if_neg hc, passM_lf_in r true q (by intro e; apply h; rw [e]; rfl)]
  | false, c :: q, h => by
    rw [List.cons_append]
    rw [passM] at h ⊢
    rw [passM]
    by_cases hc : blankB c = true
    · rw [if_pos hc] at h
      rw [if_pos hc, if_pos hc, passM_lf_in r false q (by intro e; apply h; rw [e]; rfl)]
    · rw [if_neg hc] at h
      rw [if_neg hc, if_neg hc]
      by_cases h2 : c.toNat = 47 ∧ q.head?.map UInt8.toNat = some 47
      · rw [if_pos h2] at h
        have h3 : c.toNat = 47 ∧ (q ++ 10 :: r).head?.map UInt8.toNat = some 47 := by
          refine ⟨h2.1, ?_⟩
          cases q with
          | nil => simp at h2
          | cons d q' => exact h2.2
        rw [if_pos h2, if_pos h3, passM_lf_in r true q (by intro e; apply h; rw [e]; rfl)]
      · have h3 : ¬ (c.toNat = 47 ∧ (q ++ 10 :: r).head?.map UInt8.toNat = some 47) := by
          intro h4
          cases q with
          | nil => simp at h4
          | cons d q' => exact h2 h4
        rw [if_neg h2, if_neg h3]
/-- Where a place of a lies in a, a line feed, b. -/
def lfAt (a b : List UInt8) (i : Nat) : Nat := if i < a.length then i else a.length + 1 + passM false b
theorem passTo_lf (a b : List UInt8) {i : Nat} (hi : i ≤ a.length) : passTo (a ++ 10 :: b) i = lfAt a b (passTo a i) := by
  unfold passTo lfAt
  rw [List.drop_append_of_le_length hi]
  have hle := passM_le false (a.drop i)
  by_cases h : passM false (a.drop i) = (a.drop i).length
  · rw [passM_lf_end b false _ h, h]
    rw [List.length_drop] at *
    rw [if_neg (by omega)]
    omega
  · rw [passM_lf_in b false _ h]
    rw [List.length_drop] at *
    rw [if_pos (by omega)]
theorem lex_lf_go (a b : List UInt8) (hok : (lexS a).2.2 = true) : ∀ (k : Nat) (acc : List Tk) (i : Nat), a.length - i ≤ k → LexAt a acc i → LexAt (a ++ 10 :: b) acc (lfAt a b i) → LexAt (a ++ 10 :: b) (lexS a).1 (a.length + 1 + passM false b) := by
  intro k
  induction k with
  | zero =>
    intro acc i hk h1 h2
    have hi : ¬ i < a.length := by omega
    rw [lex_ends h1 hi]
    unfold lfAt at h2
    rwa [if_neg hi] at h2
  | succ k ih =>
    intro acc i hk h1 h2
    by_cases hi : i < a.length
    · have hR : lfAt a b i = i := by unfold lfAt; rw [if_pos hi]
      rw [hR] at h2
      by_cases hz : (oneT (a.drop i)).2 = 0
      · rw [lex_fails h1 hi hz] at hok
        cases hok
      · have hle := oneT_le (a.drop i)
        rw [List.length_drop] at hle
        have hd : (a ++ 10 :: b).drop i = a.drop i ++ 10 :: b := List.drop_append_of_le_length (by omega)
        have ho : oneT ((a ++ 10 :: b).drop i) = oneT (a.drop i) := by rw [hd, oneT_lf b hz]
        have g1 := lex_goes h1 hi hz
        have g2 := lex_goes h2 (by rw [List.length_append]; omega) (by rw [ho]; exact hz)
        rw [ho, passTo_lf a b (by omega)] at g2
        have hg := passTo_ge a (i + (oneT (a.drop i)).2)
        exact ih _ _ (by omega) g1 g2
    · rw [lex_ends h1 hi]
      unfold lfAt at h2
      rwa [if_neg hi] at h2
/-- All of a was read, and the line feed, and what is passed over behind it. -/
theorem lex_lf (a b : List UInt8) (hok : (lexS a).2.2 = true) : LexAt (a ++ 10 :: b) (lexS a).1 (a.length + 1 + passM false b) := by
  have h1 := lexAt_start a
  have h2 := lexAt_start (a ++ 10 :: b)
  rw [passTo_lf a b (Nat.zero_le _)] at h2
  exact lex_lf_go a b hok _ _ _ (Nat.le_refl _) h1 h2
/-- Behind other bytes all is later by as many. -/
theorem lexFrom_later (pre b : List UInt8) : ∀ (f i : Nat), lexFrom (pre ++ b) f (pre.length + i) = ((lexFrom b f i).1.map (fun x => tkAt x (pre.length + x.pos)), pre.length + (lexFrom b f i).2.1, (lexFrom b f i).2.2)
  | 0, i => rfl
  | f + 1, i => by
    have hd : (pre ++ b).drop (pre.length + i) = b.drop i := by rw [List.drop_append, List.drop_of_length_le (by omega), List.nil_append]; congr 1; omega
    have hp : ∀ j, passTo (pre ++ b) (pre.length + j) = pre.length + passTo b j := fun j => by
      unfold passTo
      rw [List.drop_append, List.drop_of_length_le (by omega), List.nil_append, show pre.length + j - pre.length = j by omega]
      omega
    rw [lexFrom, lexFrom, List.length_append]
    by_cases hi : i < b.length
    · rw [if_pos (by omega), if_pos hi, hd]
      by_cases hz : (oneT (b.drop i)).2 = 0
      · rw [if_pos hz, if_pos hz]; rfl
      · rw [if_neg hz, if_neg hz, Nat.add_assoc, hp, lexFrom_later pre b f]
        rfl
    · rw [if_neg (by omega), if_neg hi]; rfl
theorem lexFrom_fuel (b : List UInt8) : ∀ (f i : Nat), 0 < f → b.length + 1 ≤ f + i → lexFrom b (f + 1) i = lexFrom b f i
  | 0, i, h, _ => absurd h (by omega)
  | f + 1, i, _, h => by
    rw [lexFrom]
    conv => rhs; rw [lexFrom]
    by_cases hi : i < b.length
    · rw [if_pos hi, if_pos hi]
      by_cases hz : (oneT (b.drop i)).2 = 0
      · rw [if_pos hz, if_pos hz]
      · have hg := passTo_ge b (i + (oneT (b.drop i)).2)
        rw [if_neg hz, if_neg hz, lexFrom_fuel b f _ (by omega) (by omega)]
    · rw [if_neg hi, if_neg hi]
theorem lexFrom_more (b : List UInt8) (i : Nat) : ∀ (d f : Nat), 0 < f → b.length + 1 ≤ f + i → lexFrom b (f + d) i = lexFrom b f i
  | 0, f, _, _ => rfl
  | d + 1, f, h1, h2 => by rw [← Nat.add_assoc, lexFrom_fuel b (f + d) i (by omega) (by omega), lexFrom_more b i d f h1 h2]
theorem lexAt_many {a : List UInt8} (hok : (lexS a).2.2 = true) : (lexS a).1.length ≤ a.length := by
  have h := lex_lf a [] hok
  have h1 := h.all
  -- the tokens of a are counted by a itself
  have key : ∀ (k : Nat) (acc : List Tk) (i : Nat), a.length - i ≤ k → LexAt a acc i → (lexS a).1.length ≤ a.length := by
    intro k
    induction k with
    | zero =>
      intro acc i hk h1
      rw [lex_ends h1 (by omega)]
      have := h1.cnt
      have := h1.le
      exact Nat.le_trans h1.cnt h1.le
    | succ k ih =>
      intro acc i hk h1
      by_cases hi : i < a.length
      · by_cases hz : (oneT (a.drop i)).2 = 0
        · rw [lex_fails h1 hi hz] at hok; cases hok
        · have hg := passTo_ge a (i + (oneT (a.drop i)).2)
          exact ih _ _ (by omega) (lex_goes h1 hi hz)
      · rw [lex_ends h1 hi]
        exact Nat.le_trans h1.cnt h1.le
  exact key _ _ _ (Nat.le_refl _) (lexAt_start a)
def later (d : Nat) (x : Tk) : Tk := tkAt x (d + x.pos)
/-- Tokens with something between that is passed over. -/
theorem lex_join (a bt b : List UInt8) (hok : (lexS a).2.2 = true) (hbt : passM false (bt ++ b) = bt.length + passM false b) :
    lexS (a ++ 10 :: (bt ++ b)) = ((lexS a).1 ++ (lexS b).1.map (later (a.length + 1 + bt.length)), a.length + 1 + bt.length + (lexS b).2.1, (lexS b).2.2) := by
  have h := (lex_lf a (bt ++ b) hok).all
  have hm := lexAt_many hok
  have hz : a ++ 10 :: (bt ++ b) = (a ++ 10 :: bt) ++ b := by simp
  have hpl : (a ++ 10 :: bt).length = a.length + 1 + bt.length := by simp; omega
  have hzl : (a ++ 10 :: (bt ++ b)).length = a.length + 1 + bt.length + b.length := by simp; omega
  have hp0 : passTo b 0 = passM false b := by unfold passTo; rw [List.drop_zero, Nat.zero_add]
  have hfrom : lexFrom (a ++ 10 :: (bt ++ b)) ((a ++ 10 :: (bt ++ b)).length + 1 - (lexS a).1.length) (a.length + 1 + passM false (bt ++ b)) = ((lexS b).1.map (later (a.length + 1 + bt.length)), a.length + 1 + bt.length + (lexS b).2.1, (lexS b).2.2) := by
    rw [hbt, show a.length + 1 + (bt.length + passM false b) = (a ++ 10 :: bt).length + passTo b 0 by rw [hpl, hp0]; omega, hzl, hz, lexFrom_later]
    obtain ⟨d, hd⟩ : ∃ d, a.length + 1 + bt.length + b.length + 1 - (lexS a).1.length = (b.length + 1) + d := ⟨a.length + 1 + bt.length - (lexS a).1.length, by omega⟩
    rw [hd, lexFrom_more b _ d (b.length + 1) (by omega) (by omega), hpl]
    rfl
  rw [h, hfrom]
theorem pass_blank (b : List UInt8) : passM false ([32] ++ b) = [32].length + passM false b := by
  show passM false (32 :: b) = 1 + passM false b
  rw [passM, if_pos (by decide)]; omega
theorem pass_lf3 (b : List UInt8) : passM false ([47, 47, 10] ++ b) = [47, 47, 10].length + passM false b := by
  show passM false (47 :: 47 :: 10 :: b) = 3 + passM false b
  rw [passM, if_neg (by decide), if_pos ⟨rfl, rfl⟩, passM, if_neg (by decide), passM, if_pos (by decide)]; omega
end Go.Proofs.YtpnlbadmomaebaaDoor
