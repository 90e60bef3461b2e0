/- Layer 10 in plain words (no program here): what is quoted, and what is written as digits, is read as it. -/
import Derived.Test.YtdenhfhdobcfiaaDoorLexAll
namespace Go.Proofs.YtdenhfhdobcfiaaDoor
set_option linter.unusedVariables false

theorem textR_quote : ∀ s : List UInt8, textR (quoteB s ++ [39]) = some (s, (quoteB s).length + 1)
  | [] => textR_last rfl
  | c :: r => by
    have ih := textR_quote r
    have e : quoteB (c :: r) = quoteC c ++ quoteB r := rfl
    rw [e]
    unfold quoteC
    by_cases h : c.toNat = 39
    · have hc : c = 39 := UInt8.toNat_inj.mp h
      rw [if_pos h]
      show textR (39 :: c :: (quoteB r ++ [39])) = _
      rw [textR_two rfl h, ih, hc]
      simp
    · rw [if_neg h]
      show textR (c :: (quoteB r ++ [39])) = _
      rw [textR_other h, ih]
      simp
/-- A token that is all of a text. -/
theorem lex_one {t : List UInt8} {x : Tk} {most : Int} (hp : passM false t = 0) (ho : oneT t = (x, t.length)) (h0 : 0 < t.length) (hm : ¬ most < (t.length : Int)) : lexT t most = ([tkAt x 0, ⟨0, [], 0, false, t.length⟩], t.length, 0) := by
  have hz : passTo t 0 = 0 := by unfold passTo; rw [List.drop_zero, hp]
  have ht := lexAt_start t
  rw [hz] at ht
  have hd : t.drop 0 = t := rfl
  have h1 := lex_goes ht h0 (by rw [hd, ho]; show t.length ≠ 0; omega)
  rw [hd, ho] at h1
  have he : passTo t (0 + t.length) = t.length := by unfold passTo; rw [Nat.zero_add, List.drop_length]; rfl
  rw [he] at h1
  have h2 := lex_ends h1 (Nat.lt_irrefl _)
  unfold lexT
  rw [if_neg hm, h2]
  rfl
theorem lex_zero {t : List UInt8} {x : Tk} {most : Int} (hp : passM false t = 0) (ho : oneT t = (x, 0)) (h0 : 0 < t.length) (hm : ¬ most < (t.length : Int)) : lexT t most = ([], 0, 2) := by
  have hz : passTo t 0 = 0 := by unfold passTo; rw [List.drop_zero, hp]
  have ht := lexAt_start t
  rw [hz] at ht
  have hd : t.drop 0 = t := rfl
  have h1 := lex_fails ht h0 (by rw [hd, ho])
  unfold lexT
  rw [if_neg hm, h1]
  rfl
theorem quoteT_length (s : List UInt8) : (quoteT s).length = (quoteB s).length + 2 := by unfold quoteT; simp
theorem numT_none {t : List UInt8} (h : numDs t = []) : numT t = (0, false, 0) := by
  unfold numT
  rw [if_pos]
  unfold numBad
  rw [decide_eq_true h]; rfl
/-- What is quoted is read as it. -/
theorem lex_quote (s : List UInt8) (h : s.length ≤ 300) : lexT (quoteT s) 1000 = ([⟨3, s, 0, false, 0⟩, ⟨0, [], 0, false, (quoteT s).length⟩], (quoteT s).length, 0) := by
  have hl := quoteB_length s
  have ht : quoteT s = 39 :: (quoteB s ++ [39]) := rfl
  refine lex_one (x := ⟨3, s, 0, false, 0⟩) (by rw [ht]; rfl) ?_ (by rw [quoteT_length]; omega) (by rw [quoteT_length]; omega)
  have hw : wordN (quoteT s) = 0 := by rw [ht]; rfl
  have hn : numT (quoteT s) = (0, false, 0) := numT_none (by rw [ht]; rfl)
  have hx : textT (quoteT s) = (s, (quoteT s).length) := by
    rw [ht]
    unfold textT
    dsimp only
    rw [if_pos (by rfl), textR_quote]
    simp
  unfold oneT
  rw [if_neg (by omega), hn, if_neg (by decide), hx, if_pos (by rw [quoteT_length]; omega)]

theorem digit_nat (d : Nat) (h : d < 10) : ((48 + d).toUInt8).toNat = 48 + d := by
  show (48 + d) % 256 = 48 + d
  omega
theorem decOf_digits : ∀ (k n : Nat), n ≤ k → ∀ c ∈ decOf n, digitB c = true
  | 0, n, h, c, hc => by
    obtain rfl : n = 0 := by omega
    rw [decOf_zero] at hc
    cases hc
  | k + 1, n, h, c, hc => by
    by_cases h0 : n = 0
    · subst h0; rw [decOf_zero] at hc; cases hc
    · rw [decOf_pos h0, List.mem_append] at hc
      rcases hc with hc | hc
      · exact decOf_digits k (n / 10) (by omega) c hc
      · rw [List.mem_singleton] at hc
        rw [hc, digitB_iff, digit_nat (n % 10) (by omega)]
        omega
theorem decOf_val : ∀ (k n : Nat), n ≤ k → valOf 0 (decOf n) = n
  | 0, n, h => by
    obtain rfl : n = 0 := by omega
    rw [decOf_zero]; rfl
  | k + 1, n, h => by
    by_cases h0 : n = 0
    · subst h0; rw [decOf_zero]; rfl
    · rw [decOf_pos h0, valOf_append, decOf_val k (n / 10) (by omega), valOf_cons, digit_nat _ (by omega)]
      show 10 * (n / 10) + (48 + n % 10 - 48) = n
      omega
theorem decOf_ne {n : Nat} (h : n ≠ 0) : decOf n ≠ [] := by rw [decOf_pos h]; simp
theorem digs_all_q : ∀ {l : List UInt8}, (∀ c ∈ l, digitB c = true) → digs l = l
  | [], _ => rfl
  | c :: r, h => by rw [digs_cons_yes (h c (by simp)), digs_all_q (fun d hd => h d (by simp [hd]))]
theorem digit_first {c : UInt8} (h : digitB c = true) : letterB c = false ∧ c.toNat ≠ 45 ∧ blankB c = false ∧ c.toNat ≠ 47 := by
  rw [digitB_iff] at h
  refine ⟨?_, by omega, decide_eq_false (by omega), by omega⟩
  unfold letterB
  rw [decide_eq_false (by omega : ¬ 97 ≤ c.toNat), decide_eq_false (by omega : ¬ 65 ≤ c.toNat)]
  rfl
/-- Digits, with or without a minus, are read as the number. -/
theorem lex_digits (n : Nat) (neg : Bool) (hn : n < 18446744073709551616) (hb : neg = true → n ≤ 9223372036854775808) :
    lexT (digitsT n neg) 1000 = ([⟨2, [], n, neg && decide (0 < n), 0⟩, ⟨0, [], 0, false, (digitsT n neg).length⟩], (digitsT n neg).length, 0) := by
  by_cases h0 : n = 0
  · subst h0
    show lexT [48] 1000 = _
    have : (neg && decide (0 < 0)) = false := by simp
    rw [this]
    exact lex_one (x := ⟨2, [], 0, false, 0⟩) rfl (by kernel_rfl) (by decide) (by decide)
  · have hne := decOf_ne h0
    have hdg := decOf_digits n n (Nat.le_refl _)
    have hv := decOf_val n n (Nat.le_refl _)
    have hl := decOf_len64 hn
    have hp : decide (0 < n) = true := decide_eq_true (by omega)
    rw [hp, Bool.and_true]
    cases neg with
    | false =>
      have ht : digitsT n false = decOf n := by unfold digitsT; rw [if_neg h0, if_neg (by decide)]
      cases hd : decOf n with
      | nil => exact absurd hd hne
      | cons c r =>
        obtain ⟨f1, f2, f3, f4⟩ := digit_first (hdg c (by rw [hd]; simp))
        have hng : numNeg (decOf n) = false := by rw [hd]; exact decide_eq_false f2
        have hfr : numFrom (decOf n) = 0 := by unfold numFrom; rw [hng]; rfl
        have hds : numDs (decOf n) = decOf n := by unfold numDs; rw [hfr, List.drop_zero, digs_all_q hdg]
        have hnv : numV (decOf n) = n := by unfold numV; rw [hds, hv]
        have hni : numI (decOf n) = (decOf n).length := by unfold numI; rw [hfr, hds, Nat.zero_add]
        have hnt : numT (decOf n) = (n, false, (decOf n).length) := by
          unfold numT numBad
          rw [hds, hnv, hng, hni, decide_eq_false hne, decide_eq_false (by omega : ¬ 18446744073709551616 ≤ n), ht, List.take_length]
          simp
        rw [ht]
        refine lex_one (x := ⟨2, [], n, false, 0⟩) ?_ ?_ ?_ ?_
        · rw [hd, passM, if_neg (by simp [f3]), if_neg (fun h => f4 h.1)]
        · unfold oneT
          have hw : wordN (decOf n) = 0 := by rw [hd]; show (if letterB c = true then _ else 0) = 0; rw [f1]; rfl
          rw [hw, if_neg (by decide), hnt, if_pos (by rw [hd]; simp)]
        · rw [hd]; simp
        · omega
    | true =>
      have hb2 := hb rfl
      have ht : digitsT n true = 45 :: decOf n := by unfold digitsT; rw [if_neg h0, if_pos rfl]
      have hng : numNeg (45 :: decOf n) = true := rfl
      have hfr : numFrom (45 :: decOf n) = 1 := rfl
      have hds : numDs (45 :: decOf n) = decOf n := by unfold numDs; rw [hfr]; show digs (decOf n) = _; exact digs_all_q hdg
      have hnv : numV (45 :: decOf n) = n := by unfold numV; rw [hds, hv]
      have hni : numI (45 :: decOf n) = (45 :: decOf n).length := by unfold numI; rw [hfr, hds, List.length_cons]; omega
      have hnt : numT (45 :: decOf n) = (n, true, (45 :: decOf n).length) := by
        unfold numT numBad
        rw [hds, hnv, hng, hni, decide_eq_false hne, decide_eq_false (by omega : ¬ 18446744073709551616 ≤ n), decide_eq_false (by omega : ¬ 9223372036854775808 < n), ht, List.take_length]
        simp
      rw [ht]
      refine lex_one (x := ⟨2, [], n, true, 0⟩) rfl ?_ (by simp) (by rw [List.length_cons]; omega)
      unfold oneT
      have hw : wordN (45 :: decOf n) = 0 := rfl
      rw [hw, if_neg (by decide), hnt, if_pos (by simp)]
/-- .. but for what is below the least. -/
theorem lex_below (n : Nat) (hn : n < 18446744073709551616) (hb : 9223372036854775808 < n) : lexT (digitsT n true) 1000 = ([], 0, 2) := by
  have h0 : n ≠ 0 := by omega
  have hne := decOf_ne h0
  have hdg := decOf_digits n n (Nat.le_refl _)
  have hv := decOf_val n n (Nat.le_refl _)
  have hl := decOf_len64 hn
  have ht : digitsT n true = 45 :: decOf n := by unfold digitsT; rw [if_neg h0, if_pos rfl]
  have hfr : numFrom (45 :: decOf n) = 1 := rfl
  have hds : numDs (45 :: decOf n) = decOf n := by unfold numDs; rw [hfr]; show digs (decOf n) = _; exact digs_all_q hdg
  have hnv : numV (45 :: decOf n) = n := by unfold numV; rw [hds, hv]
  have hnt : numT (45 :: decOf n) = (0, false, 0) := by
    unfold numT
    rw [if_pos]
    unfold numBad
    rw [hnv, decide_eq_true hb, show numNeg (45 :: decOf n) = true from rfl]
    simp
  rw [ht]
  refine lex_zero (x := tk0) rfl ?_ (by simp) (by rw [List.length_cons]; omega)
  unfold oneT
  have hw : wordN (45 :: decOf n) = 0 := rfl
  have hx : textT (45 :: decOf n) = ([], 0) := text_no (fun c hc => by simp at hc; rw [← hc]; decide)
  rw [hw, if_neg (by decide), hnt, if_neg (by decide), hx, if_neg (by decide)]
  rfl
end Go.Proofs.YtdenhfhdobcfiaaDoor
