/- Several texts in one: VarMath. What each proves, and its conditions, stands at its own head. -/
import Derived.Lib.Varint
import Derived.Test.YtalbiieagcandaaPkR0
import Derived.Lib.BitFns
import Derived.Laws.BitsLemmas
import Derived.Lib.EndianBits
/- Plain arithmetic of numbers as bytes of seven bits each (no program here): how many bytes a number has, what is read of bytes, and that what is written is read. Conditions: none but those that each theorem names. -/
namespace Go.Proofs.Ytalbiieagcandaa
open Go.Lib

/-! ### How many bytes -/
theorem uvarint_size : ∀ (f n : Nat), n < 2 ^ f → f ≤ 64 → (uvarint n).length = (bitLen (n / 2) + 7) / 7
  | 0, n, h, _ => by
    have : n = 0 := by simpa using h
    subst this; rw [uvarint_small (by decide)]; rfl
  | f + 1, n, h, hf => by
    by_cases hn : n < 128
    · rw [uvarint_small hn]
      have := bitLen_le (n / 2) 6 (by decide) (by omega)
      simp; omega
    · rw [uvarint_big (by omega), List.length_cons]
      have hp : (2 : Nat) ^ (f + 1) = 2 ^ f * 2 := Nat.pow_succ ..
      have h64 : (2 : Nat) ^ (f + 1) ≤ 2 ^ 64 := Nat.pow_le_pow_right (by decide) hf
      have ih := uvarint_size f (n / 128) (by omega) (by omega)
      have hs := bitLen_shift 6 (n / 2) (by omega) (by omega)
      have e : n / 2 / 2 ^ 6 = n / 128 := by omega
      have hh := bitLen_half (n / 128) (by omega) (by omega)
      rw [e] at hs
      rw [ih, hs, hh]
      omega

theorem bitLen_odd (n : Nat) (h : n < 2 ^ 64) : bitLen (n / 2 * 2 + 1) = 1 + bitLen (n / 2) := by
  rw [bitLen_half _ (by omega) (by omega)]
  congr 2; omega

theorem uvarint_len (n : Nat) (h : n < 2 ^ 64) : (bitLen (n / 2 * 2 + 1) + 7 - 1) / 7 = (uvarint n).length := by
  rw [uvarint_size 64 n h (by decide), bitLen_odd n h]
  congr 1; omega

/-- 'n | 1'. -/
theorem or_one (n : Nat) (h : n < 2 ^ 64) : bits .or .u64 (n : Int) 1 = ((n / 2 * 2 + 1 : Nat) : Int) := by
  have h2 := (bits_nat .u64 64 (by decide) wraps_u64 n 1 h (by decide)).2
  have e : ((1 : Nat) : Int) = 1 := rfl
  rw [e] at h2
  rw [h2]
  have h3 : n ||| 1 = n / 2 * 2 + 1 := by
    have hd := Nat.div_add_mod n 2
    rcases Nat.mod_two_eq_zero_or_one n with hm | hm
    · have : n = 2 ^ 1 * (n / 2) := by omega
      rw [this, ← Nat.two_pow_add_eq_or_of_lt (i := 1) (by decide) (n / 2)]
      omega
    · have hn : n = 2 ^ 1 * (n / 2) + 1 := by omega
      have : n ||| 1 = (2 ^ 1 * (n / 2) ||| 1) ||| 1 := by
        rw [← Nat.two_pow_add_eq_or_of_lt (i := 1) (by decide) (n / 2), ← hn]
      rw [this, Nat.or_assoc, Nat.or_self, ← Nat.two_pow_add_eq_or_of_lt (i := 1) (by decide) (n / 2)]
      omega
  rw [h3]

/-! ### What is read -/
/-- What stands at the beginning of l, where i bytes have been read that gave acc: the number and how many bytes; (0, 0): none. -/
def getFrom (i acc : Nat) : List UInt8 → Nat × Nat
  | [] => (0, 0)
  | c :: cs =>
    if 10 ≤ i ∨ (i = 9 ∧ 2 ≤ c.toNat) then (0, 0)
    else if c.toNat < 128 then (acc + c.toNat % 128 * 128 ^ i, i + 1)
    else getFrom (i + 1) (acc + c.toNat % 128 * 128 ^ i) cs

theorem getFrom_nil (i acc : Nat) : getFrom i acc [] = (0, 0) := rfl
theorem getFrom_ten (i acc : Nat) (l : List UInt8) (h : 10 ≤ i) : getFrom i acc l = (0, 0) := by
  cases l with
  | nil => rfl
  | cons c cs => simp [getFrom, h]
theorem getFrom_high (acc : Nat) (c : UInt8) (cs : List UInt8) (h : 2 ≤ c.toNat) : getFrom 9 acc (c :: cs) = (0, 0) := by simp [getFrom, h]
theorem getFrom_last (i acc : Nat) (c : UInt8) (cs : List UInt8) (hi : i < 10) (h9 : i = 9 → c.toNat < 2) (h : c.toNat < 128) : getFrom i acc (c :: cs) = (acc + c.toNat % 128 * 128 ^ i, i + 1) := by
  unfold getFrom
  rw [if_neg (fun h' => h'.elim (fun h1 => by omega) (fun h1 => by have := h9 h1.1; omega)), if_pos h]
theorem getFrom_more (i acc : Nat) (c : UInt8) (cs : List UInt8) (hi : i < 9) (h : 128 ≤ c.toNat) : getFrom i acc (c :: cs) = getFrom (i + 1) (acc + c.toNat % 128 * 128 ^ i) cs := by
  conv => lhs; unfold getFrom
  rw [if_neg (by omega), if_neg (by omega)]

theorem pow7 (i : Nat) : (128 : Nat) ^ (i + 1) = 128 * 128 ^ i := by rw [Nat.pow_succ, Nat.mul_comm]
theorem pow7_pos (i : Nat) : 0 < (128 : Nat) ^ i := Nat.pow_pos (by decide)
theorem pow7_nine {i : Nat} (h : i ≤ 9) : (128 : Nat) ^ i ≤ 9223372036854775808 := by
  have := Nat.pow_le_pow_right (n := 128) (by decide) h
  exact Nat.le_trans this (by decide)

/-- What is gathered stays below the next group. -/
theorem acc_lt {i acc c : Nat} (h : acc < 128 ^ i) : acc + c % 128 * 128 ^ i < 128 ^ (i + 1) := by
  rw [pow7]
  have hc : c % 128 ≤ 127 := by omega
  have := Nat.mul_le_mul_right (128 ^ i) hc
  omega

theorem getFrom_lt : ∀ (l : List UInt8) (i acc : Nat), acc < 128 ^ i → (getFrom i acc l).2 ≠ 0 →
    (getFrom i acc l).1 < 128 ^ (getFrom i acc l).2 ∧ (getFrom i acc l).1 < 18446744073709551616 ∧ i < (getFrom i acc l).2 ∧ (getFrom i acc l).2 ≤ i + l.length
  | [], i, acc, _, h0 => by simp [getFrom] at h0
  | c :: cs, i, acc, h, h0 => by
    by_cases h1 : 10 ≤ i ∨ (i = 9 ∧ 2 ≤ c.toNat)
    · simp [getFrom, h1] at h0
    · have hi : i ≤ 9 := by omega
      have h9 : i = 9 → c.toNat < 2 := by intro e; omega
      by_cases h2 : c.toNat < 128
      · rw [getFrom_last i acc c cs (by omega) h9 h2]
        refine ⟨acc_lt h, ?_, by simp, by simp⟩
        simp only
        by_cases e : i = 9
        · subst e
          have := h9 rfl
          have e9 : (128 : Nat) ^ 9 = 9223372036854775808 := by decide
          rw [e9] at h ⊢
          have : c.toNat % 128 ≤ 1 := by omega
          omega
        · have := acc_lt (c := c.toNat) h
          have h9' := pow7_nine (i := i + 1) (by omega)
          omega
      · have hi9 : i < 9 := by
          rcases Nat.lt_or_ge i 9 with h' | h'
          · exact h'
          · have : i = 9 := by omega
            have := h9 this; omega
        rw [getFrom_more i acc c cs hi9 (by omega)] at h0 ⊢
        have ih := getFrom_lt cs (i + 1) _ (acc_lt (c := c.toNat) h) h0
        refine ⟨ih.1, ih.2.1, by have := ih.2.2.1; omega, by have := ih.2.2.2; simp; omega⟩

/-- No number has fewer bytes than those that are put. -/
theorem getFrom_size (l : List UInt8) (h : (getFrom 0 0 l).2 ≠ 0) : (uvarint (getFrom 0 0 l).1).length ≤ (getFrom 0 0 l).2 := by
  have h1 := getFrom_lt l 0 0 (by decide) h
  have h2 := uvarint_length ((getFrom 0 0 l).2 - 1) (getFrom 0 0 l).1
  have e : (getFrom 0 0 l).2 - 1 + 1 = (getFrom 0 0 l).2 := by omega
  rw [e] at h2
  exact h2 h1.1

theorem getFrom_le (l : List UInt8) : (getFrom 0 0 l).2 ≤ l.length := by
  by_cases h : (getFrom 0 0 l).2 = 0
  · omega
  · have := (getFrom_lt l 0 0 (by decide) h).2.2.2; omega
theorem getFrom_u64 (l : List UInt8) : (getFrom 0 0 l).1 < 18446744073709551616 := by
  by_cases h : (getFrom 0 0 l).2 = 0
  · have : ∀ (l : List UInt8) (i acc : Nat), (getFrom i acc l).2 = 0 → (getFrom i acc l).1 = 0 := by
      intro l
      induction l with
      | nil => intros; rfl
      | cons c cs ih =>
        intro i acc
        unfold getFrom
        split
        · intro; rfl
        · split
          · intro h'; simp at h'
          · exact ih _ _
    rw [this l 0 0 h]; decide
  · exact (getFrom_lt l 0 0 (by decide) h).2.1

theorem mul_split (n P : Nat) : n % 128 * P + n / 128 * (128 * P) = n * P := by
  have h : n = n % 128 + 128 * (n / 128) := (Nat.mod_add_div n 128).symm
  have e : n / 128 * (128 * P) = 128 * (n / 128) * P := by rw [← Nat.mul_assoc, Nat.mul_comm (n / 128) 128]
  rw [e, ← Nat.add_mul, ← h]

/-- What is put is got, whatever stands behind it. -/
theorem getFrom_put : ∀ (f n i acc : Nat) (rest : List UInt8), n < 2 ^ f → f + 7 * i ≤ 64 → getFrom i acc (uvarint n ++ rest) = (acc + n * 128 ^ i, i + (uvarint n).length)
  | f, n, i, acc, rest, h, hf => by
    by_cases hn : n < 128
    · rw [uvarint_small hn, List.singleton_append]
      have hu : (n.toUInt8).toNat = n := u8_nat (by omega)
      rw [getFrom_last i acc _ rest (by omega) ?_ (by rw [hu]; exact hn)]
      · rw [hu, Nat.mod_eq_of_lt hn]; rfl
      · intro e
        rw [hu]
        have hf1 : f ≤ 1 := by omega
        have := Nat.pow_le_pow_right (n := 2) (by decide) hf1
        omega
    · have hf7 : 8 ≤ f := by
        rcases Nat.lt_or_ge f 8 with h' | h'
        · have := Nat.pow_le_pow_right (n := 2) (by decide) (show f ≤ 7 by omega)
          omega
        · exact h'
      rw [uvarint_big (by omega), List.cons_append]
      have hu : ((n % 128 + 128).toUInt8).toNat = n % 128 + 128 := u8_nat (by omega)
      rw [getFrom_more i acc _ _ (by omega) (by rw [hu]; omega), hu]
      have hp : (2 : Nat) ^ f = 2 ^ (f - 7) * 128 := by rw [← Nat.pow_add (n := 7)]; congr 1; omega
      have hlt : n / 128 < 2 ^ (f - 7) := Nat.div_lt_of_lt_mul (by rw [Nat.mul_comm, ← hp]; exact h)
      rw [getFrom_put (f - 7) (n / 128) (i + 1) _ rest hlt (by omega), List.length_cons]
      have e1 : (n % 128 + 128) % 128 = n % 128 := by omega
      rw [e1, pow7, Nat.add_assoc, mul_split]
      congr 1; omega
termination_by _ n => n
decreasing_by omega

theorem get_put (n : Nat) (h : n < 18446744073709551616) (rest : List UInt8) : getFrom 0 0 (uvarint n ++ rest) = (n, (uvarint n).length) := by
  rw [getFrom_put 64 n 0 0 rest (by simpa using h) (by decide)]; simp

/-! ### One byte's part -/
/-- What byte c has of a number whose byte k it is, in 64 bits. -/
def pt (k c : Nat) : Nat := c % 128 * 128 ^ k % 18446744073709551616
/-- May c be a number's last byte, its byte k? -/
def endsB (k c : Nat) : Bool := decide (c < 128 ∧ (k < 9 ∨ c ≤ 1))

theorem pt_small {k c : Nat} (h : k < 9 ∨ (k = 9 ∧ c < 2)) : pt k c = c % 128 * 128 ^ k := by
  unfold pt
  refine Nat.mod_eq_of_lt ?_
  rcases h with h | ⟨rfl, h⟩
  · have h1 := pow7_nine (i := k + 1) (by omega)
    rw [pow7] at h1
    have hc : c % 128 ≤ 127 := by omega
    have := Nat.mul_le_mul_right (128 ^ k) hc
    omega
  · have e9 : (128 : Nat) ^ 9 = 9223372036854775808 := by decide
    rw [e9]
    omega
theorem pt_lt (k c : Nat) : pt k c < 18446744073709551616 := Nat.mod_lt _ (by decide)

theorem pt_wrap (k c : Nat) : IntKind.u64.wrap ((c : Int) % 128 * 2 ^ (7 * k)) = (pt k c : Int) := by
  have hp : ((128 ^ k : Nat) : Int) = 2 ^ (7 * k) := by
    rw [show (128 : Nat) ^ k = 2 ^ (7 * k) by rw [show (128 : Nat) = 2 ^ 7 from rfl, ← Nat.pow_mul]]
    simp
  have e : (c : Int) % 128 * 2 ^ (7 * k) = ((c % 128 * 128 ^ k : Nat) : Int) := by rw [Int.natCast_mul, hp]; simp
  rw [e]
  unfold pt
  simp [IntKind.wrap, IntKind.bits, IntKind.signed]

/-- 'n | part': the part lies above what is gathered. -/
theorem or_join {k acc c : Nat} (hk : k ≤ 9) (h : acc < 128 ^ k) : bits .or .u64 (acc : Int) (pt k c : Int) = ((acc + pt k c : Nat) : Int) := by
  have hacc : acc < 2 ^ 64 := Nat.lt_of_lt_of_le h (Nat.le_trans (pow7_nine hk) (by decide))
  have h2 := (bits_nat .u64 64 (by decide) wraps_u64 acc (pt k c) hacc (pt_lt k c)).2
  rw [h2]
  have hp : (128 : Nat) ^ k = 2 ^ (7 * k) := by rw [show (128 : Nat) = 2 ^ 7 from rfl, ← Nat.pow_mul]
  have hd : 2 ^ (7 * k) ∣ pt k c := by
    unfold pt
    rw [hp]
    refine (Nat.dvd_mod_iff ?_).2 (Nat.dvd_mul_left _ _)
    have : (18446744073709551616 : Nat) = 2 ^ (7 * k) * 2 ^ (64 - 7 * k) := by rw [← Nat.pow_add]; rw [show 7 * k + (64 - 7 * k) = 64 by omega]
    rw [this]
    exact Nat.dvd_mul_right _ _
  obtain ⟨q, hq⟩ := hd
  rw [hq, Nat.or_comm, ← Nat.two_pow_add_eq_or_of_lt (i := 7 * k) (by rw [← hp]; exact h) q, Nat.add_comm]

theorem ends_step {k acc : Nat} {c : UInt8} {cs : List UInt8} (hk : k ≤ 9) (he : endsB k c.toNat = true) : getFrom k acc (c :: cs) = (acc + pt k c.toNat, k + 1) := by
  have h := of_decide_eq_true he
  rw [getFrom_last k acc c cs (by omega) (by omega) h.1, pt_small (by omega)]
theorem more_step {k acc : Nat} {c : UInt8} {cs : List UInt8} (hk : k ≤ 9) (h : acc < 128 ^ k) (he : endsB k c.toNat = false) :
    getFrom k acc (c :: cs) = getFrom (k + 1) (acc + pt k c.toNat) cs ∧ acc + pt k c.toNat < 128 ^ (k + 1) := by
  have h' := of_decide_eq_false he
  by_cases hk9 : k = 9
  · subst hk9
    have hp := pt_lt 9 c.toNat
    have e9 : (128 : Nat) ^ 9 = 9223372036854775808 := by decide
    have e10 : (128 : Nat) ^ (9 + 1) = 1180591620717411303424 := by decide
    rw [getFrom_high acc c cs (by omega), getFrom_ten _ _ _ (by omega)]
    rw [e9] at h
    rw [e10]
    exact ⟨rfl, by omega⟩
  · rw [getFrom_more k acc c cs (by omega) (by omega), pt_small (by omega)]
    exact ⟨rfl, acc_lt h⟩

/-! ### All numbers -/
set_option linter.unusedVariables false in
def allOf (l : List UInt8) : Option (List Nat) :=
  if hl : l = [] then some []
  else if hk : (getFrom 0 0 l).2 = 0 then none
  else (allOf (l.drop (getFrom 0 0 l).2)).map ((getFrom 0 0 l).1 :: ·)
termination_by l.length
decreasing_by
  have : 0 < l.length := List.length_pos_iff.2 hl
  rw [List.length_drop]; omega

theorem allOf_nil : allOf [] = some [] := by rw [allOf]; simp
theorem allOf_bad {l : List UInt8} (hl : l ≠ []) (h : (getFrom 0 0 l).2 = 0) : allOf l = none := by rw [allOf]; simp [hl, h]
theorem allOf_step {l : List UInt8} (hl : l ≠ []) (h : (getFrom 0 0 l).2 ≠ 0) : allOf l = (allOf (l.drop (getFrom 0 0 l).2)).map ((getFrom 0 0 l).1 :: ·) := by
  rw [allOf]; simp [hl, h]

/-- What All answers. -/
def allRes (bs : List UInt8) : List Nat × Bool := match allOf bs with
  | none => ([], false)
  | some l => (l, true)
theorem allRes_none {bs : List UInt8} (h : allOf bs = none) : allRes bs = ([], false) := by unfold allRes; rw [h]
theorem allRes_some {bs : List UInt8} {l : List Nat} (h : allOf bs = some l) : allRes bs = (l, true) := by unfold allRes; rw [h]
/-- What is still to be read, behind what has been. -/
theorem all_start (bs : List UInt8) : allOf bs = (allOf bs).map (([] : List Nat) ++ ·) := by simp
theorem all_done {bs rest : List UInt8} {acc : List Nat} (h : allOf bs = (allOf rest).map (acc ++ ·)) (hr : rest = []) : allRes bs = (acc, true) := by
  subst hr; rw [allOf_nil] at h; exact allRes_some (by simpa using h)
theorem all_fail {bs rest : List UInt8} {acc : List Nat} (h : allOf bs = (allOf rest).map (acc ++ ·)) (hl : rest ≠ []) (h0 : (getFrom 0 0 rest).2 = 0) : allRes bs = ([], false) :=
  allRes_none (by rw [h, allOf_bad hl h0]; rfl)
theorem all_on {bs rest : List UInt8} {acc : List Nat} (h : allOf bs = (allOf rest).map (acc ++ ·)) (hl : rest ≠ []) {m k : Nat} (hg : getFrom 0 0 rest = (m, k)) (hk : k ≠ 0) :
    allOf bs = (allOf (rest.drop k)).map ((acc ++ [m]) ++ ·) := by
  rw [h, allOf_step hl (by rw [hg]; exact hk), hg, Option.map_map]
  congr 1
  funext l
  simp

/-- The bytes of numbers, one behind the other. -/
def putAll : List Nat → List UInt8
  | [] => []
  | n :: ns => uvarint n ++ putAll ns
theorem uvarint_ne (n : Nat) : uvarint n ≠ [] := by
  intro h
  have := uvarint_pos n
  rw [h] at this; simp at this
theorem allOf_put : ∀ (l : List Nat), (∀ n ∈ l, n < 18446744073709551616) → allOf (putAll l) = some l
  | [], _ => allOf_nil
  | n :: ns, h => by
    have hg := get_put n (h n (by simp)) (putAll ns)
    have hp := uvarint_pos n
    rw [putAll, allOf_step (by simp [uvarint_ne]) (by rw [hg]; simp [uvarint_ne]), hg]
    simp only
    rw [List.drop_left, allOf_put ns (fun m hm => h m (by simp [hm]))]
    rfl
theorem putAll_snoc (l : List Nat) (n : Nat) : putAll (l ++ [n]) = putAll l ++ uvarint n := by
  induction l with
  | nil => simp [putAll]
  | cons a l ih => simp [putAll, ih]
theorem putAll_length : ∀ (l : List Nat), (∀ n ∈ l, n < 18446744073709551616) → (putAll l).length ≤ 10 * l.length
  | [], _ => by simp [putAll]
  | n :: ns, h => by
    have h1 := uvarint_length64 (h n (by simp))
    have h2 := putAll_length ns (fun m hm => h m (by simp [hm]))
    simp only [putAll, List.length_append, List.length_cons]; omega

end Go.Proofs.Ytalbiieagcandaa
