/- Several texts in one: VarMath, CurMath, CurOp, TxtMath, EmRdM, RawMath, RawGet, RawBack, TrMath. What each proves, and its conditions, stands at its own head. -/
import Derived.Lib.Varint
import Derived.Test.YtpfdnggacpehdaaGreatDoorPkDU0
import Derived.Lib.BitFns
import Derived.Laws.BitsLemmas
import Derived.Lib.EndianBits
import Derived.Test.YtpfdnggacpehdaaGreatDoorPkDU1
/- Plain arithmetic of numbers as bytes of seven bits each (no program here): how many bytes a number has, what is read of bytes, and that what is written is read. Conditions: none but those that each theorem names. -/
namespace Go.Proofs.YtpfdnggacpehdaaGreatDoor
open Go.Lib

/-! ### How many bytes -/
/-! ### What is read -/
/-- What stands at the beginning of l, where i bytes have been read that gave acc: the number and how many bytes; (0, 0): none. -/
def getFrom (i acc : Nat) : List UInt8 → Nat × Nat
  | [] => (0, 0)
  | c :: cs =>
    if 10 ≤ i ∨ (i = 9 ∧ 2 ≤ c.toNat) then (0, 0)
    else if c.toNat < 128 then (acc + c.toNat % 128 * 128 ^ i, i + 1)
    else getFrom (i + 1) (acc + c.toNat % 128 * 128 ^ i) cs

theorem getFrom_ten (i acc : Nat) (l : List UInt8) (h : 10 ≤ i) : getFrom i acc l = (0, 0) := by
  cases l with
  | nil => rfl
  | cons c cs => simp [getFrom, h]
theorem getFrom_high (acc : Nat) (c : UInt8) (cs : List UInt8) (h : 2 ≤ c.toNat) : getFrom 9 acc (c :: cs) = (0, 0) := by simp [getFrom, h]
theorem getFrom_last (i acc : Nat) (c : UInt8) (cs : List UInt8) (hi : i < 10) (h9 : i = 9 → c.toNat < 2) (h : c.toNat < 128) : getFrom i acc (c :: cs) = (acc + c.toNat % 128 * 128 ^ i, i + 1) := by
  unfold getFrom
  rw [if_neg (fun h' => h'.elim (fun h1 => by omega) (fun h1 => by have := h9 h1.1; omega)), if_pos h]
theorem getFrom_more (i acc : Nat) (c : UInt8) (cs : List UInt8) (hi : i < 9) (h : 128 ≤ c.toNat) : getFrom i acc (c :: cs) = getFrom (i + 1) (acc + c.toNat % 128 * 128 ^ i) cs := by
  conv => lhs; unfold getFrom
  rw [if_neg (by omega), if_neg (by omega)]

theorem pow7 (i : Nat) : (128 : Nat) ^ (i + 1) = 128 * 128 ^ i := by rw [Nat.pow_succ, Nat.mul_comm]
theorem pow7_nine {i : Nat} (h : i ≤ 9) : (128 : Nat) ^ i ≤ 9223372036854775808 := by
  have := Nat.pow_le_pow_right (n := 128) (by decide) h
  exact Nat.le_trans this (by decide)

/-- What is gathered stays below the next group. -/
theorem acc_lt {i acc c : Nat} (h : acc < 128 ^ i) : acc + c % 128 * 128 ^ i < 128 ^ (i + 1) := by
  rw [pow7]
  have hc : c % 128 ≤ 127 := by omega
  have := Nat.mul_le_mul_right (128 ^ i) hc
  omega

theorem getFrom_lt : ∀ (l : List UInt8) (i acc : Nat), acc < 128 ^ i → (getFrom i acc l).2 ≠ 0 →
    (getFrom i acc l).1 < 128 ^ (getFrom i acc l).2 ∧ (getFrom i acc l).1 < 18446744073709551616 ∧ i < (getFrom i acc l).2 ∧ (getFrom i acc l).2 ≤ i + l.length
  | [], i, acc, _, h0 => by simp [getFrom] at h0
  | c :: cs, i, acc, h, h0 => by
    by_cases h1 : 10 ≤ i ∨ (i = 9 ∧ 2 ≤ c.toNat)
    · simp [getFrom, h1] at h0
    · have hi : i ≤ 9 := by omega
      have h9 : i = 9 → c.toNat < 2 := by intro e; omega
      by_cases h2 : c.toNat < 128
      · rw [getFrom_last i acc c cs (by omega) h9 h2]
        refine ⟨acc_lt h, ?_, by simp, by simp⟩
        simp only
        by_cases e : i = 9
        · subst e
          have := h9 rfl
          have e9 : (128 : Nat) ^ 9 = 9223372036854775808 := by decide
          rw [e9] at h ⊢
          have : c.toNat % 128 ≤ 1 := by omega
          omega
        · have := acc_lt (c := c.toNat) h
          have h9' := pow7_nine (i := i + 1) (by omega)
          omega
      · have hi9 : i < 9 := by
          rcases Nat.lt_or_ge i 9 with h' | h'
          · exact h'
          · have : i = 9 := by omega
            have := h9 this; omega
        rw [getFrom_more i acc c cs hi9 (by omega)] at h0 ⊢
        have ih := getFrom_lt cs (i + 1) _ (acc_lt (c := c.toNat) h) h0
        refine ⟨ih.1, ih.2.1, by have := ih.2.2.1; omega, by have := ih.2.2.2; simp; omega⟩

/-- No number has fewer bytes than those that are put. -/
theorem getFrom_size (l : List UInt8) (h : (getFrom 0 0 l).2 ≠ 0) : (uvarint (getFrom 0 0 l).1).length ≤ (getFrom 0 0 l).2 := by
  have h1 := getFrom_lt l 0 0 (by decide) h
  have h2 := uvarint_length ((getFrom 0 0 l).2 - 1) (getFrom 0 0 l).1
  have e : (getFrom 0 0 l).2 - 1 + 1 = (getFrom 0 0 l).2 := by omega
  rw [e] at h2
  exact h2 h1.1

theorem getFrom_le (l : List UInt8) : (getFrom 0 0 l).2 ≤ l.length := by
  by_cases h : (getFrom 0 0 l).2 = 0
  · omega
  · have := (getFrom_lt l 0 0 (by decide) h).2.2.2; omega
theorem getFrom_u64 (l : List UInt8) : (getFrom 0 0 l).1 < 18446744073709551616 := by
  by_cases h : (getFrom 0 0 l).2 = 0
  · have : ∀ (l : List UInt8) (i acc : Nat), (getFrom i acc l).2 = 0 → (getFrom i acc l).1 = 0 := by
      intro l
      induction l with
      | nil => intros; rfl
      | cons c cs ih =>
        intro i acc
        unfold getFrom
        split
        · intro; rfl
        · split
          · intro h'; simp at h'
          · exact ih _ _
    rw [this l 0 0 h]; decide
  · exact (getFrom_lt l 0 0 (by decide) h).2.1

theorem mul_split (n P : Nat) : n % 128 * P + n / 128 * (128 * P) = n * P := by
  have h : n = n % 128 + 128 * (n / 128) := (Nat.mod_add_div n 128).symm
  have e : n / 128 * (128 * P) = 128 * (n / 128) * P := by rw [← Nat.mul_assoc, Nat.mul_comm (n / 128) 128]
  rw [e, ← Nat.add_mul, ← h]

/-- What is put is got, whatever stands behind it. -/
theorem getFrom_put : ∀ (f n i acc : Nat) (rest : List UInt8), n < 2 ^ f → f + 7 * i ≤ 64 → getFrom i acc (uvarint n ++ rest) = (acc + n * 128 ^ i, i + (uvarint n).length)
  | f, n, i, acc, rest, h, hf => by
    by_cases hn : n < 128
    · rw [uvarint_small hn, List.singleton_append]
      have hu : (n.toUInt8).toNat = n := u8_nat (by omega)
      rw [getFrom_last i acc _ rest (by omega) ?_ (by rw [hu]; exact hn)]
      · rw [hu, Nat.mod_eq_of_lt hn]; rfl
      · intro e
        rw [hu]
        have hf1 : f ≤ 1 := by omega
        have := Nat.pow_le_pow_right (n := 2) (by decide) hf1
        omega
    · have hf7 : 8 ≤ f := by
        rcases Nat.lt_or_ge f 8 with h' | h'
        · have := Nat.pow_le_pow_right (n := 2) (by decide) (show f ≤ 7 by omega)
          omega
        · exact h'
      rw [uvarint_big (by omega), List.cons_append]
      have hu : ((n % 128 + 128).toUInt8).toNat = n % 128 + 128 := u8_nat (by omega)
      rw [getFrom_more i acc _ _ (by omega) (by rw [hu]; omega), hu]
      have hp : (2 : Nat) ^ f = 2 ^ (f - 7) * 128 := by rw [← Nat.pow_add (n := 7)]; congr 1; omega
      have hlt : n / 128 < 2 ^ (f - 7) := Nat.div_lt_of_lt_mul (by rw [Nat.mul_comm, ← hp]; exact h)
      rw [getFrom_put (f - 7) (n / 128) (i + 1) _ rest hlt (by omega), List.length_cons]
      have e1 : (n % 128 + 128) % 128 = n % 128 := by omega
      rw [e1, pow7, Nat.add_assoc, mul_split]
      congr 1; omega
termination_by _ n => n
decreasing_by omega

theorem get_put (n : Nat) (h : n < 18446744073709551616) (rest : List UInt8) : getFrom 0 0 (uvarint n ++ rest) = (n, (uvarint n).length) := by
  rw [getFrom_put 64 n 0 0 rest (by simpa using h) (by decide)]; simp

/-! ### One byte's part -/
/-- What byte c has of a number whose byte k it is, in 64 bits. -/
def pt (k c : Nat) : Nat := c % 128 * 128 ^ k % 18446744073709551616
/-- May c be a number's last byte, its byte k? -/
def endsB (k c : Nat) : Bool := decide (c < 128 ∧ (k < 9 ∨ c ≤ 1))

theorem pt_small {k c : Nat} (h : k < 9 ∨ (k = 9 ∧ c < 2)) : pt k c = c % 128 * 128 ^ k := by
  unfold pt
  refine Nat.mod_eq_of_lt ?_
  rcases h with h | ⟨rfl, h⟩
  · have h1 := pow7_nine (i := k + 1) (by omega)
    rw [pow7] at h1
    have hc : c % 128 ≤ 127 := by omega
    have := Nat.mul_le_mul_right (128 ^ k) hc
    omega
  · have e9 : (128 : Nat) ^ 9 = 9223372036854775808 := by decide
    rw [e9]
    omega
theorem pt_lt (k c : Nat) : pt k c < 18446744073709551616 := Nat.mod_lt _ (by decide)

theorem pt_wrap (k c : Nat) : IntKind.u64.wrap ((c : Int) % 128 * 2 ^ (7 * k)) = (pt k c : Int) := by
  have hp : ((128 ^ k : Nat) : Int) = 2 ^ (7 * k) := by
    rw [show (128 : Nat) ^ k = 2 ^ (7 * k) by rw [show (128 : Nat) = 2 ^ 7 from rfl, ← Nat.pow_mul]]
    simp
  have e : (c : Int) % 128 * 2 ^ (7 * k) = ((c % 128 * 128 ^ k : Nat) : Int) := by rw [Int.natCast_mul, hp]; simp
  rw [e]
  unfold pt
  simp [IntKind.wrap, IntKind.bits, IntKind.signed]

/-- 'n | part': the part lies above what is gathered. -/
theorem or_join {k acc c : Nat} (hk : k ≤ 9) (h : acc < 128 ^ k) : bits .or .u64 (acc : Int) (pt k c : Int) = ((acc + pt k c : Nat) : Int) := by
  have hacc : acc < 2 ^ 64 := Nat.lt_of_lt_of_le h (Nat.le_trans (pow7_nine hk) (by decide))
  have h2 := (bits_nat .u64 64 (by decide) wraps_u64 acc (pt k c) hacc (pt_lt k c)).2
  rw [h2]
  have hp : (128 : Nat) ^ k = 2 ^ (7 * k) := by rw [show (128 : Nat) = 2 ^ 7 from rfl, ← Nat.pow_mul]
  have hd : 2 ^ (7 * k) ∣ pt k c := by
    unfold pt
    rw [hp]
    refine (Nat.dvd_mod_iff ?_).2 (Nat.dvd_mul_left _ _)
    have : (18446744073709551616 : Nat) = 2 ^ (7 * k) * 2 ^ (64 - 7 * k) := by rw [← Nat.pow_add]; rw [show 7 * k + (64 - 7 * k) = 64 by omega]
    rw [this]
    exact Nat.dvd_mul_right _ _
  obtain ⟨q, hq⟩ := hd
  rw [hq, Nat.or_comm, ← Nat.two_pow_add_eq_or_of_lt (i := 7 * k) (by rw [← hp]; exact h) q, Nat.add_comm]

theorem ends_step {k acc : Nat} {c : UInt8} {cs : List UInt8} (hk : k ≤ 9) (he : endsB k c.toNat = true) : getFrom k acc (c :: cs) = (acc + pt k c.toNat, k + 1) := by
  have h := of_decide_eq_true he
  rw [getFrom_last k acc c cs (by omega) (by omega) h.1, pt_small (by omega)]
theorem more_step {k acc : Nat} {c : UInt8} {cs : List UInt8} (hk : k ≤ 9) (h : acc < 128 ^ k) (he : endsB k c.toNat = false) :
    getFrom k acc (c :: cs) = getFrom (k + 1) (acc + pt k c.toNat) cs ∧ acc + pt k c.toNat < 128 ^ (k + 1) := by
  have h' := of_decide_eq_false he
  by_cases hk9 : k = 9
  · subst hk9
    have hp := pt_lt 9 c.toNat
    have e9 : (128 : Nat) ^ 9 = 9223372036854775808 := by decide
    have e10 : (128 : Nat) ^ (9 + 1) = 1180591620717411303424 := by decide
    rw [getFrom_high acc c cs (by omega), getFrom_ten _ _ _ (by omega)]
    rw [e9] at h
    rw [e10]
    exact ⟨rfl, by omega⟩
  · rw [getFrom_more k acc c cs (by omega) (by omega), pt_small (by omega)]
    exact ⟨rfl, acc_lt h⟩

/-! ### All numbers -/
end Go.Proofs.YtpfdnggacpehdaaGreatDoor

/- Layer 5 in plain words (no program here): a cursor's place and its frames (the innermost one first; none: it failed), and what each call reads. -/
namespace Go.Proofs.YtpfdnggacpehdaaGreatDoor
open Go.RowKit
open Go.Lib (uvarint)

structure St where
  at_ : Nat
  fr : List Nat
def St.none : St := ⟨0, []⟩

/-- The bytes from the place on, up to the innermost frame's end. -/
def segOf (bs : List UInt8) (i l : Nat) : List UInt8 := (bs.take l).drop i
theorem segOf_length {bs : List UInt8} {i l : Nat} (h : l ≤ bs.length) : (segOf bs i l).length = l - i := by
  simp [segOf]; omega

/-- How many bytes are read: 0: it fails. -/
def St.on (s : St) (k : Nat) : St := if k = 0 then St.none else ⟨s.at_ + k, s.fr⟩
def St.rd {α : Type} (take : List UInt8 → α × Nat) (z : α) (bs : List UInt8) (s : St) : α × St :=
  match s.fr with
  | [] => (z, s)
  | l :: _ => if (take (segOf bs s.at_ l)).2 = 0 then (z, St.none) else ((take (segOf bs s.at_ l)).1, ⟨s.at_ + (take (segOf bs s.at_ l)).2, s.fr⟩)

def tVar (b : List UInt8) : Nat × Nat := getFrom 0 0 b
def tFix (k : Nat) (b : List UInt8) : Nat × Nat := (getN k b, if isN k b = true then k else 0)
def tLen (b : List UInt8) : Nat × Nat := if b.length - (getFrom 0 0 b).2 < (getFrom 0 0 b).1 then (0, 0) else getFrom 0 0 b
def tText (b : List UInt8) : List UInt8 × Nat := ((b.drop (tLen b).2).take (tLen b).1, (tLen b).2 + (tLen b).1)
def tTag (b : List UInt8) : (Nat × Nat) × Nat := ((splitN (getFrom 0 0 b).1, splitW (getFrom 0 0 b).1), if splitOk (getFrom 0 0 b).1 = true then (getFrom 0 0 b).2 else 0)

theorem tVar_le (b : List UInt8) : (tVar b).2 ≤ b.length := getFrom_le b
theorem tVar_lt (b : List UInt8) : (tVar b).1 < 18446744073709551616 := getFrom_u64 b
theorem tFix_le (k : Nat) (b : List UInt8) : (tFix k b).2 ≤ b.length := by
  unfold tFix isN
  by_cases h : k ≤ b.length <;> simp [h]
theorem getFrom_none : ∀ (l : List UInt8) (i acc : Nat), (getFrom i acc l).2 = 0 → (getFrom i acc l).1 = 0
  | [], _, _, _ => rfl
  | c :: cs, i, acc, h => by
    unfold getFrom at h ⊢
    split
    · rfl
    · rename_i h1
      rw [if_neg h1] at h
      split
      · rename_i h2
        rw [if_pos h2] at h
        simp at h
      · rename_i h2
        rw [if_neg h2] at h
        exact getFrom_none cs _ _ h
theorem getFrom_zero (b : List UInt8) (h : (getFrom 0 0 b).2 = 0) : (getFrom 0 0 b).1 = 0 := getFrom_none b 0 0 h
theorem tLen_sum (b : List UInt8) : (tLen b).2 + (tLen b).1 ≤ b.length := by
  have h := getFrom_le b
  unfold tLen
  split
  · simp
  · omega
theorem tLen_zero (b : List UInt8) (h : (tLen b).2 = 0) : (tLen b).1 = 0 := by
  revert h
  unfold tLen
  split
  · simp
  · exact getFrom_zero b
theorem tTag_zero (b : List UInt8) (h : (tTag b).2 = 0) : (tTag b).1 = (0, 0) := by
  revert h
  unfold tTag
  dsimp only
  split
  · intro h
    rename_i hok
    rw [getFrom_zero b h] at hok
    exact absurd hok (by decide)
  · rename_i hok
    intro _
    simp [splitN, splitW, hok]
theorem tText_le (b : List UInt8) : (tText b).2 ≤ b.length := tLen_sum b
theorem tTag_le (b : List UInt8) : (tTag b).2 ≤ b.length := by
  have h := getFrom_le b
  unfold tTag
  dsimp only
  split <;> omega

/-- What a cursor that did not fail keeps to. -/
def Right (bs : List UInt8) (s : St) : Prop := match s.fr with
  | [] => s.at_ = 0
  | l :: r => s.at_ ≤ l ∧ l ≤ bs.length ∧ List.Pairwise (· ≤ ·) (l :: r) ∧ (∀ e ∈ r, e ≤ bs.length) ∧ r.length ≤ s.at_
theorem right_none (bs : List UInt8) : Right bs St.none := rfl
theorem right_start (bs : List UInt8) : Right bs ⟨0, [bs.length]⟩ := ⟨Nat.zero_le _, Nat.le_refl _, by simp, by simp, Nat.le_refl _⟩
theorem right_rd {α : Type} {take : List UInt8 → α × Nat} {z : α} {bs : List UInt8} {s : St} (h : Right bs s) (ht : ∀ b, (take b).2 ≤ b.length) : Right bs (s.rd take z bs).2 := by
  obtain ⟨i, fr⟩ := s
  cases fr with
  | nil => exact h
  | cons l r =>
    obtain ⟨h1, h2, h3, h4, h5⟩ := h
    have := ht (segOf bs i l)
    rw [segOf_length h2] at this
    unfold St.rd
    dsimp only at *
    split
    · exact right_none bs
    · exact ⟨by dsimp only; omega, h2, h3, h4, by dsimp only; omega⟩

def St.opens (bs : List UInt8) (s : St) : St := match s.fr with
  | [] => s
  | l :: r => if (tLen (segOf bs s.at_ l)).2 = 0 then St.none else ⟨s.at_ + (tLen (segOf bs s.at_ l)).2, (s.at_ + (tLen (segOf bs s.at_ l)).2 + (tLen (segOf bs s.at_ l)).1) :: l :: r⟩
def St.oks (s : St) : Bool := !s.fr.isEmpty
theorem right_opens {bs : List UInt8} {s : St} (h : Right bs s) : Right bs (s.opens bs) := by
  obtain ⟨i, fr⟩ := s
  cases fr with
  | nil => exact h
  | cons l r =>
    obtain ⟨h1, h2, h3, h4, h5⟩ := h
    have := tLen_sum (segOf bs i l)
    rw [segOf_length h2] at this
    unfold St.opens
    dsimp only at *
    split
    · exact right_none bs
    · refine ⟨by dsimp only; omega, by omega, List.pairwise_cons.2 ⟨fun e he => ?_, h3⟩, fun e he => ?_, by simp only [List.length_cons]; omega⟩
      · rcases List.mem_cons.1 he with rfl | he
        · omega
        · have := (List.pairwise_cons.1 h3).1 e he; omega
      · rcases List.mem_cons.1 he with rfl | he
        · exact h2
        · exact h4 e he
def St.shuts (s : St) : Bool × St := match s.fr with
  | l :: l2 :: r => if s.at_ = l then (true, ⟨s.at_, l2 :: r⟩) else (false, s)
  | _ => (false, s)
theorem right_shuts {bs : List UInt8} {s : St} (h : Right bs s) : Right bs s.shuts.2 := by
  obtain ⟨i, fr⟩ := s
  match fr, h with
  | [], h => exact h
  | [l], h => exact h
  | l :: l2 :: r, h =>
    obtain ⟨h1, h2, h3, h4, h5⟩ := h
    unfold St.shuts
    dsimp only at *
    split
    · have h6 := List.pairwise_cons.1 h3
      have := h6.1 l2 (by simp)
      exact ⟨by dsimp only; omega, h4 l2 (by simp), h6.2, fun e he => h4 e (by simp [he]), by simp only [List.length_cons] at h5; dsimp only; omega⟩
    · exact ⟨h1, h2, h3, h4, h5⟩
def St.more (s : St) : Bool := match s.fr with
  | [] => false
  | l :: _ => decide (s.at_ < l)
end Go.Proofs.YtpfdnggacpehdaaGreatDoor

/- Plain words: open is a length read. -/
namespace Go.Proofs.YtpfdnggacpehdaaGreatDoor

theorem opens_rd {bs : List UInt8} {s : St} : s.opens bs = match (s.rd tLen 0 bs).2.fr with
    | [] => (s.rd tLen 0 bs).2
    | l :: r => ⟨(s.rd tLen 0 bs).2.at_, ((s.rd tLen 0 bs).2.at_ + (s.rd tLen 0 bs).1) :: l :: r⟩ := by
  obtain ⟨i, fr⟩ := s
  cases fr with
  | nil => rfl
  | cons l r =>
    unfold St.opens St.rd
    dsimp only
    split <;> rfl
end Go.Proofs.YtpfdnggacpehdaaGreatDoor

/- Texts one behind the other, each behind its length (no program here); what a cursor reads of them. -/
namespace Go.Proofs.YtpfdnggacpehdaaGreatDoor
open Go.RowKit
open Go.Lib (uvarint)

/-- A length and a text. -/
def putT (t : List UInt8) : List UInt8 := uvarint t.length ++ t
theorem tLen_put (n : Nat) (h : n < 18446744073709551616) (rest : List UInt8) (hr : n ≤ rest.length) : tLen (uvarint n ++ rest) = (n, (uvarint n).length) := by
  unfold tLen
  rw [get_put n h]
  dsimp only
  rw [if_neg (by rw [List.length_append]; omega)]
theorem tText_put (t rest : List UInt8) (h : t.length < 18446744073709551616) : tText (putT t ++ rest) = (t, (putT t).length) := by
  unfold tText
  rw [putT, List.append_assoc, tLen_put _ h _ (by simp)]
  dsimp only
  rw [List.drop_append_of_le_length (Nat.le_refl _), List.drop_length, List.nil_append, List.take_append_of_le_length (Nat.le_refl _), List.take_length, List.length_append]
theorem uvarint_pos' (n : Nat) : 0 < (uvarint n).length := Lib.uvarint_pos n

end Go.Proofs.YtpfdnggacpehdaaGreatDoor

/- Plain words (no program here): frames within one another, and what a cursor reads of them. -/
namespace Go.Proofs.YtpfdnggacpehdaaGreatDoor
open Go.Lib (uvarint)
set_option linter.unusedVariables false

/-- A cursor that has so much ahead, in i + 1 frames that end where the bytes end. -/
structure Ahead (bs : List UInt8) (i : Nat) (rest : List UInt8) (s : St) : Prop where
  fr : s.fr = List.replicate (i + 1) bs.length
  drop : bs.drop s.at_ = rest
  len : s.at_ + rest.length = bs.length
section
variable {bs rest : List UInt8} {i : Nat} {s : St}
theorem Ahead.seg (h : Ahead bs i rest s) : segOf bs s.at_ bs.length = rest := by unfold segOf; rw [List.take_length]; exact h.drop
theorem Ahead.on {a r : List UInt8} (h : Ahead bs i (a ++ r) s) : Ahead bs i r ⟨s.at_ + a.length, s.fr⟩ := by
  refine ⟨h.fr, ?_, ?_⟩
  · show bs.drop (s.at_ + a.length) = r
    rw [← List.drop_drop, h.drop, List.drop_left]
  · have := h.len
    rw [List.length_append] at this
    show s.at_ + a.length + r.length = _
    omega
theorem Ahead.rd {α : Type} {take : List UInt8 → α × Nat} {z v : α} {a r : List UInt8} (h : Ahead bs i (a ++ r) s) (ht : take (a ++ r) = (v, a.length)) (ha : a.length ≠ 0) : (s.rd take z bs).1 = v ∧ Ahead bs i r (s.rd take z bs).2 := by
  have hs := h.seg
  have e : s.rd take z bs = (v, ⟨s.at_ + a.length, s.fr⟩) := by
    unfold St.rd
    rw [h.fr]
    show (if (take (segOf bs s.at_ bs.length)).2 = 0 then _ else _) = _
    rw [hs, ht]
    show (if a.length = 0 then _ else _) = _
    rw [if_neg ha, ← h.fr]
  rw [e]
  exact ⟨rfl, h.on⟩
theorem Ahead.text {t r : List UInt8} (h : Ahead bs i (uvarint t.length ++ (t ++ r)) s) (ht : t.length < 18446744073709551616) : (s.rd tText [] bs).1 = t ∧ Ahead bs i r (s.rd tText [] bs).2 := by
  rw [← List.append_assoc] at h
  have hp := uvarint_pos' t.length
  exact h.rd (z := []) (tText_put t r ht) (by rw [List.length_append]; omega)
theorem Ahead.opens {b : List UInt8} (h : Ahead bs i (uvarint b.length ++ b) s) (hb : b.length < 18446744073709551616) : (s.opens bs).oks = true ∧ Ahead bs (i + 1) b (s.opens bs) := by
  have hs := h.seg
  have ht := tLen_put b.length hb b (Nat.le_refl _)
  have hp := uvarint_pos' b.length
  have hl := h.len
  have hd := h.drop
  rw [List.length_append] at hl
  have e : s.opens bs = ⟨s.at_ + (uvarint b.length).length, List.replicate (i + 1 + 1) bs.length⟩ := by
    unfold St.opens
    rw [h.fr]
    show (if (tLen (segOf bs s.at_ bs.length)).2 = 0 then _ else _) = _
    rw [hs, ht]
    show (if (uvarint b.length).length = 0 then _ else _) = _
    rw [if_neg (by omega)]
    show St.mk _ ((s.at_ + (uvarint b.length).length + b.length) :: bs.length :: List.replicate i bs.length) = _
    rw [show s.at_ + (uvarint b.length).length + b.length = bs.length by omega]
    rfl
  rw [e]
  exact ⟨rfl, rfl, by show bs.drop (s.at_ + (uvarint b.length).length) = b; rw [← List.drop_drop, hd, List.drop_left], by show s.at_ + (uvarint b.length).length + b.length = _; omega⟩
theorem Ahead.none (h : Ahead bs i [] s) : s.more = false := by
  have hl := h.len
  unfold St.more
  rw [h.fr]
  show decide (s.at_ < bs.length) = false
  exact decide_eq_false (by simp at hl; omega)
end
end Go.Proofs.YtpfdnggacpehdaaGreatDoor

/- Layer 7 in plain words (no program here): a field, whether it is right, its bytes, and what a cursor reads. -/
namespace Go.Proofs.YtpfdnggacpehdaaGreatDoor
open Go.Lib (uvarint)
set_option linter.unusedVariables false

structure Rw where
  num : Int
  wire : Int
  n : Nat
  s : List UInt8
theorem Rw.ext' {a b : Rw} (h1 : a.num = b.num) (h2 : a.wire = b.wire) (h3 : a.n = b.n) (h4 : a.s = b.s) : a = b := by
  cases a; cases b; simp_all
def rwEq (a b : Rw) : Bool := (decide (a.num = b.num) && decide (a.wire = b.wire)) && (decide (a.n = b.n) && decide (a.s = b.s))
theorem rwEq_iff (a b : Rw) : rwEq a b = true ↔ a = b := by
  refine ⟨fun h => ?_, fun h => by subst h; simp [rwEq]⟩
  simp [rwEq] at h
  exact Rw.ext' h.1.1 h.1.2 h.2.1 h.2.2
def sameR : List Rw → List Rw → Bool
  | [], [] => true
  | a :: l, b :: m => rwEq a b && sameR l m
  | _, _ => false
theorem sameR_iff : ∀ l m : List Rw, sameR l m = true ↔ l = m
  | [], [] => by simp [sameR]
  | [], b :: m => by simp [sameR]
  | a :: l, [] => by simp [sameR]
  | a :: l, b :: m => by simp [sameR, rwEq_iff, sameR_iff l m]
theorem sameR_self (l : List Rw) : sameR l l = true := (sameR_iff l l).mpr rfl
theorem sameR_length {l m : List Rw} (h : l.length ≠ m.length) : sameR l m = false := by
  cases hs : sameR l m with
  | false => rfl
  | true => exact absurd (congrArg List.length ((sameR_iff l m).mp hs)) h
theorem sameR_off {l m : List Rw} {k : Nat} {a b : Rw} (ha : l[k]? = some a) (hb : m[k]? = some b) (h : rwEq a b = false) : sameR l m = false := by
  cases hs : sameR l m with
  | false => rfl
  | true =>
    have e := (sameR_iff l m).mp hs
    subst e
    rw [ha] at hb
    cases hb
    rw [(rwEq_iff a a).mpr rfl] at h
    cases h
theorem sameR_all {l m : List Rw} (hl : l.length = m.length) (h : ∀ (k : Nat) a b, l[k]? = some a → m[k]? = some b → rwEq a b = true) : sameR l m = true := by
  rw [sameR_iff]
  apply List.ext_getElem?
  intro k
  by_cases hk : k < l.length
  · have ha := List.getElem?_eq_getElem hk
    have hb := List.getElem?_eq_getElem (l := m) (i := k) (by omega)
    rw [ha, hb, (rwEq_iff _ _).mp (h k _ _ ha hb)]
  · rw [List.getElem?_eq_none (by omega), List.getElem?_eq_none (by omega)]

/-- Is a field right? -/
def okR (x : Rw) : Bool := rightB x.num x.wire && (if x.wire = 2 then decide (x.n = 0) else decide (x.s = []) && (decide (x.wire ≠ 5) || decide (x.n < 4294967296)))
/-- A field's value's bytes, and a field's. -/
def valR (x : Rw) : List UInt8 := if x.wire = 0 then uvarint x.n else if x.wire = 1 then le 8 x.n else if x.wire = 5 then le 4 x.n else uvarint x.s.length ++ x.s
def bytesR (x : Rw) : List UInt8 := uvarint (tagN x.num x.wire) ++ valR x
def putR : List Rw → List UInt8
  | [] => []
  | x :: r => bytesR x ++ putR r
theorem putR_append : ∀ a b, putR (a ++ b) = putR a ++ putR b
  | [], b => rfl
  | x :: a, b => by rw [List.cons_append, putR, putR_append a b, putR, List.append_assoc]
/-- One field, read by a cursor. -/
def oneS (bs : List UInt8) (s : St) : Rw × St :=
  if (s.rd tTag (0, 0) bs).1.2 = 0 then (⟨(s.rd tTag (0, 0) bs).1.1, 0, ((s.rd tTag (0, 0) bs).2.rd tVar 0 bs).1, []⟩, ((s.rd tTag (0, 0) bs).2.rd tVar 0 bs).2)
  else if (s.rd tTag (0, 0) bs).1.2 = 1 then (⟨(s.rd tTag (0, 0) bs).1.1, 1, ((s.rd tTag (0, 0) bs).2.rd (tFix 8) 0 bs).1, []⟩, ((s.rd tTag (0, 0) bs).2.rd (tFix 8) 0 bs).2)
  else if (s.rd tTag (0, 0) bs).1.2 = 5 then (⟨(s.rd tTag (0, 0) bs).1.1, 5, ((s.rd tTag (0, 0) bs).2.rd (tFix 4) 0 bs).1, []⟩, ((s.rd tTag (0, 0) bs).2.rd (tFix 4) 0 bs).2)
  else (⟨(s.rd tTag (0, 0) bs).1.1, (s.rd tTag (0, 0) bs).1.2, 0, ((s.rd tTag (0, 0) bs).2.rd tText [] bs).1⟩, ((s.rd tTag (0, 0) bs).2.rd tText [] bs).2)
end Go.Proofs.YtpfdnggacpehdaaGreatDoor

/- All fields of bytes, in plain words (no program here). -/
namespace Go.Proofs.YtpfdnggacpehdaaGreatDoor
open Go.Lib (uvarint)
set_option linter.unusedVariables false

theorem rd_none {α : Type} (take : List UInt8 → α × Nat) (z : α) (bs : List UInt8) {s : St} (h : s.fr = []) : (s.rd take z bs).2 = s := by
  unfold St.rd; rw [h]
theorem rd_on {α : Type} (take : List UInt8 → α × Nat) (z : α) (bs : List UInt8) (s : St) : (s.rd take z bs).2.fr = [] ∨ ((s.rd take z bs).2.fr = s.fr ∧ s.at_ < (s.rd take z bs).2.at_) := by
  unfold St.rd
  split
  · exact .inl (by assumption)
  · rename_i l r hfr
    split
    · exact .inl rfl
    · exact .inr ⟨rfl, by show s.at_ < s.at_ + _; omega⟩
theorem rd_two {α β : Type} (t1 : List UInt8 → α × Nat) (z1 : α) (t2 : List UInt8 → β × Nat) (z2 : β) (bs : List UInt8) (s : St) : ((s.rd t1 z1 bs).2.rd t2 z2 bs).2.fr = [] ∨ (((s.rd t1 z1 bs).2.rd t2 z2 bs).2.fr = s.fr ∧ s.at_ < ((s.rd t1 z1 bs).2.rd t2 z2 bs).2.at_) := by
  rcases rd_on t1 z1 bs s with h1 | ⟨h1, h2⟩
  · exact .inl (by rw [rd_none t2 z2 bs h1]; exact h1)
  · rcases rd_on t2 z2 bs (s.rd t1 z1 bs).2 with h3 | ⟨h3, h4⟩
    · exact .inl h3
    · exact .inr ⟨h3.trans h1, Nat.lt_trans h2 h4⟩
theorem one_on (bs : List UInt8) (s : St) : (oneS bs s).2.fr = [] ∨ ((oneS bs s).2.fr = s.fr ∧ s.at_ < (oneS bs s).2.at_) := by
  unfold oneS
  split
  · exact rd_two ..
  · split
    · exact rd_two ..
    · split
      · exact rd_two ..
      · exact rd_two ..
theorem right_one {bs : List UInt8} {s : St} (h : Right bs s) : Right bs (oneS bs s).2 := by
  unfold oneS
  have h1 := right_rd (z := ((0, 0) : Nat × Nat)) h tTag_le
  split
  · exact right_rd h1 tVar_le
  · split
    · exact right_rd h1 (tFix_le 8)
    · split
      · exact right_rd h1 (tFix_le 4)
      · exact right_rd h1 tText_le

/-- The fields up to the first that is none, where each begins, and whether they are all. -/
def getsR (bs : List UInt8) : Nat → St → List (Rw × Nat) × Bool
  | 0, _ => ([], true)
  | f + 1, s => if s.more = true then (if (oneS bs s).2.fr = [] then ([], false) else (((oneS bs s).1, s.at_) :: (getsR bs f (oneS bs s).2).1, (getsR bs f (oneS bs s).2).2)) else ([], true)
def getR (bs : List UInt8) : List (Rw × Nat) × Bool := getsR bs (bs.length + 1) ⟨0, [bs.length]⟩
/-- So much is read, and this is left. -/
structure Half (bs : List UInt8) (s : St) (acc : List (Rw × Nat)) : Prop where
  right : Right bs s
  fr : s.fr = [bs.length]
  all : getR bs = (acc ++ (getsR bs (bs.length + 1 - acc.length) s).1, (getsR bs (bs.length + 1 - acc.length) s).2)
  le : acc.length ≤ s.at_
theorem half_start (bs : List UInt8) : Half bs ⟨0, [bs.length]⟩ [] := ⟨right_start bs, rfl, rfl, Nat.le_refl _⟩
section
variable {bs : List UInt8} {s : St} {acc : List (Rw × Nat)}
theorem Half.len (h : Half bs s acc) : acc.length ≤ bs.length := by
  have h1 := h.right
  unfold Right at h1
  rw [h.fr] at h1
  have := h.le
  omega
theorem Half.fuel (h : Half bs s acc) : bs.length + 1 - acc.length = (bs.length - acc.length) + 1 := by have := h.len; omega
theorem Half.done (h : Half bs s acc) (hm : s.more = false) : getR bs = (acc, true) := by
  have := h.all
  rw [h.fuel, getsR, if_neg (by rw [hm]; exact Bool.false_ne_true), List.append_nil] at this
  exact this
theorem Half.fail (h : Half bs s acc) (hm : s.more = true) (hf : (oneS bs s).2.fr = []) : getR bs = (acc, false) := by
  have := h.all
  rw [h.fuel, getsR, if_pos hm, if_pos hf, List.append_nil] at this
  exact this
theorem Half.step (h : Half bs s acc) (hm : s.more = true) (hf : (oneS bs s).2.fr ≠ []) : Half bs (oneS bs s).2 (acc ++ [((oneS bs s).1, s.at_)]) := by
  have ha := h.all
  rw [h.fuel, getsR, if_pos hm, if_neg hf] at ha
  have ho := one_on bs s
  have hle := h.le
  have hl := h.len
  refine ⟨right_one h.right, ?_, ?_, ?_⟩
  · rcases ho with h1 | h1
    · exact absurd h1 hf
    · exact h1.1.trans h.fr
  · rw [List.length_append, show bs.length + 1 - (acc.length + [((oneS bs s).1, s.at_)].length) = bs.length - acc.length by simp, List.append_assoc]
    exact ha
  · rcases ho with h1 | h1
    · exact absurd h1 hf
    · rw [List.length_append]; simp; omega
end
end Go.Proofs.YtpfdnggacpehdaaGreatDoor

/- What is put is got, and what is got has no more bytes when it is put, in plain words (no program here). -/
namespace Go.Proofs.YtpfdnggacpehdaaGreatDoor
open Go.Lib (uvarint)
set_option linter.unusedVariables false

section
variable {bs rest : List UInt8} {i : Nat} {s : St}
theorem Ahead.tagw {num wire : Int} {r : List UInt8} (h : Ahead bs i (uvarint (tagN num wire) ++ r) s) (hr : rightB num wire = true) : ((s.rd tTag (0, 0) bs).1.1 : Int) = num ∧ ((s.rd tTag (0, 0) bs).1.2 : Int) = wire ∧ Ahead bs i r (s.rd tTag (0, 0) bs).2 := by
  obtain ⟨h1, h2, h3⟩ := split_tag num wire hr
  have hg := get_put (tagN num wire) (by have := tagN_lt num wire; omega) r
  have ht : tTag (uvarint (tagN num wire) ++ r) = ((splitN (tagN num wire), splitW (tagN num wire)), (uvarint (tagN num wire)).length) := by
    unfold tTag
    rw [hg]
    dsimp only
    rw [if_pos h1]
  have hp := uvarint_pos' (tagN num wire)
  obtain ⟨q1, q2⟩ := h.rd (z := (0, 0)) ht (by omega)
  rw [q1]
  exact ⟨h2, h3, q2⟩
theorem Ahead.varint {n : Nat} {r : List UInt8} (h : Ahead bs i (uvarint n ++ r) s) (hn : n < 18446744073709551616) : (s.rd tVar 0 bs).1 = n ∧ Ahead bs i r (s.rd tVar 0 bs).2 := by
  have hp := uvarint_pos' n
  exact h.rd (z := 0) (get_put n hn r) (by omega)
theorem Ahead.fixed {k n : Nat} {r : List UInt8} (h : Ahead bs i (le k n ++ r) s) (hk : 0 < k) (hn : n < 256 ^ k) : (s.rd (tFix k) 0 bs).1 = n ∧ Ahead bs i r (s.rd (tFix k) 0 bs).2 := by
  have ht : tFix k (le k n ++ r) = (n, (le k n).length) := by
    unfold tFix
    rw [getN_put, isN_put, if_pos rfl, Nat.mod_eq_of_lt hn, le_length]
  exact h.rd (z := 0) ht (by rw [le_length]; omega)
theorem pow4 : (256 : Nat) ^ 4 = 4294967296 := by decide
theorem pow8 : (256 : Nat) ^ 8 = 18446744073709551616 := by decide
/-- A right field is read as it is. -/
theorem Ahead.one {x : Rw} {r : List UInt8} (h : Ahead bs i (bytesR x ++ r) s) (ho : okR x = true) (hn : x.n < 18446744073709551616) (hs : x.s.length < 18446744073709551616) : (oneS bs s).1 = x ∧ Ahead bs i r (oneS bs s).2 := by
  obtain ⟨num, wire, n, t⟩ := x
  have hr : rightB num wire = true := (Bool.and_eq_true_iff.mp ho).1
  rw [bytesR, List.append_assoc] at h
  obtain ⟨a1, a2, a3⟩ := h.tagw hr
  dsimp only at a1 a2 a3 hn hs
  obtain ⟨_, hw⟩ := (rightB_iff _ _).mp hr
  unfold okR at ho
  unfold oneS
  unfold valR at a3
  dsimp only at ho a3
  rcases hw with rfl | rfl | rfl | rfl
  · rw [if_pos rfl] at a3
    obtain ⟨b1, b2⟩ := a3.varint hn
    have e : (s.rd tTag (0, 0) bs).1.2 = 0 := by omega
    rw [if_pos e]
    have ht : t = [] := by simp at ho; exact ho.2
    exact ⟨Rw.ext' a1 rfl b1 ht.symm, b2⟩
  · rw [if_neg (by decide), if_pos rfl] at a3
    obtain ⟨b1, b2⟩ := a3.fixed (by decide) (by rw [pow8]; exact hn)
    have e : (s.rd tTag (0, 0) bs).1.2 = 1 := by omega
    rw [if_neg (by omega), if_pos e]
    have ht : t = [] := by simp at ho; exact ho.2
    exact ⟨Rw.ext' a1 rfl b1 ht.symm, b2⟩
  · rw [if_neg (by decide), if_neg (by decide), if_neg (by decide), List.append_assoc] at a3
    obtain ⟨b1, b2⟩ := a3.text hs
    rw [if_neg (by omega), if_neg (by omega), if_neg (by omega)]
    have ht : n = 0 := by simp at ho; exact ho.2
    exact ⟨Rw.ext' a1 a2 ht.symm b1, b2⟩
  · rw [if_neg (by decide), if_neg (by decide), if_pos rfl] at a3
    have hb : t = [] ∧ n < 4294967296 := by
      generalize hd : decide (n < 4294967296) = d at ho
      simp at ho
      exact ⟨ho.2.1, of_decide_eq_true (by rw [hd]; exact ho.2.2)⟩
    obtain ⟨b1, b2⟩ := a3.fixed (by decide) (by rw [pow4]; exact hb.2)
    have e : (s.rd tTag (0, 0) bs).1.2 = 5 := by omega
    rw [if_neg (by omega), if_neg (by omega), if_pos e]
    exact ⟨Rw.ext' a1 rfl b1 hb.1.symm, b2⟩
end
/-! What is got. -/
theorem rd_size {α : Type} {take : List UInt8 → α × Nat} {z : α} {bs : List UInt8} {s : St} {l : Nat} {r : List Nat} (hf : s.fr = l :: r) (h : (s.rd take z bs).2.fr ≠ []) :
    (take (segOf bs s.at_ l)).2 ≠ 0 ∧ (s.rd take z bs).1 = (take (segOf bs s.at_ l)).1 ∧ (s.rd take z bs).2 = ⟨s.at_ + (take (segOf bs s.at_ l)).2, s.fr⟩ := by
  unfold St.rd at h ⊢
  rw [hf] at h ⊢
  dsimp only at h ⊢
  split
  · rename_i h0
    rw [if_pos h0] at h
    exact absurd rfl h
  · rename_i h0
    exact ⟨h0, rfl, rfl⟩
/-- One field that is there: it is right, and has no more bytes. -/
theorem one_right {bs : List UInt8} {s : St} (hR : Right bs s) {l : Nat} {r : List Nat} (hf : s.fr = l :: r) (h : (oneS bs s).2.fr ≠ []) :
    okR (oneS bs s).1 = true ∧ (oneS bs s).1.n < 18446744073709551616 ∧ (oneS bs s).1.s.length ≤ bs.length ∧ s.at_ + (bytesR (oneS bs s).1).length ≤ (oneS bs s).2.at_ := by
  have h1 : (s.rd tTag (0, 0) bs).2.fr ≠ [] := by
    intro e
    apply h
    unfold oneS
    rw [rd_none tVar 0 bs e, rd_none (tFix 8) 0 bs e, rd_none (tFix 4) 0 bs e, rd_none tText [] bs e]
    split
    · exact e
    · split
      · exact e
      · split <;> exact e
  obtain ⟨c1, c2, c3⟩ := rd_size (z := ((0, 0) : Nat × Nat)) hf h1
  have hRl := hR
  unfold Right at hRl
  rw [hf] at hRl
  obtain ⟨u, hu⟩ : ∃ u, u = (getFrom 0 0 (segOf bs s.at_ l)).1 := ⟨_, rfl⟩
  have hok : splitOk u = true := by
    cases ho : splitOk u with
    | true => rfl
    | false => exact absurd (by unfold tTag; dsimp only; rw [← hu, ho]; rfl) c1
  have ht2 : (tTag (segOf bs s.at_ l)).2 = (getFrom 0 0 (segOf bs s.at_ l)).2 := by unfold tTag; dsimp only; rw [← hu, hok, if_pos rfl]
  have hsz := getFrom_size (segOf bs s.at_ l) (by rw [← ht2]; exact c1)
  have htN : (s.rd tTag (0, 0) bs).1 = (splitN u, splitW u) := by rw [c2]; unfold tTag; dsimp only; rw [← hu]
  have hrb := right_split u
  rw [hok] at hrb
  have htg := tag_split u hok
  rw [← hu] at hsz
  have hs1 : (s.rd tTag (0, 0) bs).2 = ⟨s.at_ + (tTag (segOf bs s.at_ l)).2, l :: r⟩ := by rw [c3, hf]
  obtain ⟨s1, hs1e⟩ : ∃ s1, s1 = (s.rd tTag (0, 0) bs).2 := ⟨_, rfl⟩
  have hf1 : s1.fr = l :: r := by rw [hs1e, hs1]
  have hat1 : s1.at_ = s.at_ + (tTag (segOf bs s.at_ l)).2 := by rw [hs1e, hs1]
  have hR1 : Right bs s1 := by rw [hs1e]; exact right_rd hR tTag_le
  have hR1l := hR1
  unfold Right at hR1l
  rw [hf1] at hR1l
  have hseg := segOf_length (i := s1.at_) hR1l.2.1
  unfold oneS at h ⊢
  rw [htN, ← hs1e] at h ⊢
  dsimp only at h ⊢
  obtain ⟨_, hw⟩ := (rightB_iff _ _).mp hrb
  split
  · rename_i e0
    rw [if_pos e0] at h
    dsimp only at h ⊢
    obtain ⟨d1, d2, d3⟩ := rd_size (z := 0) hf1 h
    have hv := getFrom_size _ d1
    rw [e0] at hrb htg
    have q1 : (tVar (segOf bs s1.at_ l)).1 < 18446744073709551616 := tVar_lt _
    rw [d2, d3]
    refine ⟨by simp [okR]; exact hrb, q1, by simp, ?_⟩
    have : (bytesR ⟨(splitN u : Int), 0, (tVar (segOf bs s1.at_ l)).1, []⟩).length = (uvarint u).length + (uvarint (tVar (segOf bs s1.at_ l)).1).length := by
      rw [bytesR, List.length_append]; unfold valR; dsimp only; rw [if_pos rfl]
      have : tagN (splitN u) 0 = u := htg
      rw [this]
    rw [this]
    dsimp only
    have hv' : (uvarint (tVar (segOf bs s1.at_ l)).1).length ≤ (tVar (segOf bs s1.at_ l)).2 := hv
    omega
  · rename_i e0
    rw [if_neg e0] at h
    split
    · rename_i e1
      rw [if_pos e1] at h
      dsimp only at h ⊢
      obtain ⟨d1, d2, d3⟩ := rd_size (z := 0) hf1 h
      rw [e1] at hrb htg
      have hx2 : (tFix 8 (segOf bs s1.at_ l)).2 = 8 := by
        revert d1; unfold tFix; dsimp only; split <;> simp
      have q1 : (tFix 8 (segOf bs s1.at_ l)).1 < 18446744073709551616 := by have := getN_lt 8 (segOf bs s1.at_ l); rw [pow8] at this; exact this
      rw [d2, d3]
      refine ⟨by simp [okR]; exact hrb, q1, by simp, ?_⟩
      have : (bytesR ⟨(splitN u : Int), 1, (tFix 8 (segOf bs s1.at_ l)).1, []⟩).length = (uvarint u).length + 8 := by
        rw [bytesR, List.length_append]; unfold valR; dsimp only; rw [if_neg (by decide), if_pos rfl, le_length]
        have : tagN (splitN u) 1 = u := htg
        rw [this]
      rw [this]
      dsimp only
      omega
    · rename_i e1
      rw [if_neg e1] at h
      split
      · rename_i e5
        rw [if_pos e5] at h
        dsimp only at h ⊢
        obtain ⟨d1, d2, d3⟩ := rd_size (z := 0) hf1 h
        rw [e5] at hrb htg
        have hx2 : (tFix 4 (segOf bs s1.at_ l)).2 = 4 := by
          revert d1; unfold tFix; dsimp only; split <;> simp
        have q1 : (tFix 4 (segOf bs s1.at_ l)).1 < 4294967296 := by have := getN_lt 4 (segOf bs s1.at_ l); rw [pow4] at this; exact this
        rw [d2, d3]
        obtain ⟨m, hm⟩ : ∃ m, m = (tFix 4 (segOf bs s1.at_ l)).1 := ⟨_, rfl⟩
        rw [← hm] at q1 ⊢
        have q2 : decide (m < 4294967296) = true := decide_eq_true q1
        refine ⟨by unfold okR; dsimp only; rw [q2]; simp; exact hrb, by omega, by simp, ?_⟩
        have : (bytesR ⟨(splitN u : Int), 5, m, []⟩).length = (uvarint u).length + 4 := by
          rw [bytesR, List.length_append]; unfold valR; dsimp only; rw [if_neg (by decide), if_neg (by decide), if_pos rfl, le_length]
          have : tagN (splitN u) 5 = u := htg
          rw [this]
        rw [this]
        dsimp only
        omega
      · rename_i e5
        rw [if_neg e5] at h
        dsimp only at h ⊢
        obtain ⟨d1, d2, d3⟩ := rd_size (z := []) hf1 h
        have e2 : splitW u = 2 := by omega
        rw [e2] at hrb htg ⊢
        obtain ⟨seg, hsg⟩ : ∃ seg, seg = segOf bs s1.at_ l := ⟨_, rfl⟩
        rw [← hsg] at d1 d2 d3 hseg
        have hsum := tLen_sum seg
        have hk : (tLen seg).2 ≠ 0 := by
          intro e
          apply d1
          show (tLen seg).2 + (tLen seg).1 = 0
          rw [e, tLen_zero seg e]
        have hgf : tLen seg = getFrom 0 0 seg := by
          unfold tLen at hk ⊢
          split
          · rename_i hc; rw [if_pos hc] at hk; exact absurd rfl hk
          · rfl
        have hgs := getFrom_size seg (by rw [← hgf]; exact hk)
        rw [← hgf] at hgs
        have htl : (tText seg).1.length = (tLen seg).1 := by
          show ((seg.drop (tLen seg).2).take (tLen seg).1).length = _
          rw [List.length_take, List.length_drop]; omega
        have ht2' : (tText seg).2 = (tLen seg).2 + (tLen seg).1 := rfl
        rw [d2, d3]
        refine ⟨by simp [okR]; exact hrb, by decide, by show (tText seg).1.length ≤ _; omega, ?_⟩
        have : (bytesR ⟨(splitN u : Int), ((2 : Nat) : Int), 0, (tText seg).1⟩).length = (uvarint u).length + ((uvarint (tLen seg).1).length + (tLen seg).1) := by
          rw [bytesR, List.length_append]; unfold valR; dsimp only; rw [if_neg (by decide), if_neg (by decide), if_neg (by decide), List.length_append, htl]
          have : tagN (splitN u) ((2 : Nat) : Int) = u := htg
          rw [this]
        rw [this]
        dsimp only
        omega
theorem gets_right {bs : List UInt8} : ∀ (f : Nat) (s : St), Right bs s → s.fr = [bs.length] → (getsR bs f s).2 = true → bs.length < f + s.at_ →
    (∀ x ∈ (getsR bs f s).1.map Prod.fst, okR x = true ∧ x.n < 18446744073709551616 ∧ x.s.length ≤ bs.length) ∧ s.at_ + (putR ((getsR bs f s).1.map Prod.fst)).length ≤ bs.length
  | 0, s, hR, hf, _, hlt => by
    unfold Right at hR
    rw [hf] at hR
    omega
  | f + 1, s, hR, hf, hok, hlt => by
    have hRl := hR
    unfold Right at hRl
    rw [hf] at hRl
    rw [getsR] at hok ⊢
    split
    · rename_i hm
      rw [if_pos hm] at hok
      split
      · rename_i hb
        rw [if_pos hb] at hok
        cases hok
      · rename_i hb
        rw [if_neg hb] at hok
        dsimp only at hok ⊢
        obtain ⟨a1, a2, a3, a4⟩ := one_right hR hf hb
        have ho := one_on bs s
        rcases ho with h1 | ⟨h1, h2⟩
        · exact absurd h1 hb
        obtain ⟨b1, b2⟩ := gets_right f (oneS bs s).2 (right_one hR) (h1.trans hf) hok (by omega)
        refine ⟨fun x hx => ?_, ?_⟩
        · rw [List.map_cons, List.mem_cons] at hx
          rcases hx with rfl | hx
          · exact ⟨a1, a2, a3⟩
          · exact b1 x hx
        · rw [List.map_cons, putR, List.length_append]
          dsimp only
          omega
    · exact ⟨by simp, by simp [putR]; omega⟩
/-- What is got is right, and has no more bytes when it is put. -/
theorem get_right {bs : List UInt8} (h : (getR bs).2 = true) : (∀ x ∈ (getR bs).1.map Prod.fst, okR x = true ∧ x.n < 18446744073709551616 ∧ x.s.length ≤ bs.length) ∧ (putR ((getR bs).1.map Prod.fst)).length ≤ bs.length := by
  obtain ⟨h1, h2⟩ := gets_right (bs.length + 1) ⟨0, [bs.length]⟩ (right_start bs) rfl h (by show bs.length < bs.length + 1 + 0; omega)
  exact ⟨h1, by rw [Nat.zero_add] at h2; exact h2⟩
end Go.Proofs.YtpfdnggacpehdaaGreatDoor

/- Trees, plain (no program here): how deep, how much, what is left of so much; what a walk through all of them makes. Conditions: those that each theorem names. -/
namespace Go.Proofs.YtpfdnggacpehdaaGreatDoor
set_option linter.unusedVariables false

structure VaF (τ : Type) where
  vn : Nat
  vs : List UInt8
  vm : List τ
structure SlF (τ : Type) where
  snum : Int
  svals : List (VaF τ)
inductive Tr where
  | mk (slots : List (SlF Tr)) (rest : List Rw)
abbrev Va := VaF Tr
abbrev Slt := SlF Tr
def Tr.slots : Tr → List Slt
  | .mk a _ => a
def Tr.rest : Tr → List Rw
  | .mk _ b => b
theorem tr_ext {a b : Tr} (h1 : a.slots = b.slots) (h2 : a.rest = b.rest) : a = b := by
  cases a; cases b; cases h1; cases h2; rfl
instance : Inhabited Tr := ⟨.mk [] []⟩
instance : Inhabited Va := ⟨⟨0, [], []⟩⟩
instance : Inhabited Slt := ⟨⟨0, []⟩⟩

/-- The greatest of what f says. -/
def supB {α : Type} (f : α → Nat) : List α → Nat
  | [] => 0
  | x :: l => max (f x) (supB f l)
def sumB {α : Type} (f : α → Nat) : List α → Nat
  | [] => 0
  | x :: l => f x + sumB f l
section
variable {α β : Type} (f : α → Nat)
theorem take_snoc' {l : List α} {i : Nat} {x : α} (h : l[i]? = some x) : l.take (i + 1) = l.take i ++ [x] := by
  rw [List.take_add_one, h]; rfl
theorem sumB_mem : ∀ {l : List α} {x : α}, x ∈ l → f x ≤ sumB f l
  | y :: l, x, h => by
    rw [sumB]
    rcases List.mem_cons.mp h with rfl | h
    · omega
    · have := sumB_mem h; omega
end

/-- How deep, down to a level. -/
def deepN : Nat → Tr → Nat
  | 0, _ => 0
  | k + 1, t => supB (fun s : Slt => supB (fun v : Va => supB (deepN k) v.vm) s.svals) t.slots + 1
end Go.Proofs.YtpfdnggacpehdaaGreatDoor
