/- Several texts in one: VarMath, CurMath, TxtMath, EmRdM, RawMath, RawGet, RawBack, TrMath, VdFit. What each proves, and its conditions, stands at its own head. -/
import Derived.Lib.Varint
import Derived.Test.YtloheacncefkgaaGreatDoorPkEU0
import Derived.Lib.BitFns
import Derived.Laws.BitsLemmas
import Derived.Lib.EndianBits
import Derived.Test.YtloheacncefkgaaGreatDoorPkEU1
/- Plain arithmetic of numbers as bytes of seven bits each (no program here): how many bytes a number has, what is read of bytes, and that what is written is read. Conditions: none but those that each theorem names. -/
namespace Go.Proofs.YtloheacncefkgaaGreatDoor
open Go.Lib

/-! ### How many bytes -/
theorem uvarint_size : ∀ (f n : Nat), n < 2 ^ f → f ≤ 64 → (uvarint n).length = (Lib.bitLen (n / 2) + 7) / 7
 | 0, n, h, _ => by
   have : n = 0 := by simpa using h
   subst this; rw [uvarint_small (by decide)]; rfl
 | f + 1, n, h, hf => by
   by_cases hn : n < 128
   ·rw [uvarint_small hn]
    have := Lib.bitLen_le (n / 2) 6 (by decide) (by omega)
    simp; omega
   ·rw [uvarint_big (by omega), List.length_cons]
    have hp : (2 : Nat) ^ (f + 1) = 2 ^ f * 2 := Nat.pow_succ ..
    have h64 : (2 : Nat) ^ (f + 1) ≤ 2 ^ 64 := Nat.pow_le_pow_right (by decide) hf
    have ih := uvarint_size f (n / 128) (by omega) (by omega)
    have hs := Lib.bitLen_shift 6 (n / 2) (by omega) (by omega)
    have e : n / 2 / 2 ^ 6 = n / 128 := by omega
    have hh := Lib.bitLen_half (n / 128) (by omega) (by omega)
    rw [e] at hs
    rw [ih, hs, hh]
    omega

theorem uvm_odd (n : Nat) (h : n < 2 ^ 64) : Lib.bitLen (n / 2 * 2 + 1) = 1 + Lib.bitLen (n / 2) := by
 rw [Lib.bitLen_half _ (by omega) (by omega)]
 congr 2; omega

theorem uvarint_len (n : Nat) (h : n < 2 ^ 64) : (Lib.bitLen (n / 2 * 2 + 1) + 7 - 1) / 7 = (uvarint n).length := by
 rw [uvarint_size 64 n h (by decide), uvm_odd n h]
 congr 1; omega

/-- 'n | 1'. -/
theorem or_one (n : Nat) (h : n < 2 ^ 64) : bits .or .u64 (n : Int) 1 = ((n / 2 * 2 + 1 : Nat) : Int) := by
 have h2 := (bits_nat .u64 64 (by decide) wraps_u64 n 1 h (by decide)).2
 have e : ((1 : Nat) : Int) = 1 := rfl
 rw [e] at h2
 rw [h2]
 have h3 : n ||| 1 = n / 2 * 2 + 1 := by
  have hd := Nat.div_add_mod n 2
  rcases Nat.mod_two_eq_zero_or_one n with hm | hm
  ·have : n = 2 ^ 1 * (n / 2) := by omega
   rw [this, ← Nat.two_pow_add_eq_or_of_lt (i := 1) (by decide) (n / 2)]
   omega
  ·have hn : n = 2 ^ 1 * (n / 2) + 1 := by omega
   have : n ||| 1 = (2 ^ 1 * (n / 2) ||| 1) ||| 1 := by
    rw [← Nat.two_pow_add_eq_or_of_lt (i := 1) (by decide) (n / 2), ← hn]
   rw [this, Nat.or_assoc, Nat.or_self, ← Nat.two_pow_add_eq_or_of_lt (i := 1) (by decide) (n / 2)]
   omega
 rw [h3]

/-! ### What is read -/
/-- What stands at the beginning of l, where i bytes have been read that gave acc: the number and how many bytes; (0, 0): none. -/
def getFrom (i acc : Nat) : List UInt8 → Nat × Nat
 | [] => (0, 0)
 | c :: cs =>
   if 10 ≤ i ∨ (i = 9 ∧ 2 ≤ c.toNat) then (0, 0)
   else if c.toNat < 128 then (acc + c.toNat % 128 * 128 ^ i, i + 1)
   else getFrom (i + 1) (acc + c.toNat % 128 * 128 ^ i) cs

theorem getFrom_last (i acc : Nat) (c : UInt8) (cs : List UInt8) (hi : i < 10) (h9 : i = 9 → c.toNat < 2) (h : c.toNat < 128) : getFrom i acc (c :: cs) = (acc + c.toNat % 128 * 128 ^ i, i + 1) := by
 unfold getFrom
 rw [if_neg (fun h' => h'.elim (fun h1 => by omega) (fun h1 => by have := h9 h1.1; omega)), if_pos h]
theorem getFrom_more (i acc : Nat) (c : UInt8) (cs : List UInt8) (hi : i < 9) (h : 128 ≤ c.toNat) : getFrom i acc (c :: cs) = getFrom (i + 1) (acc + c.toNat % 128 * 128 ^ i) cs := by
 conv => lhs; unfold getFrom
 rw [if_neg (by omega), if_neg (by omega)]

theorem pow7 (i : Nat) : (128 : Nat) ^ (i + 1) = 128 * 128 ^ i := by rw [Nat.pow_succ, Nat.mul_comm]
theorem pow7_nine {i : Nat} (h : i ≤ 9) : (128 : Nat) ^ i ≤ 9223372036854775808 := by
 have := Nat.pow_le_pow_right (n := 128) (by decide) h
 exact Nat.le_trans this (by decide)

/-- What is gathered stays below the next group. -/
theorem acc_lt {i acc c : Nat} (h : acc < 128 ^ i) : acc + c % 128 * 128 ^ i < 128 ^ (i + 1) := by
 rw [pow7]
 have hc : c % 128 ≤ 127 := by omega
 have := Nat.mul_le_mul_right (128 ^ i) hc
 omega

theorem getFrom_lt : ∀ (l : List UInt8) (i acc : Nat), acc < 128 ^ i → (getFrom i acc l).2 ≠ 0 →
 (getFrom i acc l).1 < 128 ^ (getFrom i acc l).2 ∧ (getFrom i acc l).1 < 18446744073709551616 ∧ i < (getFrom i acc l).2 ∧ (getFrom i acc l).2 ≤ i + l.length
 | [], i, acc, _, h0 => by simp [getFrom] at h0
 | c :: cs, i, acc, h, h0 => by
   by_cases h1 : 10 ≤ i ∨ (i = 9 ∧ 2 ≤ c.toNat)
   ·simp [getFrom, h1] at h0
   ·have hi : i ≤ 9 := by omega
    have h9 : i = 9 → c.toNat < 2 := by intro e; omega
    by_cases h2 : c.toNat < 128
    ·rw [getFrom_last i acc c cs (by omega) h9 h2]
     refine ⟨acc_lt h, ?_, by simp, by simp⟩
     simp only
     by_cases e : i = 9
     ·subst e
      have := h9 rfl
      have e9 : (128 : Nat) ^ 9 = 9223372036854775808 := by decide
      rw [e9] at h ⊢
      have : c.toNat % 128 ≤ 1 := by omega
      omega
     ·have := acc_lt (c := c.toNat) h
      have h9' := pow7_nine (i := i + 1) (by omega)
      omega
    ·have hi9 : i < 9 := by
      rcases Nat.lt_or_ge i 9 with h' | h'
      ·exact h'
      ·have : i = 9 := by omega
       have := h9 this; omega
     rw [getFrom_more i acc c cs hi9 (by omega)] at h0 ⊢
     have ih := getFrom_lt cs (i + 1) _ (acc_lt (c := c.toNat) h) h0
     refine ⟨ih.1, ih.2.1, by have := ih.2.2.1; omega, by have := ih.2.2.2; simp; omega⟩

theorem getFrom_le (l : List UInt8) : (getFrom 0 0 l).2 ≤ l.length := by
 by_cases h : (getFrom 0 0 l).2 = 0
 ·omega
 ·have := (getFrom_lt l 0 0 (by decide) h).2.2.2; omega
theorem mul_split (n P : Nat) : n % 128 * P + n / 128 * (128 * P) = n * P := by
 have h : n = n % 128 + 128 * (n / 128) := (Nat.mod_add_div n 128).symm
 have e : n / 128 * (128 * P) = 128 * (n / 128) * P := by rw [← Nat.mul_assoc, Nat.mul_comm (n / 128) 128]
 rw [e, ← Nat.add_mul, ← h]

/-- What is put is got, whatever stands behind it. -/
theorem getFrom_put : ∀ (f n i acc : Nat) (rest : List UInt8), n < 2 ^ f → f + 7 * i ≤ 64 → getFrom i acc (uvarint n ++ rest) = (acc + n * 128 ^ i, i + (uvarint n).length)
 | f, n, i, acc, rest, h, hf => by
   by_cases hn : n < 128
   ·rw [uvarint_small hn, List.singleton_append]
    have hu : (n.toUInt8).toNat = n := u8_nat (by omega)
    rw [getFrom_last i acc _ rest (by omega) ?_ (by rw [hu]; exact hn)]
    ·rw [hu, Nat.mod_eq_of_lt hn]; rfl
    ·intro e
     rw [hu]
     have hf1 : f ≤ 1 := by omega
     have := Nat.pow_le_pow_right (n := 2) (by decide) hf1
     omega
   ·have hf7 : 8 ≤ f := by
     rcases Nat.lt_or_ge f 8 with h' | h'
     ·have := Nat.pow_le_pow_right (n := 2) (by decide) (show f ≤ 7 by omega)
      omega
     ·exact h'
    rw [uvarint_big (by omega), List.cons_append]
    have hu : ((n % 128 + 128).toUInt8).toNat = n % 128 + 128 := u8_nat (by omega)
    rw [getFrom_more i acc _ _ (by omega) (by rw [hu]; omega), hu]
    have hp : (2 : Nat) ^ f = 2 ^ (f - 7) * 128 := by rw [← Nat.pow_add (n := 7)]; congr 1; omega
    have hlt : n / 128 < 2 ^ (f - 7) := Nat.div_lt_of_lt_mul (by rw [Nat.mul_comm, ← hp]; exact h)
    rw [getFrom_put (f - 7) (n / 128) (i + 1) _ rest hlt (by omega), List.length_cons]
    have e1 : (n % 128 + 128) % 128 = n % 128 := by omega
    rw [e1, pow7, Nat.add_assoc, mul_split]
    congr 1; omega
termination_by _ n => n
decreasing_by omega

theorem get_put (n : Nat) (h : n < 18446744073709551616) (rest : List UInt8) : getFrom 0 0 (uvarint n ++ rest) = (n, (uvarint n).length) := by
 rw [getFrom_put 64 n 0 0 rest (by simpa using h) (by decide)]; simp

/-! ### One byte's part -/
/-! ### All numbers -/
end Go.Proofs.YtloheacncefkgaaGreatDoor

/- Layer 5 in plain words (no program here): a cursor's place and its frames (the innermost one first; none: it failed), and what each call reads. -/
namespace Go.Proofs.YtloheacncefkgaaGreatDoor
open Go.RowKit
open Go.Lib (uvarint)

structure St where
 at_ : Nat
 fr : List Nat
def St.none : St := ⟨0, []⟩

/-- The bytes from the place on, up to the innermost frame's end. -/
def segOf (bs : List UInt8) (i l : Nat) : List UInt8 := (bs.take l).drop i
theorem segOf_length {bs : List UInt8} {i l : Nat} (h : l ≤ bs.length) : (segOf bs i l).length = l - i := by
 simp [segOf]; omega

/-- How many bytes are read: 0: it fails. -/
def St.on (s : St) (k : Nat) : St := if k = 0 then St.none else ⟨s.at_ + k, s.fr⟩
def St.rd {α : Type} (take : List UInt8 → α × Nat) (z : α) (bs : List UInt8) (s : St) : α × St :=
 match s.fr with
 | [] => (z, s)
 | l :: _ => if (take (segOf bs s.at_ l)).2 = 0 then (z, St.none) else ((take (segOf bs s.at_ l)).1, ⟨s.at_ + (take (segOf bs s.at_ l)).2, s.fr⟩)

def tVar (b : List UInt8) : Nat × Nat := getFrom 0 0 b
def tFix (k : Nat) (b : List UInt8) : Nat × Nat := (getN k b, if isN k b = true then k else 0)
def tLen (b : List UInt8) : Nat × Nat := if b.length - (getFrom 0 0 b).2 < (getFrom 0 0 b).1 then (0, 0) else getFrom 0 0 b
def tText (b : List UInt8) : List UInt8 × Nat := ((b.drop (tLen b).2).take (tLen b).1, (tLen b).2 + (tLen b).1)
def tTag (b : List UInt8) : (Nat × Nat) × Nat := ((splitN (getFrom 0 0 b).1, splitW (getFrom 0 0 b).1), if splitOk (getFrom 0 0 b).1 = true then (getFrom 0 0 b).2 else 0)

theorem tVar_le (b : List UInt8) : (tVar b).2 ≤ b.length := getFrom_le b
theorem tFix_le (k : Nat) (b : List UInt8) : (tFix k b).2 ≤ b.length := by
 unfold tFix isN
 by_cases h : k ≤ b.length <;> simp [h]
theorem tLen_sum (b : List UInt8) : (tLen b).2 + (tLen b).1 ≤ b.length := by
 have h := getFrom_le b
 unfold tLen
 split
 ·simp
 ·omega
theorem tText_le (b : List UInt8) : (tText b).2 ≤ b.length := tLen_sum b
theorem tTag_le (b : List UInt8) : (tTag b).2 ≤ b.length := by
 have h := getFrom_le b
 unfold tTag
 dsimp only
 split <;> omega

/-- What a cursor that did not fail keeps to. -/
def Right (bs : List UInt8) (s : St) : Prop := match s.fr with
 | [] => s.at_ = 0
 | l :: r => s.at_ ≤ l ∧ l ≤ bs.length ∧ List.Pairwise (· ≤ ·) (l :: r) ∧ (∀ e ∈ r, e ≤ bs.length) ∧ r.length ≤ s.at_
theorem right_none (bs : List UInt8) : Right bs St.none := rfl
theorem right_rd {α : Type} {take : List UInt8 → α × Nat} {z : α} {bs : List UInt8} {s : St} (h : Right bs s) (ht : ∀ b, (take b).2 ≤ b.length) : Right bs (s.rd take z bs).2 := by
 obtain ⟨i, fr⟩ := s
 cases fr with
 | nil => exact h
 | cons l r =>
   obtain ⟨h1, h2, h3, h4, h5⟩ := h
   have := ht (segOf bs i l)
   rw [segOf_length h2] at this
   unfold St.rd
   dsimp only at *
   split
   ·exact right_none bs
   ·exact ⟨by dsimp only; omega, h2, h3, h4, by dsimp only; omega⟩

def St.opens (bs : List UInt8) (s : St) : St := match s.fr with
 | [] => s
 | l :: r => if (tLen (segOf bs s.at_ l)).2 = 0 then St.none else ⟨s.at_ + (tLen (segOf bs s.at_ l)).2, (s.at_ + (tLen (segOf bs s.at_ l)).2 + (tLen (segOf bs s.at_ l)).1) :: l :: r⟩
def St.oks (s : St) : Bool := !s.fr.isEmpty
def St.more (s : St) : Bool := match s.fr with
 | [] => false
 | l :: _ => decide (s.at_ < l)
end Go.Proofs.YtloheacncefkgaaGreatDoor

/- Texts one behind the other, each behind its length (no program here); what a cursor reads of them. -/
namespace Go.Proofs.YtloheacncefkgaaGreatDoor
open Go.RowKit
open Go.Lib (uvarint)

/-- A length and a text. -/
def putT (t : List UInt8) : List UInt8 := uvarint t.length ++ t
theorem tLen_put (n : Nat) (h : n < 18446744073709551616) (rest : List UInt8) (hr : n ≤ rest.length) : tLen (uvarint n ++ rest) = (n, (uvarint n).length) := by
 unfold tLen
 rw [get_put n h]
 dsimp only
 rw [if_neg (by rw [List.length_append]; omega)]
theorem tText_put (t rest : List UInt8) (h : t.length < 18446744073709551616) : tText (putT t ++ rest) = (t, (putT t).length) := by
 unfold tText
 rw [putT, List.append_assoc, tLen_put _ h _ (by simp)]
 dsimp only
 rw [List.drop_append_of_le_length (Nat.le_refl _), List.drop_length, List.nil_append, List.take_append_of_le_length (Nat.le_refl _), List.take_length, List.length_append]
theorem uvarint_pos' (n : Nat) : 0 < (uvarint n).length := Lib.uvarint_pos n

end Go.Proofs.YtloheacncefkgaaGreatDoor

/- Plain words (no program here): frames within one another, and what a cursor reads of them. -/
namespace Go.Proofs.YtloheacncefkgaaGreatDoor
open Go.Lib (uvarint)
set_option linter.unusedVariables false

/-- A field that is bytes. -/
def frB (num : Int) (b : List UInt8) : List UInt8 := uvarint (tagN num 2) ++ (uvarint b.length ++ b)
/-- A cursor that has so much ahead, in i + 1 frames that end where the bytes end. -/
structure Ahead (bs : List UInt8) (i : Nat) (rest : List UInt8) (s : St) : Prop where
 fr : s.fr = List.replicate (i + 1) bs.length
 drop : bs.drop s.at_ = rest
 len : s.at_ + rest.length = bs.length
section
variable {bs rest : List UInt8} {i : Nat} {s : St}
theorem Ahead.seg (h : Ahead bs i rest s) : segOf bs s.at_ bs.length = rest := by unfold segOf; rw [List.take_length]; exact h.drop
theorem Ahead.on {a r : List UInt8} (h : Ahead bs i (a ++ r) s) : Ahead bs i r ⟨s.at_ + a.length, s.fr⟩ := by
 refine ⟨h.fr, ?_, ?_⟩
 ·show bs.drop (s.at_ + a.length) = r
  rw [← List.drop_drop, h.drop, List.drop_left]
 ·have := h.len
  rw [List.length_append] at this
  show s.at_ + a.length + r.length = _
  omega
theorem Ahead.rd {α : Type} {take : List UInt8 → α × Nat} {z v : α} {a r : List UInt8} (h : Ahead bs i (a ++ r) s) (ht : take (a ++ r) = (v, a.length)) (ha : a.length ≠ 0) : (s.rd take z bs).1 = v ∧ Ahead bs i r (s.rd take z bs).2 := by
 have hs := h.seg
 have e : s.rd take z bs = (v, ⟨s.at_ + a.length, s.fr⟩) := by
  unfold St.rd
  rw [h.fr]
  show (if (take (segOf bs s.at_ bs.length)).2 = 0 then _ else _) = _
  rw [hs, ht]
  show (if a.length = 0 then _ else _) = _
  rw [if_neg ha, ← h.fr]
 rw [e]
 exact ⟨rfl, h.on⟩
theorem Ahead.tag {num : Int} {r : List UInt8} (h : Ahead bs i (uvarint (tagN num 2) ++ r) s) (hr : rightB num 2 = true) : ((s.rd tTag (0, 0) bs).1.1 : Int) = num ∧ ((s.rd tTag (0, 0) bs).1.2 : Int) = 2 ∧ Ahead bs i r (s.rd tTag (0, 0) bs).2 := by
 obtain ⟨h1, h2, h3⟩ := split_tag num 2 hr
 have hg := get_put (tagN num 2) (by have := tagN_lt num 2; omega) r
 have ht : tTag (uvarint (tagN num 2) ++ r) = ((splitN (tagN num 2), splitW (tagN num 2)), (uvarint (tagN num 2)).length) := by
  unfold tTag
  rw [hg]
  dsimp only
  rw [if_pos h1]
 have hp := uvarint_pos' (tagN num 2)
 obtain ⟨q1, q2⟩ := h.rd (z := (0, 0)) ht (by omega)
 rw [q1]
 exact ⟨h2, h3, q2⟩
theorem Ahead.text {t r : List UInt8} (h : Ahead bs i (uvarint t.length ++ (t ++ r)) s) (ht : t.length < 18446744073709551616) : (s.rd tText [] bs).1 = t ∧ Ahead bs i r (s.rd tText [] bs).2 := by
 rw [← List.append_assoc] at h
 have hp := uvarint_pos' t.length
 exact h.rd (z := []) (tText_put t r ht) (by rw [List.length_append]; omega)
theorem Ahead.opens {b : List UInt8} (h : Ahead bs i (uvarint b.length ++ b) s) (hb : b.length < 18446744073709551616) : (s.opens bs).oks = true ∧ Ahead bs (i + 1) b (s.opens bs) := by
 have hs := h.seg
 have ht := tLen_put b.length hb b (Nat.le_refl _)
 have hp := uvarint_pos' b.length
 have hl := h.len
 have hd := h.drop
 rw [List.length_append] at hl
 have e : s.opens bs = ⟨s.at_ + (uvarint b.length).length, List.replicate (i + 1 + 1) bs.length⟩ := by
  unfold St.opens
  rw [h.fr]
  show (if (tLen (segOf bs s.at_ bs.length)).2 = 0 then _ else _) = _
  rw [hs, ht]
  show (if (uvarint b.length).length = 0 then _ else _) = _
  rw [if_neg (by omega)]
  show St.mk _ ((s.at_ + (uvarint b.length).length + b.length) :: bs.length :: List.replicate i bs.length) = _
  rw [show s.at_ + (uvarint b.length).length + b.length = bs.length by omega]
  rfl
 rw [e]
 exact ⟨rfl, rfl, by show bs.drop (s.at_ + (uvarint b.length).length) = b; rw [← List.drop_drop, hd, List.drop_left], by show s.at_ + (uvarint b.length).length + b.length = _; omega⟩
theorem Ahead.none (h : Ahead bs i [] s) : s.more = false := by
 have hl := h.len
 unfold St.more
 rw [h.fr]
 show decide (s.at_ < bs.length) = false
 exact decide_eq_false (by simp at hl; omega)
end
end Go.Proofs.YtloheacncefkgaaGreatDoor

/- Layer 7 in plain words (no program here): a field, whether it is right, its bytes, and what a cursor reads. -/
namespace Go.Proofs.YtloheacncefkgaaGreatDoor
open Go.Lib (uvarint)
set_option linter.unusedVariables false

structure Rw where
 num : Int
 wire : Int
 n : Nat
 s : List UInt8
theorem Rw.ext' {a b : Rw} (h1 : a.num = b.num) (h2 : a.wire = b.wire) (h3 : a.n = b.n) (h4 : a.s = b.s) : a = b := by
 cases a; cases b; simp_all
/-- Is a field right? -/
def okR (x : Rw) : Bool := rightB x.num x.wire && (if x.wire = 2 then decide (x.n = 0) else decide (x.s = []) && (decide (x.wire ≠ 5) || decide (x.n < 4294967296)))
def allR (l : List Rw) : Bool := l.all okR
theorem allR_off {l : List Rw} {k : Nat} {a : Rw} (ha : l[k]? = some a) (h : okR a = false) : allR l = false := by
 rw [allR, List.all_eq_false]
 exact ⟨a, List.mem_of_getElem? ha, by simp [h]⟩
theorem allR_all {l : List Rw} (h : ∀ (k : Nat) a, l[k]? = some a → okR a = true) : allR l = true := by
 rw [allR, List.all_eq_true]
 intro a ha
 obtain ⟨k, hk⟩ := List.getElem?_of_mem ha
 exact h k a hk
/-- A field's value's bytes, and a field's. -/
def valR (x : Rw) : List UInt8 := if x.wire = 0 then uvarint x.n else if x.wire = 1 then le 8 x.n else if x.wire = 5 then le 4 x.n else uvarint x.s.length ++ x.s
def bytesR (x : Rw) : List UInt8 := uvarint (tagN x.num x.wire) ++ valR x
def putR : List Rw → List UInt8
 | [] => []
 | x :: r => bytesR x ++ putR r
theorem putR_append : ∀ a b, putR (a ++ b) = putR a ++ putR b
 | [], b => rfl
 | x :: a, b => by rw [List.cons_append, putR, putR_append a b, putR, List.append_assoc]
theorem putR_take {l : List Rw} {k : Nat} {x : Rw} (h : l[k]? = some x) : putR (l.take (k + 1)) = putR (l.take k) ++ bytesR x := by
 rw [List.take_add_one, h]
 show putR (l.take k ++ [x]) = _
 rw [putR_append, putR, putR, List.append_nil]

/-- One field, read by a cursor. -/
def oneS (bs : List UInt8) (s : St) : Rw × St :=
 if (s.rd tTag (0, 0) bs).1.2 = 0 then (⟨(s.rd tTag (0, 0) bs).1.1, 0, ((s.rd tTag (0, 0) bs).2.rd tVar 0 bs).1, []⟩, ((s.rd tTag (0, 0) bs).2.rd tVar 0 bs).2)
 else if (s.rd tTag (0, 0) bs).1.2 = 1 then (⟨(s.rd tTag (0, 0) bs).1.1, 1, ((s.rd tTag (0, 0) bs).2.rd (tFix 8) 0 bs).1, []⟩, ((s.rd tTag (0, 0) bs).2.rd (tFix 8) 0 bs).2)
 else if (s.rd tTag (0, 0) bs).1.2 = 5 then (⟨(s.rd tTag (0, 0) bs).1.1, 5, ((s.rd tTag (0, 0) bs).2.rd (tFix 4) 0 bs).1, []⟩, ((s.rd tTag (0, 0) bs).2.rd (tFix 4) 0 bs).2)
 else (⟨(s.rd tTag (0, 0) bs).1.1, (s.rd tTag (0, 0) bs).1.2, 0, ((s.rd tTag (0, 0) bs).2.rd tText [] bs).1⟩, ((s.rd tTag (0, 0) bs).2.rd tText [] bs).2)
end Go.Proofs.YtloheacncefkgaaGreatDoor

/- All fields of bytes, in plain words (no program here). -/
namespace Go.Proofs.YtloheacncefkgaaGreatDoor
open Go.Lib (uvarint)
set_option linter.unusedVariables false

theorem rd_none {α : Type} (take : List UInt8 → α × Nat) (z : α) (bs : List UInt8) {s : St} (h : s.fr = []) : (s.rd take z bs).2 = s := by
 unfold St.rd; rw [h]
theorem rd_on {α : Type} (take : List UInt8 → α × Nat) (z : α) (bs : List UInt8) (s : St) : (s.rd take z bs).2.fr = [] ∨ ((s.rd take z bs).2.fr = s.fr ∧ s.at_ < (s.rd take z bs).2.at_) := by
 unfold St.rd
 split
 ·exact .inl (by assumption)
 ·rename_i l r hfr
  split
  ·exact .inl rfl
  ·exact .inr ⟨rfl, by show s.at_ < s.at_ + _; omega⟩
theorem rd_two {α β : Type} (t1 : List UInt8 → α × Nat) (z1 : α) (t2 : List UInt8 → β × Nat) (z2 : β) (bs : List UInt8) (s : St) : ((s.rd t1 z1 bs).2.rd t2 z2 bs).2.fr = [] ∨ (((s.rd t1 z1 bs).2.rd t2 z2 bs).2.fr = s.fr ∧ s.at_ < ((s.rd t1 z1 bs).2.rd t2 z2 bs).2.at_) := by
 rcases rd_on t1 z1 bs s with h1 | ⟨h1, h2⟩
 ·exact .inl (by rw [rd_none t2 z2 bs h1]; exact h1)
 ·rcases rd_on t2 z2 bs (s.rd t1 z1 bs).2 with h3 | ⟨h3, h4⟩
  ·exact .inl h3
  ·exact .inr ⟨h3.trans h1, Nat.lt_trans h2 h4⟩
theorem one_on (bs : List UInt8) (s : St) : (oneS bs s).2.fr = [] ∨ ((oneS bs s).2.fr = s.fr ∧ s.at_ < (oneS bs s).2.at_) := by
 unfold oneS
 split
 ·exact rd_two ..
 ·split
  ·exact rd_two ..
  ·split
   ·exact rd_two ..
   ·exact rd_two ..
theorem right_one {bs : List UInt8} {s : St} (h : Right bs s) : Right bs (oneS bs s).2 := by
 unfold oneS
 have h1 := right_rd (z := ((0, 0) : Nat × Nat)) h tTag_le
 split
 ·exact right_rd h1 tVar_le
 ·split
  ·exact right_rd h1 (tFix_le 8)
  ·split
   ·exact right_rd h1 (tFix_le 4)
   ·exact right_rd h1 tText_le

/-- The fields up to the first that is none, where each begins, and whether they are all. -/
def getsR (bs : List UInt8) : Nat → St → List (Rw × Nat) × Bool
 | 0, _ => ([], true)
 | f + 1, s => if s.more = true then (if (oneS bs s).2.fr = [] then ([], false) else (((oneS bs s).1, s.at_) :: (getsR bs f (oneS bs s).2).1, (getsR bs f (oneS bs s).2).2)) else ([], true)
def getR (bs : List UInt8) : List (Rw × Nat) × Bool := getsR bs (bs.length + 1) ⟨0, [bs.length]⟩
/-- So much is read, and this is left. -/
structure Half (bs : List UInt8) (s : St) (acc : List (Rw × Nat)) : Prop where
 right : Right bs s
 fr : s.fr = [bs.length]
 all : getR bs = (acc ++ (getsR bs (bs.length + 1 - acc.length) s).1, (getsR bs (bs.length + 1 - acc.length) s).2)
 le : acc.length ≤ s.at_
section
variable {bs : List UInt8} {s : St} {acc : List (Rw × Nat)}
theorem Half.len (h : Half bs s acc) : acc.length ≤ bs.length := by
 have h1 := h.right
 unfold Right at h1
 rw [h.fr] at h1
 have := h.le
 omega
theorem Half.fuel (h : Half bs s acc) : bs.length + 1 - acc.length = (bs.length - acc.length) + 1 := by have := h.len; omega
theorem Half.done (h : Half bs s acc) (hm : s.more = false) : getR bs = (acc, true) := by
 have := h.all
 rw [h.fuel, getsR, if_neg (by rw [hm]; exact Bool.false_ne_true), List.append_nil] at this
 exact this
theorem Half.fail (h : Half bs s acc) (hm : s.more = true) (hf : (oneS bs s).2.fr = []) : getR bs = (acc, false) := by
 have := h.all
 rw [h.fuel, getsR, if_pos hm, if_pos hf, List.append_nil] at this
 exact this
theorem Half.step (h : Half bs s acc) (hm : s.more = true) (hf : (oneS bs s).2.fr ≠ []) : Half bs (oneS bs s).2 (acc ++ [((oneS bs s).1, s.at_)]) := by
 have ha := h.all
 rw [h.fuel, getsR, if_pos hm, if_neg hf] at ha
 have ho := one_on bs s
 have hle := h.le
 have hl := h.len
 refine ⟨right_one h.right, ?_, ?_, ?_⟩
 ·rcases ho with h1 | h1
  ·exact absurd h1 hf
  ·exact h1.1.trans h.fr
 ·rw [List.length_append, show bs.length + 1 - (acc.length + [((oneS bs s).1, s.at_)].length) = bs.length - acc.length by simp, List.append_assoc]
  exact ha
 ·rcases ho with h1 | h1
  ·exact absurd h1 hf
  ·rw [List.length_append]; simp; omega
end
end Go.Proofs.YtloheacncefkgaaGreatDoor

/- What is put is got, and what is got has no more bytes when it is put, in plain words (no program here). -/
namespace Go.Proofs.YtloheacncefkgaaGreatDoor
open Go.Lib (uvarint)
set_option linter.unusedVariables false

section
variable {bs rest : List UInt8} {i : Nat} {s : St}
theorem Ahead.tagw {num wire : Int} {r : List UInt8} (h : Ahead bs i (uvarint (tagN num wire) ++ r) s) (hr : rightB num wire = true) : ((s.rd tTag (0, 0) bs).1.1 : Int) = num ∧ ((s.rd tTag (0, 0) bs).1.2 : Int) = wire ∧ Ahead bs i r (s.rd tTag (0, 0) bs).2 := by
 obtain ⟨h1, h2, h3⟩ := split_tag num wire hr
 have hg := get_put (tagN num wire) (by have := tagN_lt num wire; omega) r
 have ht : tTag (uvarint (tagN num wire) ++ r) = ((splitN (tagN num wire), splitW (tagN num wire)), (uvarint (tagN num wire)).length) := by
  unfold tTag
  rw [hg]
  dsimp only
  rw [if_pos h1]
 have hp := uvarint_pos' (tagN num wire)
 obtain ⟨q1, q2⟩ := h.rd (z := (0, 0)) ht (by omega)
 rw [q1]
 exact ⟨h2, h3, q2⟩
theorem Ahead.varint {n : Nat} {r : List UInt8} (h : Ahead bs i (uvarint n ++ r) s) (hn : n < 18446744073709551616) : (s.rd tVar 0 bs).1 = n ∧ Ahead bs i r (s.rd tVar 0 bs).2 := by
 have hp := uvarint_pos' n
 exact h.rd (z := 0) (get_put n hn r) (by omega)
theorem Ahead.fixed {k n : Nat} {r : List UInt8} (h : Ahead bs i (le k n ++ r) s) (hk : 0 < k) (hn : n < 256 ^ k) : (s.rd (tFix k) 0 bs).1 = n ∧ Ahead bs i r (s.rd (tFix k) 0 bs).2 := by
 have ht : tFix k (le k n ++ r) = (n, (le k n).length) := by
  unfold tFix
  rw [getN_put, isN_put, if_pos rfl, Nat.mod_eq_of_lt hn, le_length]
 exact h.rd (z := 0) ht (by rw [le_length]; omega)
theorem pow4 : (256 : Nat) ^ 4 = 4294967296 := by decide
theorem pow8 : (256 : Nat) ^ 8 = 18446744073709551616 := by decide
/-- A right field is read as it is. -/
theorem Ahead.one {x : Rw} {r : List UInt8} (h : Ahead bs i (bytesR x ++ r) s) (ho : okR x = true) (hn : x.n < 18446744073709551616) (hs : x.s.length < 18446744073709551616) : (oneS bs s).1 = x ∧ Ahead bs i r (oneS bs s).2 := by
 obtain ⟨num, wire, n, t⟩ := x
 have hr : rightB num wire = true := (Bool.and_eq_true_iff.mp ho).1
 rw [bytesR, List.append_assoc] at h
 obtain ⟨a1, a2, a3⟩ := h.tagw hr
 dsimp only at a1 a2 a3 hn hs
 obtain ⟨_, hw⟩ := (rightB_iff _ _).mp hr
 unfold okR at ho
 unfold oneS
 unfold valR at a3
 dsimp only at ho a3
 rcases hw with rfl | rfl | rfl | rfl
 ·rw [if_pos rfl] at a3
  obtain ⟨b1, b2⟩ := a3.varint hn
  have e : (s.rd tTag (0, 0) bs).1.2 = 0 := by omega
  rw [if_pos e]
  have ht : t = [] := by simp at ho; exact ho.2
  exact ⟨Rw.ext' a1 rfl b1 ht.symm, b2⟩
 ·rw [if_neg (by decide), if_pos rfl] at a3
  obtain ⟨b1, b2⟩ := a3.fixed (by decide) (by rw [pow8]; exact hn)
  have e : (s.rd tTag (0, 0) bs).1.2 = 1 := by omega
  rw [if_neg (by omega), if_pos e]
  have ht : t = [] := by simp at ho; exact ho.2
  exact ⟨Rw.ext' a1 rfl b1 ht.symm, b2⟩
 ·rw [if_neg (by decide), if_neg (by decide), if_neg (by decide), List.append_assoc] at a3
  obtain ⟨b1, b2⟩ := a3.text hs
  rw [if_neg (by omega), if_neg (by omega), if_neg (by omega)]
  have ht : n = 0 := by simp at ho; exact ho.2
  exact ⟨Rw.ext' a1 a2 ht.symm b1, b2⟩
 ·rw [if_neg (by decide), if_neg (by decide), if_pos rfl] at a3
  have hb : t = [] ∧ n < 4294967296 := by
   generalize hd : decide (n < 4294967296) = d at ho
   simp at ho
   exact ⟨ho.2.1, of_decide_eq_true (by rw [hd]; exact ho.2.2)⟩
  obtain ⟨b1, b2⟩ := a3.fixed (by decide) (by rw [pow4]; exact hb.2)
  have e : (s.rd tTag (0, 0) bs).1.2 = 5 := by omega
  rw [if_neg (by omega), if_neg (by omega), if_pos e]
  exact ⟨Rw.ext' a1 rfl b1 hb.1.symm, b2⟩
end
/-! What is got. -/
end Go.Proofs.YtloheacncefkgaaGreatDoor

/- Trees, plain (no program here): how deep, how much, what is left of so much; what a walk through all of them makes. Conditions: those that each theorem names. -/
namespace Go.Proofs.YtloheacncefkgaaGreatDoor
set_option linter.unusedVariables false

structure VaF (τ : Type) where
 vn : Nat
 vs : List UInt8
 vm : List τ
structure SlF (τ : Type) where
 snum : Int
 svals : List (VaF τ)
inductive Tr where
 | mk (slots : List (SlF Tr)) (rest : List Rw)
abbrev Va := VaF Tr
abbrev Slt := SlF Tr
def Tr.slots : Tr → List Slt
 | .mk a _ => a
def Tr.rest : Tr → List Rw
 | .mk _ b => b
instance : Inhabited Tr := ⟨.mk [] []⟩
instance : Inhabited Va := ⟨⟨0, [], []⟩⟩
instance : Inhabited Slt := ⟨⟨0, []⟩⟩

/-- The greatest of what f says. -/
def supB {α : Type} (f : α → Nat) : List α → Nat
 | [] => 0
 | x :: l => max (f x) (supB f l)
def sumB {α : Type} (f : α → Nat) : List α → Nat
 | [] => 0
 | x :: l => f x + sumB f l
section
variable {α β : Type} (f : α → Nat)
theorem supB_append : ∀ a b : List α, supB f (a ++ b) = max (supB f a) (supB f b)
 | [], b => by simp [supB]
 | x :: a, b => by rw [List.cons_append, supB, supB, supB_append a b]; omega
theorem take_snoc' {l : List α} {i : Nat} {x : α} (h : l[i]? = some x) : l.take (i + 1) = l.take i ++ [x] := by
 rw [List.take_add_one, h]; rfl
theorem supB_take {l : List α} {i : Nat} {x : α} (h : l[i]? = some x) : supB f (l.take (i + 1)) = max (supB f (l.take i)) (f x) := by
 rw [take_snoc' h, supB_append]; simp [supB]
theorem supB_mem : ∀ {l : List α} {x : α}, x ∈ l → f x ≤ supB f l
 | y :: l, x, h => by
   rw [supB]
   rcases List.mem_cons.mp h with rfl | h
   ·omega
   ·have := supB_mem h; omega
theorem sumB_mem : ∀ {l : List α} {x : α}, x ∈ l → f x ≤ sumB f l
 | y :: l, x, h => by
   rw [sumB]
   rcases List.mem_cons.mp h with rfl | h
   ·omega
   ·have := sumB_mem h; omega
theorem supB_le {b : Nat} : ∀ {l : List α}, (∀ x ∈ l, f x ≤ b) → supB f l ≤ b
 | [], _ => Nat.zero_le _
 | y :: l, h => by
   rw [supB]
   have := supB_le (l := l) (fun x hx => h x (List.mem_cons_of_mem _ hx))
   have := h y List.mem_cons_self
   omega
theorem sumB_add (g : α → Nat) : ∀ l : List α, sumB (fun x => f x + g x) l = sumB f l + sumB g l
 | [] => rfl
 | x :: l => by simp only [sumB]; rw [sumB_add g l]; omega
theorem supB_flat (g : β → List α) : ∀ l : List β, supB f (l.flatMap g) = supB (fun x => supB f (g x)) l
 | [] => rfl
 | x :: l => by rw [List.flatMap_cons, supB_append, supB_flat g l]; rfl
end

/-- The trees within. -/
def kidsV (l : List Va) : List Tr := l.flatMap (·.vm)
def kidsS (l : List Slt) : List Tr := l.flatMap fun s => kidsV s.svals
/-- How deep, down to a level. -/
def deepN : Nat → Tr → Nat
 | 0, _ => 0
 | k + 1, t => supB (fun s : Slt => supB (fun v : Va => supB (deepN k) v.vm) s.svals) t.slots + 1
def cntN : Nat → Tr → Nat
 | 0, _ => 0
 | k + 1, t => t.rest.length + sumB (fun s : Slt => s.svals.length + sumB (fun v : Va => sumB (cntN k) v.vm) s.svals) t.slots
theorem deepN_kids (k : Nat) (t : Tr) : deepN (k + 1) t = supB (deepN k) (kidsS t.slots) + 1 := by
 unfold kidsS
 rw [supB_flat, deepN]
 have : (fun x : Slt => supB (deepN k) (kidsV x.svals)) = fun s : Slt => supB (fun v : Va => supB (deepN k) v.vm) s.svals := by
  funext s; unfold kidsV; rw [supB_flat]
 rw [this]

/-- A round for each, as long as what there is is not below 0. -/
def foldG {α : Type} (f : Int → α → Int) (n : Int) (l : List α) : Int := l.foldl (fun n x => if 0 ≤ n then f n x else n) n
theorem foldG_neg {α : Type} (f : Int → α → Int) {n : Int} (h : n < 0) : ∀ l : List α, foldG f n l = n
 | [] => rfl
 | x :: l => by
   show foldG f (if 0 ≤ n then f n x else n) l = n
   rw [if_neg (by omega)]
   exact foldG_neg f h l
theorem foldG_take {α : Type} (f : Int → α → Int) (n : Int) {l : List α} {i : Nat} {x : α} (h : l[i]? = some x) (h0 : 0 ≤ foldG f n (l.take i)) : foldG f n (l.take (i + 1)) = f (foldG f n (l.take i)) x := by
 rw [take_snoc' h]
 unfold foldG at h0 ⊢
 rw [List.foldl_append, List.foldl_cons, List.foldl_nil, if_pos h0]
theorem foldG_stop {α : Type} (f : Int → α → Int) (n : Int) {l : List α} {i : Nat} (h0 : foldG f n (l.take i) < 0) : foldG f n l = foldG f n (l.take i) := by
 have e : foldG f n l = foldG f (foldG f n (l.take i)) (l.drop i) := by
  unfold foldG
  rw [← List.foldl_append, List.take_append_drop]
 rw [e, foldG_neg f h0]
theorem foldG_le {α : Type} {f : Int → α → Int} (hf : ∀ n x, f n x ≤ n) : ∀ (l : List α) (n : Int), foldG f n l ≤ n
 | [], n => Int.le_refl _
 | x :: l, n => by
   show foldG f (if 0 ≤ n then f n x else n) l ≤ n
   have h1 := hf n x
   by_cases h0 : 0 ≤ n
   ·rw [if_pos h0]
    have := foldG_le hf l (f n x)
    omega
   ·rw [if_neg h0]
    exact foldG_le hf l n
/-- Bounds below. -/
theorem foldG_lo {α : Type} {f : Int → α → Int} {b : Int} : ∀ (l : List α) (n : Int), (∀ n x, x ∈ l → 0 ≤ n → b ≤ f n x) → b ≤ n → b ≤ foldG f n l
 | [], n, _, h => h
 | x :: l, n, hf, h => by
   show b ≤ foldG f (if 0 ≤ n then f n x else n) l
   apply foldG_lo l _ (fun n y hy => hf n y (List.mem_cons_of_mem _ hy))
   split
   ·exact hf n x List.mem_cons_self ‹_›
   ·exact h
theorem foldG_all {α : Type} {f : Int → α → Int} (c : α → Nat) (hf : ∀ n x, 0 ≤ n → 0 ≤ f n x → f n x + (c x : Int) ≤ n) : ∀ (l : List α) (n : Int), 0 ≤ foldG f n l → 0 ≤ n ∧ foldG f n l + (sumB c l : Int) ≤ n ∧ ∀ x ∈ l, ∃ m, 0 ≤ m ∧ m ≤ n ∧ 0 ≤ f m x
 | [], n, h => ⟨h, by show n + 0 ≤ n; omega, fun x hx => by simp at hx⟩
 | x :: l, n, h => by
   have h0 : 0 ≤ n := by
    rcases Int.lt_or_le n 0 with h1 | h1
    ·rw [foldG_neg f h1] at h; omega
    ·exact h1
   have e : foldG f n (x :: l) = foldG f (f n x) l := by show foldG f (if 0 ≤ n then f n x else n) l = _; rw [if_pos h0]
   rw [e] at h ⊢
   obtain ⟨h1, h2, h3⟩ := foldG_all c hf l (f n x) h
   have h4 := hf n x h0 h1
   refine ⟨h0, by rw [sumB]; push_cast; omega, fun y hy => ?_⟩
   rcases List.mem_cons.mp hy with rfl | hy
   ·exact ⟨n, h0, by omega, h1⟩
   ·obtain ⟨m, a, b, c'⟩ := h3 y hy
    exact ⟨m, a, by omega, c'⟩

def remR (n : Int) (r : Rw) : Int := n - ((r.s.length / 20 : Nat) : Int)
def leftM (lf : Tr → Int → Int) (n : Int) (l : List Tr) : Int := foldG (fun n t => lf t (n - 1)) n l
def leftV (lf : Tr → Int → Int) (n : Int) (l : List Va) : Int := foldG (fun n v => leftM lf (n - ((v.vs.length / 20 : Nat) : Int)) v.vm) n l
def leftS (lf : Tr → Int → Int) (n : Int) (l : List Slt) : Int := foldG (fun n s => leftV lf (n - (s.svals.length : Int)) s.svals) n l
/-- How much of so much a tree leaves. -/
def leftN : Nat → Tr → Int → Int → Int
 | 0, _, n, _ => n
 | k + 1, t, n, d => if d ≤ 0 then -1 else leftS (fun u m => leftN k u m (d - 1)) (foldG remR (n - (t.rest.length : Int) - (t.slots.length : Int)) t.rest) t.slots
/-- No list and no text is too long, down to a level. -/
def OkN : Nat → Tr → Prop
 | 0, _ => True
 | k + 1, t => t.slots.length ≤ 140737488351232 ∧ t.rest.length ≤ 140737488351232 ∧ (∀ r ∈ t.rest, r.s.length ≤ 140737488351232 ∧ r.n < 18446744073709551616) ∧ ∀ s ∈ t.slots, s.svals.length ≤ 140737488351232 ∧ ∀ v ∈ s.svals, (v.vs.length ≤ 140737488351232 ∧ v.vn < 18446744073709551616) ∧ v.vm.length ≤ 140737488351232 ∧ ∀ u ∈ v.vm, OkN k u
/-- All is short. -/
def FitN : Nat → Tr → Prop
 | 0, _ => True
 | k + 1, t => t.slots.length ≤ 1000 ∧ t.rest.length ≤ 1000 ∧ (∀ r ∈ t.rest, r.s.length ≤ 100000) ∧ ∀ s ∈ t.slots, s.svals.length ≤ 1000 ∧ ∀ v ∈ s.svals, v.vs.length ≤ 100000 ∧ v.vm.length ≤ 1000 ∧ ∀ u ∈ v.vm, FitN k u
theorem leftN_lo : ∀ (k : Nat) (t : Tr) (n d : Int), OkN k t → -1 ≤ n → -281474976710656 ≤ leftN k t n d
 | 0, t, n, d, _, h => by unfold leftN; omega
 | k + 1, t, n, d, ho, h => by
   obtain ⟨o1, o2, o3, o4⟩ := ho
   unfold leftN
   split
   ·omega
   ·apply foldG_lo
    ·intro m s hs hm
     apply foldG_lo
     ·intro m v hv hm
      apply foldG_lo
      ·intro m u hu hm
       exact leftN_lo k u _ _ ((((o4 s hs).2 v hv).2.2) u hu) (by omega)
      ·have := ((o4 s hs).2 v hv).1; omega
     ·have := (o4 s hs).1; omega
    ·apply foldG_lo
     ·intro m r hr hm
      unfold remR
      have := o3 r hr
      omega
     ·omega
theorem leftN_le : ∀ (k : Nat) (t : Tr) (n d : Int), -1 ≤ n → leftN k t n d ≤ n
 | 0, t, n, d, _ => by unfold leftN; omega
 | k + 1, t, n, d, hn => by
   unfold leftN
   split
   ·exact hn
   ·have hM : ∀ (m : Int) (l : List Tr), leftM (fun u m => leftN k u m (d - 1)) m l ≤ m := fun m l => by
     unfold leftM
     induction l generalizing m with
     | nil => exact Int.le_refl _
     | cons x l ih =>
       by_cases h0 : 0 ≤ m
       ·have e : foldG (fun n t => (fun u m => leftN k u m (d - 1)) t (n - 1)) m (x :: l) = foldG (fun n t => (fun u m => leftN k u m (d - 1)) t (n - 1)) (leftN k x (m - 1) (d - 1)) l := by
         show foldG _ (if 0 ≤ m then _ else m) l = _
         rw [if_pos h0]
        rw [e]
        have h1 := ih (leftN k x (m - 1) (d - 1))
        have h2 := leftN_le k x (m - 1) (d - 1) (by omega)
        exact Int.le_trans h1 (by omega)
       ·rw [foldG_neg _ (by omega)]
        exact Int.le_refl _
    have hV : ∀ (m : Int) (l : List Va), leftV (fun u m => leftN k u m (d - 1)) m l ≤ m := fun m l => foldG_le (fun m v => Int.le_trans (hM _ _) (by omega)) l m
    have hS : ∀ (m : Int) (l : List Slt), leftS (fun u m => leftN k u m (d - 1)) m l ≤ m := fun m l => foldG_le (fun m s => Int.le_trans (hV _ _) (by omega)) l m
    have hR : ∀ (m : Int) (l : List Rw), foldG remR m l ≤ m := fun m l => foldG_le (fun m r => by unfold remR; omega) l m
    have h1 := hS (foldG remR (n - (t.rest.length : Int) - (t.slots.length : Int)) t.rest) t.slots
    have h2 := hR (n - (t.rest.length : Int) - (t.slots.length : Int)) t.rest
    omega
theorem left_fits : ∀ (k : Nat) (t : Tr) (n d : Int), n ≤ 400 → 0 ≤ leftN k t n d → FitN k t ∧ (0 < k → (deepN k t : Int) ≤ d) ∧ leftN k t n d + (cntN k t : Int) ≤ n
 | 0, t, n, d, _, h => ⟨trivial, fun h => absurd h (Nat.lt_irrefl _), by unfold leftN cntN; omega⟩
 | k + 1, t, n, d, hn, h => by
   unfold leftN at h ⊢
   split at h
   ·omega
   rename_i hd
   rw [if_neg hd]
   obtain ⟨lf, hlf⟩ : ∃ lf, lf = (fun (u : Tr) (m : Int) => leftN k u m (d - 1)) := ⟨_, rfl⟩
   rw [← hlf] at h ⊢
   have HL : ∀ u m, m ≤ 400 → 0 ≤ lf u m → FitN k u ∧ (0 < k → (deepN k u : Int) ≤ d - 1) ∧ lf u m + (cntN k u : Int) ≤ m := fun u m hm h => by
    rw [hlf] at h ⊢
    exact left_fits k u m (d - 1) hm h
   have HM : ∀ (m : Int) (l : List Tr), m ≤ 400 → 0 ≤ leftM lf m l → leftM lf m l + (sumB (fun u => cntN k u + 1) l : Int) ≤ m ∧ 0 ≤ m ∧ ∀ u ∈ l, FitN k u ∧ (0 < k → (deepN k u : Int) ≤ d - 1) := by
    intro m l
    induction l generalizing m with
    | nil => intro _ h; exact ⟨by show m + 0 ≤ m; omega, h, fun u hu => by simp at hu⟩
    | cons x l ih =>
      intro hm h
      have h0 : 0 ≤ m := by
       rcases Int.lt_or_le m 0 with h1 | h1
       ·unfold leftM at h; rw [foldG_neg _ h1] at h; omega
       ·exact h1
      have e : leftM lf m (x :: l) = leftM lf (lf x (m - 1)) l := by show foldG _ (if 0 ≤ m then _ else m) l = _; rw [if_pos h0]; rfl
      rw [e] at h ⊢
      have hle : lf x (m - 1) ≤ m - 1 := by rw [hlf]; exact leftN_le k x (m - 1) (d - 1) (by omega)
      obtain ⟨i1, i2, i3⟩ := ih (lf x (m - 1)) (by omega) h
      obtain ⟨j1, j2, j3⟩ := HL x (m - 1) (by omega) i2
      refine ⟨by rw [sumB, Int.natCast_add]; omega, h0, fun u hu => ?_⟩
      rcases List.mem_cons.mp hu with rfl | hu
      ·exact ⟨j1, j2⟩
      ·exact i3 u hu
   have HV : ∀ (m : Int) (l : List Va), m ≤ 400 → 0 ≤ leftV lf m l → leftV lf m l + (sumB (fun v : Va => sumB (cntN k) v.vm) l : Int) ≤ m ∧ 0 ≤ m ∧ ∀ v ∈ l, v.vs.length ≤ 100000 ∧ v.vm.length ≤ 1000 ∧ ∀ u ∈ v.vm, FitN k u ∧ (0 < k → (deepN k u : Int) ≤ d - 1) := by
    intro m l
    induction l generalizing m with
    | nil => intro _ h; exact ⟨by show m + 0 ≤ m; omega, h, fun u hu => by simp at hu⟩
    | cons x l ih =>
      intro hm h
      have h0 : 0 ≤ m := by
       rcases Int.lt_or_le m 0 with h1 | h1
       ·unfold leftV at h; rw [foldG_neg _ h1] at h; omega
       ·exact h1
      have e : leftV lf m (x :: l) = leftV lf (leftM lf (m - ((x.vs.length / 20 : Nat) : Int)) x.vm) l := by show foldG _ (if 0 ≤ m then _ else m) l = _; rw [if_pos h0]; rfl
      rw [e] at h ⊢
      have hx0 : 0 ≤ leftM lf (m - ((x.vs.length / 20 : Nat) : Int)) x.vm := by
       rcases Int.lt_or_le (leftM lf (m - ((x.vs.length / 20 : Nat) : Int)) x.vm) 0 with h1 | h1
       ·unfold leftV at h; rw [foldG_neg _ h1] at h; omega
       ·exact h1
      obtain ⟨j1, j2, j3⟩ := HM (m - ((x.vs.length / 20 : Nat) : Int)) x.vm (by omega) hx0
      have js : (x.vm.length : Int) ≤ (sumB (fun u => cntN k u + 1) x.vm : Nat) := by
       have : ∀ l : List Tr, l.length ≤ sumB (fun u => cntN k u + 1) l := fun l => by
        induction l with
        | nil => exact Nat.le_refl _
        | cons y l ih => simp only [sumB, List.length_cons]; omega
       exact Int.ofNat_le.mpr (this x.vm)
      have jc : (sumB (cntN k) x.vm : Int) ≤ (sumB (fun u => cntN k u + 1) x.vm : Nat) := by
       rw [sumB_add]; omega
      obtain ⟨i1, i2, i3⟩ := ih _ (by omega) h
      refine ⟨by rw [sumB, Int.natCast_add]; omega, h0, fun v hv => ?_⟩
      rcases List.mem_cons.mp hv with rfl | hv
      ·exact ⟨by omega, by omega, j3⟩
      ·exact i3 v hv
   have HS : ∀ (m : Int) (l : List Slt), m ≤ 400 → 0 ≤ leftS lf m l → leftS lf m l + (sumB (fun s : Slt => s.svals.length + sumB (fun v : Va => sumB (cntN k) v.vm) s.svals) l : Int) ≤ m ∧ 0 ≤ m ∧ ∀ s ∈ l, s.svals.length ≤ 1000 ∧ ∀ v ∈ s.svals, v.vs.length ≤ 100000 ∧ v.vm.length ≤ 1000 ∧ ∀ u ∈ v.vm, FitN k u ∧ (0 < k → (deepN k u : Int) ≤ d - 1) := by
    intro m l
    induction l generalizing m with
    | nil => intro _ h; exact ⟨by show m + 0 ≤ m; omega, h, fun u hu => by simp at hu⟩
    | cons x l ih =>
      intro hm h
      have h0 : 0 ≤ m := by
       rcases Int.lt_or_le m 0 with h1 | h1
       ·unfold leftS at h; rw [foldG_neg _ h1] at h; omega
       ·exact h1
      have e : leftS lf m (x :: l) = leftS lf (leftV lf (m - (x.svals.length : Int)) x.svals) l := by show foldG _ (if 0 ≤ m then _ else m) l = _; rw [if_pos h0]; rfl
      rw [e] at h ⊢
      have hx0 : 0 ≤ leftV lf (m - (x.svals.length : Int)) x.svals := by
       rcases Int.lt_or_le (leftV lf (m - (x.svals.length : Int)) x.svals) 0 with h1 | h1
       ·unfold leftS at h; rw [foldG_neg _ h1] at h; omega
       ·exact h1
      obtain ⟨j1, j2, j3⟩ := HV (m - (x.svals.length : Int)) x.svals (by omega) hx0
      obtain ⟨i1, i2, i3⟩ := ih _ (by omega) h
      refine ⟨by rw [sumB, Int.natCast_add]; omega, h0, fun v hv => ?_⟩
      rcases List.mem_cons.mp hv with rfl | hv
      ·exact ⟨by omega, j3⟩
      ·exact i3 v hv
   have HR : ∀ (l : List Rw) (m : Int), m ≤ 400 → 0 ≤ foldG remR m l → foldG remR m l ≤ m ∧ 0 ≤ m ∧ ∀ r ∈ l, r.s.length ≤ 100000 := by
    intro l m hm h
    obtain ⟨a, b, c⟩ := foldG_all (f := remR) (fun r => r.s.length / 20) (fun n x _ _ => by unfold remR; omega) l m h
    refine ⟨by omega, a, fun r hr => ?_⟩
    obtain ⟨q, q1, q2, q3⟩ := c r hr
    unfold remR at q3
    omega
   have hm0 : (n - (t.rest.length : Int) - (t.slots.length : Int)) ≤ 400 := by omega
   have hr0 : 0 ≤ foldG remR (n - (t.rest.length : Int) - (t.slots.length : Int)) t.rest := by
    rcases Int.lt_or_le (foldG remR (n - (t.rest.length : Int) - (t.slots.length : Int)) t.rest) 0 with h1 | h1
    ·unfold leftS at h; rw [foldG_neg _ h1] at h; omega
    ·exact h1
   obtain ⟨r1, r2, r3⟩ := HR _ _ hm0 hr0
   obtain ⟨s1, s2, s3⟩ := HS _ _ (by omega) h
   refine ⟨⟨by omega, by omega, r3, fun s hs => ⟨(s3 s hs).1, fun v hv => ⟨((s3 s hs).2 v hv).1, ((s3 s hs).2 v hv).2.1, fun u hu => (((s3 s hs).2 v hv).2.2 u hu).1⟩⟩⟩, fun _ => ?_, ?_⟩
   ·unfold deepN
    have : supB (fun s : Slt => supB (fun v : Va => supB (deepN k) v.vm) s.svals) t.slots ≤ (d - 1).toNat := by
     apply supB_le; intro s hs
     apply supB_le; intro v hv
     apply supB_le; intro u hu
     have h1 := (((s3 s hs).2 v hv).2.2 u hu).2
     rcases Nat.eq_zero_or_pos k with rfl | hk
     ·unfold deepN; omega
     ·have := h1 hk; omega
    push_cast
    omega
   ·unfold cntN
    push_cast
    omega

/-- What a walk through all trees makes of a number. -/
def visN (st : Nat → Tr → Nat → Nat) : Nat → Nat → Tr → Nat → Nat
 | 0, s, _, _ => s
 | k + 1, s, t, d => (kidsS t.slots).foldl (fun s c => visN st k s c (d + 1)) (st s t d)
theorem foldl_mono {α : Type} {g : Nat → α → Nat} (hg : ∀ s x, s ≤ g s x) : ∀ (l : List α) (s : Nat), s ≤ l.foldl g s
 | [], s => Nat.le_refl _
 | x :: l, s => Nat.le_trans (hg s x) (foldl_mono hg l (g s x))
theorem foldl_takele {α : Type} {g : Nat → α → Nat} (hg : ∀ s x, s ≤ g s x) (l : List α) (i s : Nat) : (l.take i).foldl g s ≤ l.foldl g s := by
 have e : l.foldl g s = (l.drop i).foldl g ((l.take i).foldl g s) := by rw [← List.foldl_append, List.take_append_drop]
 rw [e]
 exact foldl_mono hg _ _
theorem visN_mono {st : Nat → Tr → Nat → Nat} (hs : ∀ s t d, s ≤ st s t d) : ∀ (k s : Nat) (t : Tr) (d : Nat), s ≤ visN st k s t d
 | 0, s, _, _ => Nat.le_refl _
 | k + 1, s, t, d => Nat.le_trans (hs s t d) (foldl_mono (fun s c => visN_mono hs k s c (d + 1)) _ _)
theorem vis_deep : ∀ (k s : Nat) (t : Tr) (d : Nat), visN (fun s _ d => max s d) (k + 1) s t d = max s (d - 1 + deepN (k + 1) t) ∨ d = 0
 | k, s, t, 0 => .inr rfl
 | 0, s, t, d + 1 => .inl (by
  unfold visN
  have : ∀ (l : List Tr) (s : Nat), l.foldl (fun s c => visN (fun s _ d => max s d) 0 s c (d + 1 + 1)) s = s := fun l => by
   induction l with
   | nil => intro s; rfl
   | cons x l ih => intro s; exact ih s
  rw [this, deepN_kids]
  have h0 : supB (deepN 0) (kidsS t.slots) = 0 := by
   have := supB_le (deepN 0) (b := 0) (l := kidsS t.slots) (fun x _ => Nat.le_refl _)
   omega
  rw [h0]
  omega)
 | k + 1, s, t, d + 1 => .inl (by
     rw [visN, deepN_kids]
     have : ∀ (l : List Tr) (s : Nat), d + 1 ≤ s → l.foldl (fun s c => visN (fun s _ d => max s d) (k + 1) s c (d + 1 + 1)) s = max s (d + 1 + supB (deepN (k + 1)) l) := fun l => by
      induction l with
      | nil => intro s hs; simp only [List.foldl_nil, supB]; omega
      | cons x l ih =>
        intro s hs
        rw [List.foldl_cons]
        rcases vis_deep k s x (d + 1 + 1) with h | h
        ·rw [h, ih _ (by omega), supB]; omega
        ·omega
     rw [this _ _ (by omega)]
     omega)
end Go.Proofs.YtloheacncefkgaaGreatDoor

/- Layer 20: slots that are short (no program here). Conditions: those that each theorem names. -/
namespace Go.Proofs.YtloheacncefkgaaGreatDoor
set_option linter.unusedVariables false

def FitS (n : Nat) (x : Slt) : Prop := x.svals.length ≤ 1000 ∧ ∀ v ∈ x.svals, v.vs.length ≤ 100000 ∧ v.vm.length ≤ 1000 ∧ ∀ u ∈ v.vm, FitN n u
def BitS (n : Nat) (x : Slt) : Prop := ∀ v ∈ x.svals, v.vn < 18446744073709551616 ∧ ∀ u ∈ v.vm, OkN n u
theorem fit_slots {n : Nat} {t : Tr} (h : FitN (n + 1) t) {x : Slt} (hx : x ∈ t.slots) : FitS n x := h.2.2.2 x hx
theorem bit_slots {n : Nat} {t : Tr} (h : OkN (n + 1) t) {x : Slt} (hx : x ∈ t.slots) : BitS n x := fun v hv => ⟨((h.2.2.2 x hx).2 v hv).1.2, ((h.2.2.2 x hx).2 v hv).2.2⟩

end Go.Proofs.YtloheacncefkgaaGreatDoor
