/- Several texts in one: FixMath, ZigMath. What each proves, and its conditions, stands at its own head. -/
import Derived.Lib.BitFns
import Derived.Laws.BitsLemmas
import Derived.Lib.EndianBits
import Derived.RowKit
/- Plain arithmetic of numbers as bytes, the lowest one first (no program here). Conditions: none but those that each theorem names. -/
namespace Go.Proofs.YtpfdnggacpehdaaGreatDoor
open Go.RowKit Go.Lib
set_option linter.unusedVariables false

/-- So many bytes of a number. -/
def le : Nat → Nat → List UInt8
  | 0, _ => []
  | k + 1, n => (n % 256).toUInt8 :: le k (n / 256)
/-- The number of bytes. -/
def num : List UInt8 → Nat
  | [] => 0
  | b :: bs => b.toNat + 256 * num bs

theorem le_length : ∀ k n, (le k n).length = k
  | 0, _ => rfl
  | k + 1, n => by simp [le, le_length k]
theorem pow256 (k : Nat) : 256 ^ (k + 1) = 256 ^ k * 256 := Nat.pow_succ ..
theorem pow256_pos (k : Nat) : 0 < 256 ^ k := Nat.pow_pos (by decide)
theorem num_lt : ∀ bs, num bs < 256 ^ bs.length
  | [] => by decide
  | b :: bs => by
    have h1 := num_lt bs
    have h2 : b.toNat < 256 := b.toNat_lt
    rw [List.length_cons, pow256, num]
    omega
theorem num_le : ∀ k n, num (le k n) = n % 256 ^ k
  | 0, n => by simp [le, num, Nat.mod_one]
  | k + 1, n => by
    rw [le, num, num_le k, pow256, Nat.mul_comm (256 ^ k), Nat.mod_mul]
    have : (n % 256).toUInt8.toNat = n % 256 := by simp [Nat.toUInt8]
    omega
theorem num_append : ∀ a b, num (a ++ b) = num a + 256 ^ a.length * num b
  | [], b => by simp [num]
  | x :: a, b => by
    rw [List.cons_append, num, num_append a b, num, List.length_cons, pow256]
    rw [Nat.mul_add, ← Nat.mul_assoc, Nat.mul_comm 256 (256 ^ a.length)]
    omega
theorem num_zeros (bs : List UInt8) (h : bs.length = 4) : num (bs ++ [0, 0, 0, 0]) = num bs := by
  rw [num_append]; simp [num]
theorem num_drop (bs : List UInt8) (i : Nat) (h : i < bs.length) : num (bs.drop i) = bs[i].toNat + 256 * num (bs.drop (i + 1)) := by
  rw [List.drop_eq_getElem_cons h]; rfl
theorem num_take (bs : List UInt8) (i : Nat) (h : i < bs.length) : num (bs.take (i + 1)) = num (bs.take i) + 256 ^ i * bs[i].toNat := by
  rw [List.take_add_one, List.getElem?_eq_getElem h, num_append, List.length_take, Nat.min_eq_left (by omega)]
  simp [num]
/-- What is got of whatever bytes. -/
def getN (k : Nat) (bs : List UInt8) : Nat := if bs.length < k then 0 else num (bs.take k)
def isN (k : Nat) (bs : List UInt8) : Bool := decide (k ≤ bs.length)
theorem getN_lt (k : Nat) (bs : List UInt8) : getN k bs < 256 ^ k := by
  unfold getN
  split
  · exact pow256_pos k
  · have h := num_lt (bs.take k)
    rwa [List.length_take, Nat.min_eq_left (by omega)] at h
theorem getN_put (k n : Nat) (rest : List UInt8) : getN k (le k n ++ rest) = n % 256 ^ k := by
  have hl := le_length k n
  unfold getN
  rw [if_neg (by simp [hl])]
  rw [List.take_append_of_le_length (by omega), List.take_of_length_le (by omega), num_le]
theorem isN_put (k n : Nat) (rest : List UInt8) : isN k (le k n ++ rest) = true := by
  simp [isN, le_length]
end Go.Proofs.YtpfdnggacpehdaaGreatDoor

/- Plain arithmetic of signed numbers as unsigned ones (no program here). Conditions: none but those that each theorem names. -/
namespace Go.Proofs.YtpfdnggacpehdaaGreatDoor
open Go.RowKit Go.Lib

theorem ofInt64 (n : Nat) (h : n < 18446744073709551616) : (BitVec.ofInt 64 (n : Int)).toNat = n := by
  rw [BitVec.ofInt_natCast, BitVec.toNat_ofNat]; exact Nat.mod_eq_of_lt h
theorem xor_nat (a b : Nat) (ha : a < 18446744073709551616) (hb : b < 18446744073709551616) : bits .xor .u64 (a : Int) (b : Int) = ((a ^^^ b : Nat) : Int) := by
  have h := Nat.xor_lt_two_pow (n := 64) ha hb
  show IntKind.u64.wrap (((BitVec.ofInt 64 (a : Int)) ^^^ (BitVec.ofInt 64 (b : Int))).toNat : Int) = _
  rw [BitVec.toNat_xor, ofInt64 a ha, ofInt64 b hb, IntKind.wrap_u64]
  omega
theorem xor_zero (a : Nat) (ha : a < 18446744073709551616) : bits .xor .u64 (a : Int) 0 = (a : Int) := by
  have h := xor_nat a 0 ha (by decide)
  simpa using h
theorem xor_ones (a : Nat) (ha : a < 18446744073709551616) : bits .xor .u64 (a : Int) 18446744073709551615 = 18446744073709551615 - (a : Int) := by
  have h := xor_nat a 18446744073709551615 ha (by decide)
  have e : a ^^^ 18446744073709551615 = 18446744073709551615 - a := by
    have h1 := congrArg BitVec.toNat (BitVec.xor_allOnes (x := BitVec.ofNat 64 a))
    rw [BitVec.toNat_xor, BitVec.toNat_not, BitVec.toNat_allOnes, BitVec.toNat_ofNat, Nat.mod_eq_of_lt (show a < 2 ^ 64 from ha)] at h1
    exact h1
  rw [e] at h
  have e2 : ((18446744073709551615 - a : Nat) : Int) = 18446744073709551615 - (a : Int) := by omega
  rw [← e2, ← h]; rfl
theorem and_one (a : Nat) (ha : a < 18446744073709551616) : bits .and .u64 (a : Int) 1 = ((a % 2 : Nat) : Int) := by
  have h := (bits_nat .u64 64 (by decide) wraps_u64 a 1 ha (by decide)).1
  rw [Nat.and_one_is_mod] at h
  exact h

def backN (n : Nat) : Nat := if n % 2 = 0 then n / 2 else 18446744073709551615 - n / 2
def zagI (n : Nat) : Int := if n % 2 = 0 then (n / 2 : Nat) else -((n / 2 : Nat) : Int) - 1
def wideI (n : Nat) : Int := if n % 4294967296 < 2147483648 then ((n % 4294967296 : Nat) : Int) else ((n % 4294967296 : Nat) : Int) - 4294967296
def fitsB (a : Int) : Bool := decide (-2147483648 ≤ a ∧ a ≤ 2147483647)

theorem back_bits (n : Nat) (h : n < 18446744073709551616) : bits .xor .u64 ((n : Int) / 2) (IntKind.u64.wrap (-bits .and .u64 (n : Int) 1)) = (backN n : Int) := by
  rw [and_one n h]
  have e0 : (n : Int) / 2 = ((n / 2 : Nat) : Int) := by omega
  rw [e0]
  by_cases h1 : n % 2 = 0
  · have e2 : IntKind.u64.wrap (-((n % 2 : Nat) : Int)) = 0 := by rw [IntKind.wrap_u64]; omega
    rw [e2, xor_zero _ (by omega)]
    simp [backN, h1]
  · have e2 : IntKind.u64.wrap (-((n % 2 : Nat) : Int)) = 18446744073709551615 := by rw [IntKind.wrap_u64]; omega
    rw [e2, xor_ones _ (by omega)]
    simp only [backN, h1, if_false]; omega

theorem backN_lt (n : Nat) (h : n < 18446744073709551616) : backN n < 18446744073709551616 := by unfold backN; split <;> omega
theorem zag_back (n : Nat) (h : n < 18446744073709551616) : wrap64 (backN n : Int) = zagI n := by
  unfold wrap64 backN zagI; split <;> omega
theorem wide_wraps (n : Nat) : wrap64 (wrap32 (n : Int)) = wideI n := by
  unfold wrap64 wrap32 wideI; split <;> omega
end Go.Proofs.YtpfdnggacpehdaaGreatDoor
