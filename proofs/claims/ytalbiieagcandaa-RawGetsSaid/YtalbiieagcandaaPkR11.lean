/- Several texts in one: FixMath. What each proves, and its conditions, stands at its own head. -/
import Derived.Lib.BitFns
import Derived.Laws.BitsLemmas
import Derived.Lib.EndianBits
import Derived.RowKit
/- Plain arithmetic of numbers as bytes, the lowest one first (no program here). Conditions: none but those that each theorem names. -/
namespace Go.Proofs.Ytalbiieagcandaa
open Go.RowKit Go.Lib
set_option linter.unusedVariables false

/-- So many bytes of a number. -/
def le : Nat → Nat → List UInt8
  | 0, _ => []
  | k + 1, n => (n % 256).toUInt8 :: le k (n / 256)
/-- The number of bytes. -/
def num : List UInt8 → Nat
  | [] => 0
  | b :: bs => b.toNat + 256 * num bs

theorem le_length : ∀ k n, (le k n).length = k
  | 0, _ => rfl
  | k + 1, n => by simp [le, le_length k]
theorem pow256 (k : Nat) : 256 ^ (k + 1) = 256 ^ k * 256 := Nat.pow_succ ..
theorem pow256_pos (k : Nat) : 0 < 256 ^ k := Nat.pow_pos (by decide)
theorem le_add : ∀ j k n, le (j + k) n = le j n ++ le k (n / 256 ^ j)
  | 0, k, n => by simp [le]
  | j + 1, k, n => by
    rw [show j + 1 + k = (j + k) + 1 by omega]
    simp only [le, List.cons_append]
    rw [le_add j k (n / 256), Nat.div_div_eq_div_mul, pow256, Nat.mul_comm 256]
theorem le_snoc (k n : Nat) : le (k + 1) n = le k n ++ [(n / 256 ^ k % 256).toUInt8] := by
  rw [le_add k 1 n]; rfl
theorem le_mod : ∀ k n m, n % 256 ^ k = m % 256 ^ k → le k n = le k m
  | 0, _, _, _ => rfl
  | k + 1, n, m, h => by
    rw [pow256, Nat.mul_comm, Nat.mod_mul, Nat.mod_mul] at h
    have h1 : n % 256 = m % 256 := by
      have := congrArg (· % 256) h
      simpa [Nat.add_mul_mod_self_left] using this
    have h2 : n / 256 % 256 ^ k = m / 256 % 256 ^ k := by omega
    simp only [le, h1, le_mod k _ _ h2]
theorem num_lt : ∀ bs, num bs < 256 ^ bs.length
  | [] => by decide
  | b :: bs => by
    have h1 := num_lt bs
    have h2 : b.toNat < 256 := b.toNat_lt
    rw [List.length_cons, pow256, num]
    omega
theorem num_le : ∀ k n, num (le k n) = n % 256 ^ k
  | 0, n => by simp [le, num, Nat.mod_one]
  | k + 1, n => by
    rw [le, num, num_le k, pow256, Nat.mul_comm (256 ^ k), Nat.mod_mul]
    have : (n % 256).toUInt8.toNat = n % 256 := by simp [Nat.toUInt8]
    omega
theorem num_append : ∀ a b, num (a ++ b) = num a + 256 ^ a.length * num b
  | [], b => by simp [num]
  | x :: a, b => by
    rw [List.cons_append, num, num_append a b, num, List.length_cons, pow256]
    rw [Nat.mul_add, ← Nat.mul_assoc, Nat.mul_comm 256 (256 ^ a.length)]
    omega
theorem num_zeros (bs : List UInt8) (h : bs.length = 4) : num (bs ++ [0, 0, 0, 0]) = num bs := by
  rw [num_append]; simp [num]
theorem num_drop (bs : List UInt8) (i : Nat) (h : i < bs.length) : num (bs.drop i) = bs[i].toNat + 256 * num (bs.drop (i + 1)) := by
  rw [List.drop_eq_getElem_cons h]; rfl
theorem num_take (bs : List UInt8) (i : Nat) (h : i < bs.length) : num (bs.take (i + 1)) = num (bs.take i) + 256 ^ i * bs[i].toNat := by
  rw [List.take_add_one, List.getElem?_eq_getElem h, num_append, List.length_take, Nat.min_eq_left (by omega)]
  simp [num]
/-- What is got of whatever bytes. -/
def getN (k : Nat) (bs : List UInt8) : Nat := if bs.length < k then 0 else num (bs.take k)
def isN (k : Nat) (bs : List UInt8) : Bool := decide (k ≤ bs.length)
theorem getN_lt (k : Nat) (bs : List UInt8) : getN k bs < 256 ^ k := by
  unfold getN
  split
  · exact pow256_pos k
  · have h := num_lt (bs.take k)
    rwa [List.length_take, Nat.min_eq_left (by omega)] at h
theorem getN_put (k n : Nat) (rest : List UInt8) : getN k (le k n ++ rest) = n % 256 ^ k := by
  have hl := le_length k n
  unfold getN
  rw [if_neg (by simp [hl])]
  rw [List.take_append_of_le_length (by omega), List.take_of_length_le (by omega), num_le]
theorem isN_put (k n : Nat) (rest : List UInt8) : isN k (le k n ++ rest) = true := by
  simp [isN, le_length]
theorem le_halves (low high : Nat) (hl : low < 4294967296) : le 8 (high * 4294967296 + low) = le 4 low ++ le 4 high := by
  rw [le_add 4 4, le_mod 4 (high * 4294967296 + low) low (by omega)]
  congr 2
  omega
/-- A byte of a number, by a shift. -/
theorem shr_byte (n i : Nat) (h : n < 18446744073709551616) (hi : i < 8) : (n >>> (8 * i)) % 256 = n / 256 ^ i % 256 := by
  rw [Nat.shiftRight_eq_div_pow, Nat.pow_mul]
end Go.Proofs.Ytalbiieagcandaa
