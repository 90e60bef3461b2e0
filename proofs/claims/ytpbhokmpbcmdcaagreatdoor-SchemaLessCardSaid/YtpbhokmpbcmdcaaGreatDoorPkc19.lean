/- Several texts in one: ZigMath. What each proves, and its conditions, stands at its own head. -/
import Derived.Lib.BitFns
import Derived.Laws.BitsLemmas
import Derived.Lib.EndianBits
import Derived.RowKit
/- Plain arithmetic of signed numbers as unsigned ones (no program here). Conditions: none but those that each theorem names. -/
namespace Go.Proofs.YtpbhokmpbcmdcaaGreatDoor
open Go.RowKit Go.Lib

theorem ofInt64 (n : Nat) (h : n < 18446744073709551616) : (BitVec.ofInt 64 (n : Int)).toNat = n := by
  rw [BitVec.ofInt_natCast, BitVec.toNat_ofNat]; exact Nat.mod_eq_of_lt h
theorem xor_nat (a b : Nat) (ha : a < 18446744073709551616) (hb : b < 18446744073709551616) : bits .xor .u64 (a : Int) (b : Int) = ((a ^^^ b : Nat) : Int) := by
  have h := Nat.xor_lt_two_pow (n := 64) ha hb
  show IntKind.u64.wrap (((BitVec.ofInt 64 (a : Int)) ^^^ (BitVec.ofInt 64 (b : Int))).toNat : Int) = _
  rw [BitVec.toNat_xor, ofInt64 a ha, ofInt64 b hb, IntKind.wrap_u64]
  omega
theorem xor_zero (a : Nat) (ha : a < 18446744073709551616) : bits .xor .u64 (a : Int) 0 = (a : Int) := by
  have h := xor_nat a 0 ha (by decide)
  simpa using h
theorem xor_ones (a : Nat) (ha : a < 18446744073709551616) : bits .xor .u64 (a : Int) 18446744073709551615 = 18446744073709551615 - (a : Int) := by
  have h := xor_nat a 18446744073709551615 ha (by decide)
  have e : a ^^^ 18446744073709551615 = 18446744073709551615 - a := by
    have h1 := congrArg BitVec.toNat (BitVec.xor_allOnes (x := BitVec.ofNat 64 a))
    rw [BitVec.toNat_xor, BitVec.toNat_not, BitVec.toNat_allOnes, BitVec.toNat_ofNat, Nat.mod_eq_of_lt (show a < 2 ^ 64 from ha)] at h1
    exact h1
  rw [e] at h
  have e2 : ((18446744073709551615 - a : Nat) : Int) = 18446744073709551615 - (a : Int) := by omega
  rw [← e2, ← h]; rfl
theorem and_one (a : Nat) (ha : a < 18446744073709551616) : bits .and .u64 (a : Int) 1 = ((a % 2 : Nat) : Int) := by
  have h := (bits_nat .u64 64 (by decide) wraps_u64 a 1 ha (by decide)).1
  rw [Nat.and_one_is_mod] at h
  exact h

/-- What the shifts make of a number's bits, there and back. -/
def outN (n : Nat) : Nat := if n < 9223372036854775808 then 2 * n else 36893488147419103231 - 2 * n
def backN (n : Nat) : Nat := if n % 2 = 0 then n / 2 else 18446744073709551615 - n / 2
def zigN (a : Int) : Nat := if 0 ≤ a then (2 * a).toNat else (-2 * a - 1).toNat
def zagI (n : Nat) : Int := if n % 2 = 0 then (n / 2 : Nat) else -((n / 2 : Nat) : Int) - 1
def wideI (n : Nat) : Int := if n % 4294967296 < 2147483648 then ((n % 4294967296 : Nat) : Int) else ((n % 4294967296 : Nat) : Int) - 4294967296
def fitsB (a : Int) : Bool := decide (-2147483648 ≤ a ∧ a ≤ 2147483647)

theorem out_bits (n : Nat) (h : n < 18446744073709551616) : bits .xor .u64 (IntKind.u64.wrap ((n : Int) * 2)) (IntKind.u64.wrap (-((n : Int) / 9223372036854775808))) = (outN n : Int) := by
  by_cases h1 : n < 9223372036854775808
  · have e1 : IntKind.u64.wrap ((n : Int) * 2) = ((2 * n : Nat) : Int) := by rw [IntKind.wrap_u64]; omega
    have e2 : IntKind.u64.wrap (-((n : Int) / 9223372036854775808)) = 0 := by rw [IntKind.wrap_u64]; omega
    rw [e1, e2, xor_zero _ (by omega)]
    simp [outN, h1]
  · have e1 : IntKind.u64.wrap ((n : Int) * 2) = ((2 * n - 18446744073709551616 : Nat) : Int) := by rw [IntKind.wrap_u64]; omega
    have e2 : IntKind.u64.wrap (-((n : Int) / 9223372036854775808)) = 18446744073709551615 := by rw [IntKind.wrap_u64]; omega
    rw [e1, e2, xor_ones _ (by omega)]
    simp only [outN, h1, if_false]; omega
theorem back_bits (n : Nat) (h : n < 18446744073709551616) : bits .xor .u64 ((n : Int) / 2) (IntKind.u64.wrap (-bits .and .u64 (n : Int) 1)) = (backN n : Int) := by
  rw [and_one n h]
  have e0 : (n : Int) / 2 = ((n / 2 : Nat) : Int) := by omega
  rw [e0]
  by_cases h1 : n % 2 = 0
  · have e2 : IntKind.u64.wrap (-((n % 2 : Nat) : Int)) = 0 := by rw [IntKind.wrap_u64]; omega
    rw [e2, xor_zero _ (by omega)]
    simp [backN, h1]
  · have e2 : IntKind.u64.wrap (-((n % 2 : Nat) : Int)) = 18446744073709551615 := by rw [IntKind.wrap_u64]; omega
    rw [e2, xor_ones _ (by omega)]
    simp only [backN, h1, if_false]; omega

theorem outN_lt (n : Nat) (h : n < 18446744073709551616) : outN n < 18446744073709551616 := by unfold outN; split <;> omega
theorem backN_lt (n : Nat) (h : n < 18446744073709551616) : backN n < 18446744073709551616 := by unfold backN; split <;> omega
theorem zigN_lt (a : Int) (h0 : -9223372036854775808 ≤ a) (h : a < 9223372036854775808) : zigN a < 18446744073709551616 := by unfold zigN; split <;> omega
theorem zagI_lt (n : Nat) (h : n < 18446744073709551616) : -9223372036854775808 ≤ zagI n ∧ zagI n < 9223372036854775808 := by unfold zagI; split <;> omega
theorem zig_out (a : Int) (h0 : -9223372036854775808 ≤ a) (h : a < 9223372036854775808) : outN (IntKind.u64.wrap a).toNat = zigN a := by
  rw [IntKind.wrap_u64]; unfold outN zigN; split <;> split <;> omega
theorem u64_nat (a : Int) : IntKind.u64.wrap a = ((IntKind.u64.wrap a).toNat : Int) ∧ (IntKind.u64.wrap a).toNat < 18446744073709551616 := by
  rw [IntKind.wrap_u64]; omega
theorem zag_back (n : Nat) (h : n < 18446744073709551616) : wrap64 (backN n : Int) = zagI n := by
  unfold wrap64 backN zagI; split <;> omega
theorem zag_zig (a : Int) (h0 : -9223372036854775808 ≤ a) (h : a < 9223372036854775808) : zagI (zigN a) = a := by
  unfold zagI zigN; split <;> split <;> omega
theorem zig_zag (n : Nat) : zigN (zagI n) = n := by
  unfold zagI zigN; split <;> split <;> omega
theorem zig_near (a b : Int) (h : (a.natAbs : Int) < b.natAbs) : zigN a < zigN b := by
  unfold zigN; split <;> split <;> omega
theorem wide_wraps (n : Nat) : wrap64 (wrap32 (n : Int)) = wideI n := by
  unfold wrap64 wrap32 wideI; split <;> omega
theorem wide_low (a : Int) (h0 : -9223372036854775808 ≤ a) (h : a < 9223372036854775808) : (wideI (a % 4294967296).toNat == a) = fitsB a := by
  rw [Bool.eq_iff_iff]
  unfold wideI fitsB
  simp only [beq_iff_eq, decide_eq_true_eq]
  split <;> omega
theorem wide_bounds (n : Nat) : -2147483648 ≤ wideI n ∧ wideI n < 2147483648 := by unfold wideI; split <;> omega
end Go.Proofs.YtpbhokmpbcmdcaaGreatDoor
