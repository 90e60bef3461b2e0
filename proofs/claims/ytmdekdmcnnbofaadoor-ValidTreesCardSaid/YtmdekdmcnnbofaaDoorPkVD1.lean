/- Several texts in one: FixMath, ZigMath. What each proves, and its conditions, stands at its own head. -/
import Derived.Lib.BitFns
import Derived.Laws.BitsLemmas
import Derived.Lib.EndianBits
import Derived.RowKit
/- Plain arithmetic of numbers as bytes, the lowest one first (no program here). Conditions: none but those that each theorem names. -/
namespace Go.Proofs.YtmdekdmcnnbofaaDoor
open Go.RowKit Go.Lib
set_option linter.unusedVariables false

/-- So many bytes of a number. -/
def le : Nat → Nat → List UInt8
  | 0, _ => []
  | k + 1, n => (n % 256).toUInt8 :: le k (n / 256)
/-- The number of bytes. -/
def num : List UInt8 → Nat
  | [] => 0
  | b :: bs => b.toNat + 256 * num bs

end Go.Proofs.YtmdekdmcnnbofaaDoor

/- Plain arithmetic of signed numbers as unsigned ones (no program here). Conditions: none but those that each theorem names. -/
namespace Go.Proofs.YtmdekdmcnnbofaaDoor
open Go.RowKit Go.Lib

def wideI (n : Nat) : Int := if n % 4294967296 < 2147483648 then ((n % 4294967296 : Nat) : Int) else ((n % 4294967296 : Nat) : Int) - 4294967296
def fitsB (a : Int) : Bool := decide (-2147483648 ≤ a ∧ a ≤ 2147483647)

theorem wide_wraps (n : Nat) : wrap64 (wrap32 (n : Int)) = wideI n := by
  unfold wrap64 wrap32 wideI; split <;> omega
theorem wide_low (a : Int) (h0 : -9223372036854775808 ≤ a) (h : a < 9223372036854775808) : (wideI (a % 4294967296).toNat == a) = fitsB a := by
  rw [Bool.eq_iff_iff]
  unfold wideI fitsB
  simp only [beq_iff_eq, decide_eq_true_eq]
  split <;> omega
end Go.Proofs.YtmdekdmcnnbofaaDoor
