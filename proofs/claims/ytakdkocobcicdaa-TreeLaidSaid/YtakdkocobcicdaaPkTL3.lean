/- Several texts in one: FixMath. What each proves, and its conditions, stands at its own head. -/
import Derived.Lib.BitFns
import Derived.Laws.BitsLemmas
import Derived.Lib.EndianBits
import Derived.RowKit
/- Plain arithmetic of numbers as bytes, the lowest one first (no program here). Conditions: none but those that each theorem names. -/
namespace Go.Proofs.Ytakdkocobcicdaa
open Go.RowKit Go.Lib
set_option linter.unusedVariables false

/-- So many bytes of a number. -/
def le : Nat → Nat → List UInt8
  | 0, _ => []
  | k + 1, n => (n % 256).toUInt8 :: le k (n / 256)
/-- The number of bytes. -/
def num : List UInt8 → Nat
  | [] => 0
  | b :: bs => b.toNat + 256 * num bs

end Go.Proofs.Ytakdkocobcicdaa
