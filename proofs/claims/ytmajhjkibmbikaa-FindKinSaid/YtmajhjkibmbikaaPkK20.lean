/- Several texts in one: RfB. What each proves, and its conditions, stands at its own head. -/
import Derived.Test.YtmajhjkibmbikaaPkK19
import Derived.Test.YtmajhjkibmbikaaPkK12
import Derived.Test.YtmajhjkibmbikaaChecked
import Derived.Lib.BitFns
import Derived.Laws.BitsLemmas
import Derived.Lib.EndianBits
import Derived.RowKit
import Derived.Test.YtmajhjkibmbikaaPkK0
import Derived.WalkKit
import Derived.RowKitTokens
import Derived.Lib.Hide
import Derived.Test.YtmajhjkibmbikaaPkK2
import Derived.Test.YtmajhjkibmbikaaPkK3
import Derived.Test.YtmajhjkibmbikaaPkK14
import Derived.IntWalk
import Derived.Deep.RegionHeld3
/- The document's layer 14: Check, Packed, Hidden, Text of a field. Conditions: those that each theorem names. -/
namespace Go.Proofs.Ytmajhjkibmbikaa
open Go.RowKit
set_option linter.unusedVariables false
set_option maxRecDepth 100000

theorem ne_not (t : List UInt8) : decide (t ≠ []) = !decide (t = []) := by by_cases h : t = [] <;> simp [h]
theorem rfcheck_any (f : Fd) (w : World) : Calls Try.prog 56 #[fdV f] w fun e w' => e = .returned (.int .i64 (fcheckT f)) ∧ Below w.heap.size w w' :=
  rfcheck_core w (strOf f.name) (strOf f.ref) (strOf f.one) f.num f.ty f.rep f.loose (nameB f.name) (nameB f.one) (nameB f.ref) (decide (f.ref = [])) (decide (f.one = [])) (fieldB f.num) (numberT f.ty) (fcheckT f)
    (fun u => rname_any u f.name) (fun u => rname_any u f.one) (fun u => rname_any u f.ref) (fun u => rtagfield_any f.num u) (fun u => rsnumber_any f.ty u) (empty_facts f.ref) (empty_facts f.one)
    (by unfold fcheckT fc1 fc2 fc3 fc4; rw [ne_not f.one, ne_not f.ref])
end Go.Proofs.Ytmajhjkibmbikaa
