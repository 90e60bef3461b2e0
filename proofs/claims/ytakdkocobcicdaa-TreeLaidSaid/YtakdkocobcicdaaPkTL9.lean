/- Several texts in one: ScMath. What each proves, and its conditions, stands at its own head. -/
import Derived.Lib.BitFns
import Derived.Laws.BitsLemmas
import Derived.Lib.EndianBits
import Derived.RowKit
import Derived.Test.YtakdkocobcicdaaPkTL0
/- Layers 11 and 12 in plain words (no program here): the types, their words and kinds, which values they may have, and what stands on the wire. -/
namespace Go.Proofs.Ytakdkocobcicdaa
open Go.RowKit
set_option linter.unusedVariables false

def Int64 (a : Int) : Prop := -9223372036854775808 ≤ a ∧ a < 9223372036854775808
end Go.Proofs.Ytakdkocobcicdaa
