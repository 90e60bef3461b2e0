/- Several texts in one: FlMath, SchMath. What each proves, and its conditions, stands at its own head. -/
import Derived.Test.YtakdkocobcicdaaPkTL9
import Derived.Test.YtakdkocobcicdaaChecked
import Derived.Test.YtakdkocobcicdaaPkTL0
import Derived.WalkKit
import Derived.OwnWalk
import Derived.RowKitTokens
import Derived.Lib.Hide
import Derived.BigQuiet
import Derived.Deep.QuietTactic
import Derived.IntWalk
import Derived.Laws.Cover1
import Derived.Deep.LoopGhost
import Derived.Lib.ConvBytes
import Derived.Test.YtakdkocobcicdaaPkTL1
/- Layer 14 in plain words (no program here): which fields may be, which are packed, which hidden, and their texts. -/
namespace Go.Proofs.Ytakdkocobcicdaa
open Go.RowKit
set_option linter.unusedVariables false

structure Fd where
  name : List UInt8
  num : Int
  ty : Int
  ref : List UInt8
  rep : Bool
  loose : Bool
  one : List UInt8
end Go.Proofs.Ytakdkocobcicdaa

/- Layer 15 in plain words (no program here): schemas, which may be, which are the same. -/
namespace Go.Proofs.Ytakdkocobcicdaa
open Go.RowKit
set_option linter.unusedVariables false

structure Vl where
  name : List UInt8
  num : Int
structure En where
  name : List UInt8
  values : List Vl
structure Ms where
  name : List UInt8
  fields : List Fd
  barred : List Int
structure Sc where
  enums : List En
  msgs : List Ms

/-! ### One more -/
end Go.Proofs.Ytakdkocobcicdaa
