/- The calls of package zig, and of the document's answer, each with what it returns, for every input; the world is as it was. -/
import Derived.Test.YtnbjpeefndcheaaDoorChecked
import Derived.Test.YtnbjpeefndcheaaDoorZigMath
import Derived.Test.YtnbjpeefndcheaaDoorInts
import Derived.WalkKit
import Derived.RowKitTokens
import Derived.Lib.Hide
namespace Go.Proofs.YtnbjpeefndcheaaDoor
open Go.RowKit
set_option linter.unusedVariables false
set_option maxRecDepth 100000

end Go.Proofs.YtnbjpeefndcheaaDoor
