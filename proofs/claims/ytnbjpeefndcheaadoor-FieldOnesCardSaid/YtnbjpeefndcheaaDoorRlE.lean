/- The document's text that a text begins with. Conditions: those that each theorem names. -/
import Derived.Test.YtnbjpeefndcheaaDoorLexTxt
import Derived.Test.YtnbjpeefndcheaaDoorGives
import Derived.Test.YtnbjpeefndcheaaDoorInts
import Derived.IntWalk
import Derived.Deep.LoopGhost
namespace Go.Proofs.YtnbjpeefndcheaaDoor
open Go.RowKit
set_option linter.unusedVariables false
set_option maxRecDepth 100000

def textV2 (r : List UInt8 × Nat) : Value := .tuple #[.string (strOf r.1), .int .i64 (r.2 : Int)]
end Go.Proofs.YtnbjpeefndcheaaDoor
