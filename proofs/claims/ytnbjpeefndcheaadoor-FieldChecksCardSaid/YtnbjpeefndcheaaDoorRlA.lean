/- The document's digits, marks, words, and what it passes over. Conditions: those that each theorem names. -/
import Derived.Test.YtnbjpeefndcheaaDoorLexMath
import Derived.Test.YtnbjpeefndcheaaDoorInts
import Derived.IntWalk
namespace Go.Proofs.YtnbjpeefndcheaaDoor
open Go.RowKit
set_option linter.unusedVariables false
set_option maxRecDepth 100000

end Go.Proofs.YtnbjpeefndcheaaDoor
