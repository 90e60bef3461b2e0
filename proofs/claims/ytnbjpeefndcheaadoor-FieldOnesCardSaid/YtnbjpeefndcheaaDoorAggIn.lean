/- What came in by value as an array of three ints. Conditions: those that each theorem names. -/
import Derived.Test.YtnbjpeefndcheaaDoorInts
import Derived.Test.YtnbjpeefndcheaaDoorChecked
import Derived.Test.YtnbjpeefndcheaaDoorScMath
import Derived.OpenShut
import Derived.ProofKit
namespace Go.Proofs.YtnbjpeefndcheaaDoor
open Go.RowKit Go.ChangeShapes Go.WideShapes
set_option linter.unusedVariables false
set_option maxRecDepth 100000

theorem agg_array {P : Program} {W : World} {r : Reach} {b n : Nat} {k e : TypeId} {v : Value} (hu : P.underlying k = some (.array n e)) (h : Value.okWide P W r b k v) : ∃ xs : Array Value, v = .agg xs ∧ xs.size = P.cellsOf k := by
  simp only [Value.okWide, hu] at h
  obtain ⟨cs, h1, h2, _⟩ := h
  exact ⟨cs, h1, h2⟩
theorem agg_struct {P : Program} {W : World} {r : Reach} {b : Nat} {k : TypeId} {fs : Array Field} {v : Value} (hu : P.underlying k = some (.struct fs)) (h : Value.okWide P W r b k v) : ∃ xs : Array Value, v = .agg xs ∧ xs.size = P.cellsOf k := by
  simp only [Value.okWide, hu] at h
  obtain ⟨cs, h1, h2, _⟩ := h
  exact ⟨cs, h1, h2⟩
theorem cells_i3e : Tryd.prog.cellsOf 3 = 1 := by kernel_rfl
end Go.Proofs.YtnbjpeefndcheaaDoor
