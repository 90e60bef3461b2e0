/- What came in by value as an array of three ints. Conditions: those that each theorem names. -/
import Derived.Test.YtdenhfhdobcfiaaDoorInts
import Derived.Test.YtdenhfhdobcfiaaDoorChecked
import Derived.Test.YtdenhfhdobcfiaaDoorScMath
import Derived.OpenShut
import Derived.ProofKit
namespace Go.Proofs.YtdenhfhdobcfiaaDoor
open Go.RowKit Go.ChangeShapes Go.WideShapes
set_option linter.unusedVariables false
set_option maxRecDepth 100000

theorem agg_array {P : Program} {W : World} {r : Reach} {b n : Nat} {k e : TypeId} {v : Value} (hu : P.underlying k = some (.array n e)) (h : Value.okWide P W r b k v) : ∃ xs : Array Value, v = .agg xs ∧ xs.size = P.cellsOf k := by
  simp only [Value.okWide, hu] at h
  obtain ⟨cs, h1, h2, _⟩ := h
  exact ⟨cs, h1, h2⟩
theorem agg_struct {P : Program} {W : World} {r : Reach} {b : Nat} {k : TypeId} {fs : Array Field} {v : Value} (hu : P.underlying k = some (.struct fs)) (h : Value.okWide P W r b k v) : ∃ xs : Array Value, v = .agg xs ∧ xs.size = P.cellsOf k := by
  simp only [Value.okWide, hu] at h
  obtain ⟨cs, h1, h2, _⟩ := h
  exact ⟨cs, h1, h2⟩
theorem cells_i3 : Tryd.prog.cellsOf 37 = 3 := by kernel_rfl
theorem cells_i3e : Tryd.prog.cellsOf 3 = 1 := by kernel_rfl
theorem i3_came {H : Type} {enc : TypeId × Value → H} {w : World} {base : Nat} {spare : Nat → Bool} {held : Bool} {xs : Array Value} {d : DataW H} {p : List MemPlace}
    (h : DataW.Trod enc Tryd.prog w base spare held 37 (.agg xs) d p) : ∃ a b c, xs = #[.int .i64 a, .int .i64 b, .int .i64 c] ∧ Int64 a ∧ Int64 b ∧ Int64 c := by
  obtain ⟨fuel, hf⟩ := h
  have hcs : (Value.agg xs).cells.toList = xs.toList := rfl
  rw [hcs] at hf
  obtain ⟨ys, m, rfl, _, hl, hn, he⟩ := DataW.trod_array Tryd.underlying37 hf
  rw [cells_i3] at hl
  rw [cells_i3e] at he
  obtain ⟨l⟩ := xs
  match l, hl, ys, hn with
  | [v0, v1, v2], _, [y0, y1, y2], _ =>
    have g0 : DataW.trod enc Tryd.prog w base spare held m 3 [v0] = some y0 := he 0 (by omega)
    have g1 : DataW.trod enc Tryd.prog w base spare held m 3 [v1] = some y1 := he 1 (by omega)
    have g2 : DataW.trod enc Tryd.prog w base spare held m 3 [v2] = some y2 := he 2 (by omega)
    obtain ⟨n0, q0, _, w0⟩ := DataW.trod_int Tryd.underlying3 g0
    obtain ⟨n1, q1, _, w1⟩ := DataW.trod_int Tryd.underlying3 g1
    obtain ⟨n2, q2, _, w2⟩ := DataW.trod_int Tryd.underlying3 g2
    simp at q0 q1 q2
    subst q0 q1 q2
    exact ⟨n0, n1, n2, rfl, i64_came w0, i64_came w1, i64_came w2⟩
end Go.Proofs.YtdenhfhdobcfiaaDoor
