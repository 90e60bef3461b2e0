/- Several texts in one: TxtApp. What each proves, and its conditions, stands at its own head. -/
import Derived.Test.YtmdekdmcnnbofaaDoorPkVD0
import Derived.Test.YtmdekdmcnnbofaaDoorPkVD3
import Derived.Deep.RegionHeld3
/- append of texts onto a row of texts of the call's own, as a step of a region that draws its order; a literal list of texts. Conditions: those that each theorem names. -/
namespace Go.Proofs.YtmdekdmcnnbofaaDoor
open Go.RowKit
set_option linter.unusedVariables false
set_option maxRecDepth 100000

/-- A literal list of texts. -/
theorem sl_txts (w : World) (cs : Array Value) (t : TypeId) (ts : List (List UInt8)) (hc : cs.toList = txts ts) (hm : ts.length ≤ maxLen) : Sl (w.alloc (.cells cs t)) (some ⟨w.heap.size, 0, none⟩) ts.length (txts ts) := by
  refine ⟨by rw [txts_length]; exact Nat.le_refl _, hm, (fun h => by cases h), fun j u hj => ⟨_, _, rfl, ?_⟩⟩
  rw [cell_of_row _ w.heap.size (0 + j) cs t (0, 0) (heap_alloc_new w _), Nat.zero_add, ← Array.getElem?_toList, hc]
  exact hj
theorem sl_txt1 (w : World) (t : TypeId) (x : List UInt8) (sx : ByteArray) (h : sx = strOf x) : Sl (w.alloc (.cells #[.string sx] t)) (some ⟨w.heap.size, 0, none⟩) 1 (txts [x]) := sl_txts w _ t [x] (by rw [h]; rfl) (by show 1 ≤ maxLen; decide)
/-- An empty row of the call's own, off its block. -/
theorem own_block0 {W : World} {g base : Nat} (h : W.heap[g]? = some (.cells #[] 9 (0, 0))) (hb : base ≤ g) : W.ownsRow base 9 1 (.slice (some ⟨g, 0, none⟩) 0 0) 0 (txts []) :=
  ⟨rfl, .inr ⟨g, 0, #[], rfl, hb, h, Nat.le_refl _, by decide, rfl, rfl⟩⟩
end Go.Proofs.YtmdekdmcnnbofaaDoor
