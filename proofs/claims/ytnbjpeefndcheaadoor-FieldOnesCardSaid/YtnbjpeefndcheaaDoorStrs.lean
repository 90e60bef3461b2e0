/- Lists of texts that came in (no program here). -/
import Derived.Test.YtnbjpeefndcheaaDoorBytes
namespace Go.Proofs.YtnbjpeefndcheaaDoor
open Go.RowKit

/-- The cells of texts. -/
def txts (ts : List (List UInt8)) : List Value := ts.map fun t => Value.string (strOf t)
theorem txts_length (ts : List (List UInt8)) : (txts ts).length = ts.length := by simp [txts]
theorem strOf_data (s : ByteArray) : strOf s.data.toList = s := by
  cases s
  simp [strOf]
theorem strs_came {w : World} {x : Addr} {len cap : Nat} {ss : List ByteArray} (hl : len ≤ cap) (hm : cap ≤ maxLen) (hz : ss.length = cap)
    (hcell : ∀ i, i < ss.length → w.cell? (x.add i) = some (.string (ss.getD i ByteArray.empty))) : ∃ ts : List (List UInt8), len = ts.length ∧ Sl w (some x) cap (txts ts) := by
  refine ⟨(ss.take len).map (·.data.toList), by simp; omega, ⟨by simp [txts]; omega, hm, (fun h => by cases h), fun j u hj => ?_⟩⟩
  simp only [txts, List.map_map, List.getElem?_map, Option.map_eq_some_iff, Function.comp] at hj
  obtain ⟨s, hs, rfl⟩ := hj
  have hj' := (List.getElem?_eq_some_iff.1 hs).1
  rw [List.length_take] at hj'
  have hc := hcell j (by omega)
  obtain ⟨b, off, rfl, e⟩ := plain_addr (hcell 0 (by omega))
  rw [e] at hc
  refine ⟨b, off, rfl, ?_⟩
  rw [hc, strOf_data]
  have : ss[j]? = some s := by rw [List.getElem?_take, if_pos (by omega)] at hs; exact hs
  simp [List.getD, this]
end Go.Proofs.YtnbjpeefndcheaaDoor
