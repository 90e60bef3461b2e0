/- Several texts in one: OwnTx. What each proves, and its conditions, stands at its own head. -/
import Derived.Test.YtloheacncefkgaaGreatDoorPkEU25
import Derived.Test.YtloheacncefkgaaGreatDoorPkEU0
import Derived.Test.YtloheacncefkgaaGreatDoorPkEU21
/- A row of texts of the call's own: one of them read; a block of another kind stays when it grows. Conditions: those that each theorem names. -/
namespace Go.Proofs.YtloheacncefkgaaGreatDoor
open Go.RowKit
set_option linter.unusedVariables false
set_option maxRecDepth 100000

/-- Text j of a row of texts of the call's own. -/
theorem own_text {w : World} {base n : Nat} {v : Value} {ts : List (List UInt8)} (h : w.ownsRow base 9 1 v n (txts ts)) {j : Nat} {t : List UInt8} (ht : ts[j]? = some t) :
 ∃ g off cap, v = .slice (some ⟨g, off, none⟩) ts.length cap ∧ ts.length ≤ cap ∧ cap ≤ 9223372036854775807 ∧ w.cell? ⟨g, off + j, none⟩ = some (.string (strOf t)) := by
 obtain ⟨hn, A, cap, rfl, hsl⟩ := Sl.own h
 rw [txts_length] at hn
 obtain ⟨g, off, rfl, hc⟩ := hsl.at_ j (.string (strOf t)) (by unfold txts; rw [List.getElem?_map, ht]; rfl)
 have h1 := hsl.le
 have h2 := hsl.max
 rw [txts_length] at h1
 unfold maxLen at h2
 exact ⟨g, off, cap, by rw [txts_length], h1, h2, hc⟩
/-- A block of another kind is none of the row's, and stays when the row grows. -/
theorem own_beside {w w' : World} {base n g : Nat} {v : Value} {ts : List (List UInt8)} {cs : Array Value} {t : TypeId} (h : w.ownsRow base 9 1 v n (txts ts)) (hg : w.heap[g]? = some (.cells cs t (0, 0))) (ht : t ≠ 9) (hgr : w.grownBy w' v.ownBlock) : w'.heap[g]? = some (.cells cs t (0, 0)) := by
 refine (hgr.block g (lt_of_block hg) (fun e => ?_)).trans hg
 obtain ⟨_, cs', h2⟩ := own_typed h e.symm
 rw [hg] at h2
 injection h2 with h2
 injection h2 with _ h3
 exact ht h3

end Go.Proofs.YtloheacncefkgaaGreatDoor
