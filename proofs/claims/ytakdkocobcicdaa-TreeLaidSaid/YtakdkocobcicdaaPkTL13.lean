/- Several texts in one: LstApp. What each proves, and its conditions, stands at its own head. -/
import Derived.Test.YtakdkocobcicdaaPkTL11
import Derived.Test.YtakdkocobcicdaaPkTL2
import Derived.Test.YtakdkocobcicdaaChecked
import Derived.Test.YtakdkocobcicdaaPkTL0
import Derived.WalkKit
import Derived.RowKitTokens
import Derived.OwnWalk
import Derived.Deep.RegionHeld3
/- append of lists of structs onto a row of the call's own, whatever they are; rows by the kind of their block. Conditions: those that each theorem names. -/
namespace Go.Proofs.Ytakdkocobcicdaa
open Go.RowKit
set_option linter.unusedVariables false
set_option maxRecDepth 100000

theorem own_typed {w : World} {base k n : Nat} {t : TypeId} {v : Value} {xs : List Value} (h : w.ownsRow base t k v n xs) {g : Nat} (hg : v.ownBlock = some g) : base ≤ g ∧ ∃ cs, w.heap[g]? = some (.cells cs t (0, 0)) := by
  rcases h.2 with ⟨rfl, _⟩ | ⟨g', cap, cur, rfl, hb, hh, _⟩
  · simp [Value.ownBlock] at hg
  · simp [Value.ownBlock] at hg
    subst hg
    exact ⟨hb, _, hh⟩
end Go.Proofs.Ytakdkocobcicdaa
