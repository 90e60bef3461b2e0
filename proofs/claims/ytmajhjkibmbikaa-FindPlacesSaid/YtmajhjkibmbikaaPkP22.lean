/- Several texts in one: SchLaw. What each proves, and its conditions, stands at its own head. -/
import Derived.Test.YtmajhjkibmbikaaPkP13
import Derived.Test.YtmajhjkibmbikaaPkP16
import Derived.Test.YtmajhjkibmbikaaChecked
import Derived.Test.YtmajhjkibmbikaaPkP9
import Derived.Test.YtmajhjkibmbikaaPkP0
import Derived.WalkKit
import Derived.OwnWalk
import Derived.RowKitTokens
import Derived.Lib.Hide
import Derived.Lib.BitFns
import Derived.Laws.BitsLemmas
import Derived.Lib.EndianBits
import Derived.RowKit
import Derived.Test.YtmajhjkibmbikaaPkP2
import Derived.Test.YtmajhjkibmbikaaPkP7
import Derived.Test.YtmajhjkibmbikaaPkP11
import Derived.IntWalk
import Derived.Deep.RegionHeld3
import Derived.Test.YtmajhjkibmbikaaPkP21
import Derived.Deep.RegionWith
import Derived.Test.YtmajhjkibmbikaaPkP17
/- What is asked of the program's layer 15, and its laws: SchemaChecks. Conditions: those that each theorem names. -/
namespace Go.Proofs.Ytmajhjkibmbikaa
open Go.RowKit
set_option linter.unusedVariables false
set_option maxRecDepth 100000

/-- A list that lies in a block of its own, whole. -/
theorem lst_block {α : Type} {k : Nat} {S : Nat → Prop} {R : World → List Value → α → Prop} {w : World} {g : Nat} {cs : Array Value} {t : TypeId} {l : List α} {f : α → List Value} (h : w.heap[g]? = some (.cells cs t (0, 0))) (hc : cs.toList = l.flatMap f) (hf : ∀ x, (f x).length = k) (hR : ∀ x ∈ l, R w (f x) x) (hS : S g) (hm : l.length ≤ maxLen) :
    Lst k S R w (some ⟨g, 0, none⟩) l.length l :=
  ⟨Nat.le_refl _, hm, (fun e => by cases e), fun j x hj => ⟨g, 0, f x, rfl, hS, hf x, hR x (List.mem_of_getElem? hj), fun i u hu => by
    have hi : i < k := by have := (List.getElem?_eq_some_iff.mp hu).1; rw [hf] at this; exact this
    rw [cell_of_row _ g (0 + j * k + i) cs t (0, 0) h, ← Array.getElem?_toList, hc, Nat.zero_add, Nat.mul_comm j k]
    exact (flat_get f k hf l j x i hj hi).trans hu⟩⟩
def lvF : Fd := ⟨[97], 1, 15, [77], false, false, []⟩
def lvS : Sc := ⟨[], [⟨[77], [lvF], []⟩]⟩
theorem lv_small : smallT lvS = true := by decide +kernel
theorem lv_ok : ScOk lvS := by
  unfold ScOk lvS MsOk FdOk lvF lenM Int64
  simp
end Go.Proofs.Ytmajhjkibmbikaa
