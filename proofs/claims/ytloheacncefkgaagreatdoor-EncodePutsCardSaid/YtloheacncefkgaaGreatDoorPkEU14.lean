/- Several texts in one: RegLit. What each proves, and its conditions, stands at its own head. -/
import Derived.Test.YtloheacncefkgaaGreatDoorChecked
import Derived.Deep.RegionHeld3
import Derived.Deep.RegionWith
import Derived.WalkKit
import Derived.RowKitTokens
/- Steps through a region that draws its order, by hand: an operation that is taken, or passed over; one that comes up alone. Conditions: those that each theorem names. -/
namespace Go.Proofs.YtloheacncefkgaaGreatDoor
open Go.RowKit
set_option linter.unusedVariables false

section
variable {P : Program} {Q : Exit → Act → World → Prop} {md : Region.Mode} {S : World → Prop} {l rest : List Oper} {oi : Oper} {i fuel : Nat} {listed : Array Bool} {a : Act} {w : World}
theorem op_at (hd : l.drop i = oi :: rest) : l.toArray[i]? = some oi := by
 rw [List.getElem?_toArray, ← List.head?_drop, hd]; rfl
/-- wpAnyH_take, the operation found in the list as it is written. -/
theorem take_at {v : Value} (hd : l.drop i = oi :: rest) (hs : Region.noSelect l.toArray = true) (hf : Region.free md l.toArray listed i = true) (hr : (Region.ready md l.toArray listed).contains i = true)
 (hQ : ∀ c a w, Q (.panic c) (a.put oi.dst v) w → Q (.panic c) a w) (hy : YieldsIf P l.toArray S oi v a) (hS : S w)
 (h : wpAnyH P md l.toArray Q S fuel (listed.setIfInBounds i true) (a.put oi.dst v) w) : wpAnyH P md l.toArray Q S (fuel + 1) listed a w :=
 wpAnyH_take (op_at hd) hs hf hr hQ hy hS h
theorem ready_at (hd : l.drop i = oi :: rest)
 (h : ∀ K' : Act → World → Prop, Shut (∀ a w, S w → (S w → wpAnyH P md l.toArray Q S fuel (listed.setIfInBounds i true) a w) → K' a w) → if Region.wanted oi (yielded l.toArray a.tmps) = true then Oper.wp P oi a w K' Q else K' (a.put oi.dst undef) w) : AllReadyH P md l.toArray Q S fuel listed a w [i] :=
 AllReadyH.cons (op_at hd) h AllReadyH.nil
end
end Go.Proofs.YtloheacncefkgaaGreatDoor
