/- Several texts in one: RlD. What each proves, and its conditions, stands at its own head. -/
import Derived.Test.YtcjjphioeneiiaaGreatDoorPkSB14
import Derived.Deep.RegionHeld3
import Derived.Deep.RegionWith
import Derived.Deep.LoopGhost
/- The document's number that a text begins with. Conditions: those that each theorem names. -/
namespace Go.Proofs.YtcjjphioeneiiaaGreatDoor
open Go.RowKit
set_option linter.unusedVariables false
set_option maxRecDepth 100000

section
variable {P : Program} {Q : Exit → Act → World → Prop} {md : Region.Mode} {S : World → Prop} {l rest : List Oper} {oi : Oper} {i fuel : Nat} {listed : Array Bool} {a : Act} {w : World}
theorem op_lit (hd : l.drop i = oi :: rest) : l.toArray[i]? = some oi := by
 rw [List.getElem?_toArray, ← List.head?_drop, hd]; rfl
/-- wpAnyH_take, the operation found in the list as it is written. -/
theorem take_lit {v : Value} (hd : l.drop i = oi :: rest) (hs : Region.noSelect l.toArray = true) (hf : Region.free md l.toArray listed i = true) (hr : (Region.ready md l.toArray listed).contains i = true)
 (hQ : ∀ c a w, Q (.panic c) (a.put oi.dst v) w → Q (.panic c) a w) (hy : YieldsIf P l.toArray S oi v a) (hS : S w)
 (h : wpAnyH P md l.toArray Q S fuel (listed.setIfInBounds i true) (a.put oi.dst v) w) : wpAnyH P md l.toArray Q S (fuel + 1) listed a w :=
 wpAnyH_take (op_lit hd) hs hf hr hQ hy hS h
theorem tl (i : Nat) (v : Value) (hy : ∀ w, S w → (execOp a.eval oi).run P w = .ok (.value v) w) (h : wpAnyH P md l.toArray Q S fuel (listed.setIfInBounds i true) (a.put oi.dst v) w)
 (hd : l.drop i = oi :: rest := by exact rfl) (hs : Region.noSelect l.toArray = true := by kernel_rfl) (hf : Region.free md l.toArray listed i = true := by kernel_rfl) (hr : (Region.ready md l.toArray listed).contains i = true := by kernel_rfl) (hQ : ∀ c a w, Q (.panic c) (a.put oi.dst v) w → Q (.panic c) a w := by exact (fun _ _ _ h => h)) (hw : Region.wanted oi (yielded l.toArray a.tmps) = true := by rfl) (hS : S w := by trivial) : wpAnyH P md l.toArray Q S (fuel + 1) listed a w :=
 take_lit hd hs hf hr hQ (.inl ⟨hw, hy⟩) hS h
theorem ts (i : Nat) (h : wpAnyH P md l.toArray Q S fuel (listed.setIfInBounds i true) (a.put oi.dst undef) w)
 (hd : l.drop i = oi :: rest := by exact rfl) (hs : Region.noSelect l.toArray = true := by kernel_rfl) (hf : Region.free md l.toArray listed i = true := by kernel_rfl) (hr : (Region.ready md l.toArray listed).contains i = true := by kernel_rfl) (hQ : ∀ c a w, Q (.panic c) (a.put oi.dst undef) w → Q (.panic c) a w := by exact (fun _ _ _ h => h)) (hw : Region.wanted oi (yielded l.toArray a.tmps) = false := by rfl) (hS : S w := by trivial) : wpAnyH P md l.toArray Q S (fuel + 1) listed a w :=
 take_lit hd hs hf hr hQ (.inr ⟨hw, rfl⟩) hS h
theorem ready_lit (hd : l.drop i = oi :: rest)
 (h : ∀ K' : Act → World → Prop, Shut (∀ a w, S w → (S w → wpAnyH P md l.toArray Q S fuel (listed.setIfInBounds i true) a w) → K' a w) → if Region.wanted oi (yielded l.toArray a.tmps) = true then Oper.wp P oi a w K' Q else K' (a.put oi.dst undef) w) : AllReadyH P md l.toArray Q S fuel listed a w [i] :=
 AllReadyH.cons (op_lit hd) h AllReadyH.nil
end
end Go.Proofs.YtcjjphioeneiiaaGreatDoor
