/- Several texts in one: StkA. What each proves, and its conditions, stands at its own head. -/
import Derived.Test.YtloheacncefkgaaGreatDoorChecked
import Derived.Test.YtloheacncefkgaaGreatDoorPkEU2
import Derived.Test.YtloheacncefkgaaGreatDoorPkEU0
import Derived.Test.YtloheacncefkgaaGreatDoorPkEU28
import Derived.WalkKit
import Derived.OwnWalk
import Derived.RowKitTokens
import Derived.Lib.Hide
import Derived.ArgAppend
import Derived.BigQuiet
import Derived.Deep.QuietTactic
import Derived.Lib.Small
import Derived.Lib.Walk
/- The list of the frames' ends in memory. Conditions: those that each theorem names. -/
namespace Go.Proofs.YtloheacncefkgaaGreatDoor
open Go.RowKit
set_option linter.unusedVariables false
set_option maxRecDepth 100000

/-- The list of the frames' ends: 'cap' may be less than what the block holds. -/
structure Stk (w : World) (g cap : Nat) (xs : List Nat) : Prop where
 row : ∃ cur : Array Value, w.heap[g]? = some (.cells cur 3 (0, 0)) ∧ cap ≤ cur.size ∧ cur.toList.take xs.length = ints xs
 le : xs.length ≤ cap
 max : cap ≤ maxLen
theorem Stk.keep {w w' : World} {g cap : Nat} {xs : List Nat} (h : Stk w g cap xs) (hk : w'.heap[g]? = w.heap[g]?) : Stk w' g cap xs := by
 obtain ⟨cur, h1, h2⟩ := h.row
 exact ⟨⟨cur, hk.trans h1, h2⟩, h.le, h.max⟩
theorem Stk.cell {w : World} {g cap : Nat} {xs : List Nat} (h : Stk w g cap xs) {j : Nat} {n : Nat} (hj : xs[j]? = some n) : w.cell? ⟨g, j, none⟩ = some (.int .i64 (n : Int)) := by
 obtain ⟨cur, h1, h2, h3⟩ := h.row
 rw [obj_cell h1 j, ← Array.getElem?_toList]
 have hlt := (List.getElem?_eq_some_iff.1 hj).1
 rw [← List.getElem?_take_of_lt hlt, h3, ints, List.getElem?_map, hj]
 rfl
theorem Stk.last {w : World} {g cap l : Nat} {r : List Nat} (h : Stk w g cap (l :: r).reverse) : w.cell? ⟨g, r.length, none⟩ = some (.int .i64 (l : Int)) :=
 h.cell (by rw [List.reverse_cons, List.getElem?_append_right (by simp)]; simp)

end Go.Proofs.YtloheacncefkgaaGreatDoor
