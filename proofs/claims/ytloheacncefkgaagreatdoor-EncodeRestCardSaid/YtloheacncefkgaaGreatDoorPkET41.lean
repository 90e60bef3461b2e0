/- Several texts in one: RdS. What each proves, and its conditions, stands at its own head. -/
import Derived.Test.YtloheacncefkgaaGreatDoorPkET40
import Derived.Test.YtloheacncefkgaaGreatDoorPkET27
import Derived.Test.YtloheacncefkgaaGreatDoorPkET4
import Derived.Test.YtloheacncefkgaaGreatDoorPkET0
import Derived.Test.YtloheacncefkgaaGreatDoorPkET2
import Derived.Test.YtloheacncefkgaaGreatDoorPkET3
import Derived.Test.YtloheacncefkgaaGreatDoorPkET20
import Derived.Test.YtloheacncefkgaaGreatDoorPkET31
import Derived.Deep.RegionHeld3
import Derived.Test.YtloheacncefkgaaGreatDoorPkET26
import Derived.Test.YtloheacncefkgaaGreatDoorPkET21
import Derived.Test.YtloheacncefkgaaGreatDoorPkET19
/- The document's layer 20: which slots are a field's; Knows. Conditions: those that each theorem names. -/
namespace Go.Proofs.YtloheacncefkgaaGreatDoor
open Go.RowKit
set_option linter.unusedVariables false
set_option maxRecDepth 100000

/-- The slot's boxes and its field's. -/
structure RdW (w : World) (fb : Nat) (O1 O2 O3 O4 : Obj) (u : World) : Prop where
  r_b : Bx3 w u O1 O2 O3
  r_f : u.heap[fb]? = some O4
theorem RdW.on {w u u' : World} {fb : Nat} {O1 O2 O3 O4 : Obj} (h : RdW w fb O1 O2 O3 O4 u) (hb : Below u.heap.size u u') : RdW w fb O1 O2 O3 O4 u' := ⟨bx3_step h.r_b hb, (hb.block _ (lt_of_block h.r_f)).trans h.r_f⟩
end Go.Proofs.YtloheacncefkgaaGreatDoor
