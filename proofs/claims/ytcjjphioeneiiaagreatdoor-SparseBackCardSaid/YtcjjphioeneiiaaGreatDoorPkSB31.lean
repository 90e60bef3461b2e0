/- Several texts in one: RlG. What each proves, and its conditions, stands at its own head. -/
import Derived.Test.YtcjjphioeneiiaaGreatDoorPkSB14
import Derived.Test.YtcjjphioeneiiaaGreatDoorPkSB0
import Derived.IntWalk
import Derived.Deep.LoopGhost
import Derived.Test.YtcjjphioeneiiaaGreatDoorPkSB4
import Derived.Deep.AppendLies
/- The document's tokens of a text. Conditions: what number answers; those that each theorem names. -/
namespace Go.Proofs.YtcjjphioeneiiaaGreatDoor
open Go.RowKit
set_option linter.unusedVariables false
set_option maxRecDepth 100000

/-- What All answers. -/
def RAllTo (w : World) (R : List Tk × Nat × Int) (e : Ending) (w' : World) : Prop :=
 ∃ A cap, e = .returned (.tuple #[.slice A R.1.length cap, .int .i64 (R.2.1 : Int), .int .i64 R.2.2]) ∧ Toks w' A cap R.1 ∧ Below w.heap.size w w'
theorem news_tk (w : World) (cs : List Value) (t : TypeId) : ∀ j u, cs[j]? = some u → (w.alloc (.cells cs.toArray t)).cell? ((⟨w.heap.size, 0, none⟩ : Addr).add j) = some u := fun j u hu => World.news_of_block (heap_alloc_new w _) j u hu

end Go.Proofs.YtcjjphioeneiiaaGreatDoor
