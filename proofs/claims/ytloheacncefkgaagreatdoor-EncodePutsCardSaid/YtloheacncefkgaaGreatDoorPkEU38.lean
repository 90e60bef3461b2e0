/- Several texts in one: VarG. What each proves, and its conditions, stands at its own head. -/
import Derived.Test.YtloheacncefkgaaGreatDoorChecked
import Derived.Test.YtloheacncefkgaaGreatDoorPkEU28
import Derived.Test.YtloheacncefkgaaGreatDoorPkEU0
import Derived.WalkKit
import Derived.Lib.Small
import Derived.Lib.Walk
import Derived.RowKitTokens
import Derived.Deep.LoopGhost
import Derived.BigQuiet
import Derived.Deep.QuietTactic
import Derived.Test.YtloheacncefkgaaGreatDoorPkEU30
import Derived.Test.YtloheacncefkgaaGreatDoorPkEU35
import Derived.Deep.DeepMust
import Derived.WalkSmall
/- The reference's Nums (whether two lists of numbers are the same) and All (all numbers of bytes): what they return; what was there is as it was. Conditions: those that each theorem names. -/
namespace Go.Proofs.YtloheacncefkgaaGreatDoor
open Go.RowKit
open Go.Lib (uvarint)

theorem info_u64 : (Tryz.prog.info? 61).map (fun i => (i.zero, i.size, i.bytes)) = some (some (.int .u64 0), 1, 8) := by kernel_rfl

theorem u64s_snoc (acc : List Nat) (m : Nat) : u64s acc ++ [.int .u64 (m : Int)] = u64s (acc ++ [m]) := by simp [u64s]
theorem one_u64 (x : Int) : ∀ u ∈ [Value.int .u64 x], u.oneCell' = true := by
 intro u hu; simp at hu; subst hu; rfl
theorem own0_u64 (w : World) : (w.alloc (.cells #[] 61)).ownsRow w.heap.size 61 1 (.slice (some ⟨w.heap.size, 0, none⟩) 0 0) 0 (u64s []) :=
 World.ownsRow_made w #[] 0 (Nat.le_refl _) (by decide) rfl

end Go.Proofs.YtloheacncefkgaaGreatDoor
