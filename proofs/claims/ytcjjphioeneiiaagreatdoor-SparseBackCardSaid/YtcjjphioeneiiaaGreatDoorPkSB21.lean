/- Several texts in one: LwE. What each proves, and its conditions, stands at its own head. -/
import Derived.Test.YtcjjphioeneiiaaGreatDoorPkSB19
import Derived.Shelf.Strings.Replace
import Derived.Test.YtcjjphioeneiiaaGreatDoorChecked
import Derived.Shelf.Strings.BuilderX
/- The library's variables as the law's row lays them (`LexEnv`); the program's Quote. Conditions: LexEnv; those that each theorem names. -/
namespace Go.Proofs.YtcjjphioeneiiaaGreatDoor
open Go.RowKit Go.Sort
set_option linter.unusedVariables false
set_option maxRecDepth 100000

structure LexEnv (w : World) : Prop where
 dec : DecEnv w
 syn : ∃ tp p, w.var? Tryz.prog "strconv.ErrSyntax" = some #[.iface tp p]
 rng : ∃ tp p, w.var? Tryz.prog "strconv.ErrRange" = some #[.iface tp p]
 mxl : ∃ m, w.cell? ⟨1, 0, none⟩ = some (.int .i64 m)
theorem gv_syn : Tryz.prog.globalNamed "strconv.ErrSyntax" = some 2 := by kernel_rfl
theorem gv_rng : Tryz.prog.globalNamed "strconv.ErrRange" = some 3 := by kernel_rfl
theorem LexEnv.carry {w w' : World} (h : LexEnv w) (hb : Below w.heap.size w w') : LexEnv w' := by
 obtain ⟨h1, ⟨a, b, h2⟩, ⟨c, d, h3⟩, ⟨m, h4⟩⟩ := h
 exact ⟨h1.along hb, ⟨a, b, Joins.var_stays gv_syn h2 hb (Nat.le_refl _)⟩, ⟨c, d, Joins.var_stays gv_rng h3 hb (Nat.le_refl _)⟩, ⟨m, (hb.cell (p := ⟨1, 0, none⟩) (World.block_lt_of_cell? w _ h4)).trans h4⟩⟩

end Go.Proofs.YtcjjphioeneiiaaGreatDoor
