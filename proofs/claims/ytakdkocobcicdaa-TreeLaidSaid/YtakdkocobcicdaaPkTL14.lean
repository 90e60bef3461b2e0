/- Several texts in one: SxU. What each proves, and its conditions, stands at its own head. -/
import Derived.Test.YtakdkocobcicdaaPkTL11
import Derived.Shelf.Abstract
import Derived.Deep.RegionHeld3
import Derived.Test.YtakdkocobcicdaaChecked
import Derived.Test.YtakdkocobcicdaaPkTL0
import Derived.WalkKit
import Derived.OwnWalk
import Derived.RowKitTokens
import Derived.Lib.Hide
import Derived.BigQuiet
import Derived.Deep.QuietTactic
import Derived.IntWalk
import Derived.Laws.Cover1
import Derived.Deep.LoopGhost
import Derived.Test.YtakdkocobcicdaaPkTL1
import Derived.Test.YtakdkocobcicdaaPkTL6
import Derived.Lib.AppendZerosOnto
import Derived.Test.YtakdkocobcicdaaPkTL13
import Derived.Deep.RegionWith
import Derived.Deep.AppendLies
/- The program's copies of a value and of a field, and of lists of them. Conditions: those that each theorem names. -/
namespace Go.Proofs.Ytakdkocobcicdaa
open Go.RowKit
set_option linter.unusedVariables false
set_option maxRecDepth 100000

/-- 'append' off what it answers. -/
theorem wpList_append_x {P : Program} {w : World} {ops : Array Oper} {rest : List Oper} {o : Oper} {a : Act} {Q : Exit → Act → World → Prop} {t : TypeId} {v y : Value} (hgd : o.guard = none) (s x : Operand)
    (ho : o.op = .call { callee := .builtin .append, args := #[s, x], argTypes := #[t, t] }) (hs : a.eval s = v) (hx : a.eval x = y) {X : Value → World → Prop}
    (hr : ∃ v' w', (Builtin.append_ #[t, t] o.type #[v, y]).run P w = .ok v' w' ∧ X v' w') (h : ∀ v' w', X v' w' → wpList P ops Q rest (a.put o.dst v') w') : wpList P ops Q (o :: rest) a w := by
  obtain ⟨v', w', hr, hX⟩ := hr
  exact Lib.wpList_append_run w hgd s x t t ho v y hs hx v' w' hr (h v' w' hX)

theorem set_else {X : World} {p : Addr} {k : Nat} {v : Value} {o : Obj} (h : X.heap[k]? = some o) (hne : k ≠ p.block) : (X.setCell p v).heap[k]? = some o := (Below.heap_setCell X p v k hne).trans h

theorem bx2_drew1 {w wr : World} {o p : Obj} (h : Bx2 w wr o p) : Bx2 w wr.drew o p := bx2_step h (drewN_under wr 1)
/-- What is written there again changes nothing. -/
theorem bx2_same {w wr : World} {cs : Array Value} {t : TypeId} {p : Obj} (h : Bx2 w wr (.cells cs t (0, 0)) p) (j : Nat) {v : Value} (hv : cs.setIfInBounds j v = cs) : Bx2 w (wr.setCell ⟨w.heap.size, j, none⟩ v) (.cells cs t (0, 0)) p :=
  ⟨h.b2_bel.setCell (p := ⟨w.heap.size, j, none⟩) (Nat.le_refl _) v, by have := obj_set h.b2_one j v; rw [hv] at this; exact this, set_else h.b2_two (by show w.heap.size + 1 ≠ w.heap.size; omega)⟩

end Go.Proofs.Ytakdkocobcicdaa
