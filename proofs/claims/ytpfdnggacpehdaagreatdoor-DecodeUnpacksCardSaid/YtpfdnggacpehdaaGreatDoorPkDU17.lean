/- Several texts in one: FxM. What each proves, and its conditions, stands at its own head. -/
import Derived.Test.YtpfdnggacpehdaaGreatDoorPkDU16
import Derived.Test.YtpfdnggacpehdaaGreatDoorPkDU2
import Derived.Maps.OwnSet
import Derived.Maps.OwnIn
import Derived.Below
import Derived.Test.YtpfdnggacpehdaaGreatDoorPkDU14
/- Maps from texts to numbers: what they hold, where they lie (no program here but the types' own facts). Conditions: those that each theorem names. -/
namespace Go.Proofs.YtpfdnggacpehdaaGreatDoor
open Go.RowKit Go.Maps Go.WideMaps Go.WideShapes
set_option linter.unusedVariables false
set_option maxRecDepth 100000
attribute [local go_sem] Oper.semAt_some

/-- What a map from names to numbers holds. -/
def MapIs (D : DataW Unit) (f : List UInt8 → Option Int) : Prop := IsMap D ∧ ∀ t, Maps.has D (.string t) = (f t).isSome ∧ ∀ z x, f t = some x → D.atKey (.string t) z = .lit (.int .i64 x)
/-- The map in block bm holds f. -/
def MapAt (w : World) (bm n : Nat) (f : List UInt8 → Option Int) : Prop := ∃ D : DataW Unit, w.ownsMap Tryz.prog 9 (plainElem Tryz.prog 3) bm n D ∧ MapIs D f
theorem MapAt.kept {w w' : World} {bm n : Nat} {f : List UInt8 → Option Int} {row : Option Nat} (h : MapAt w bm n f) (hg : w.grownBy w' row) (hne : some bm ≠ row) : MapAt w' bm n f := by
  obtain ⟨D, h1, h2⟩ := h
  exact ⟨D, h1.kept hg hne, h2⟩
theorem MapAt.lt {w : World} {bm n : Nat} {f : List UInt8 → Option Int} (h : MapAt w bm n f) : bm < w.heap.size := by
  obtain ⟨D, h1, h2⟩ := h
  exact h1.lt
theorem MapAt.bel {w w' : World} {bm n : Nat} {f : List UInt8 → Option Int} (h : MapAt w bm n f) (hb : Below w.heap.size w w') : MapAt w' bm n f :=
  h.kept (row := none) ⟨hb.os, hb.tape, hb.output, hb.size, fun i hi _ => hb.block i hi⟩ (by simp)

end Go.Proofs.YtpfdnggacpehdaaGreatDoor
