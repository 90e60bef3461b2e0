/- Several texts in one: FxM. What each proves, and its conditions, stands at its own head. -/
import Derived.Test.YtmdekdmcnnbofaaDoorPkVD20
import Derived.Test.YtmdekdmcnnbofaaDoorPkVD3
import Derived.Maps.OwnSet
import Derived.Maps.OwnIn
import Derived.Below
import Derived.Test.YtmdekdmcnnbofaaDoorPkVD17
/- Maps from texts to numbers: what they hold, where they lie (no program here but the types' own facts). Conditions: those that each theorem names. -/
namespace Go.Proofs.YtmdekdmcnnbofaaDoor
open Go.RowKit Go.Maps Go.WideMaps Go.WideShapes
set_option linter.unusedVariables false
set_option maxRecDepth 100000
attribute [local go_sem] Oper.semAt_some

/-- What a map from names to numbers holds. -/
def MapIs (D : DataW Unit) (f : List UInt8 → Option Int) : Prop := IsMap D ∧ ∀ t, Maps.has D (.string t) = (f t).isSome ∧ ∀ z x, f t = some x → D.atKey (.string t) z = .lit (.int .i64 x)
theorem lit_ne {t u : List UInt8} (h : u ≠ t) : (Lit.string u) ≠ .string t := fun e => h (by injection e)
theorem mapIs_empty : MapIs (.map []) (fun _ => none) := ⟨isMap_empty, fun t => ⟨rfl, fun z x h => by cases h⟩⟩
theorem mapIs_put {D : DataW Unit} {f : List UInt8 → Option Int} (h : MapIs D f) (t : List UInt8) (x : Int) : MapIs (D.put (.string t) (.lit (.int .i64 x))) (fun u => if u = t then some x else f u) := by
  refine ⟨h.1.put _ _, fun u => ?_⟩
  dsimp only
  by_cases hu : u = t
  · subst hu
    rw [if_pos rfl]
    exact ⟨has_put_same h.1 (show WideAt.IsKeyLit (.string u) from trivial) _, fun z y hy => by cases hy; exact atKey_put_same h.1 (show WideAt.IsKeyLit (.string u) from trivial) _ _⟩
  · rw [if_neg hu]
    exact ⟨(has_put_other (lit_ne hu) _).trans (h.2 u).1, fun z y hy => (atKey_put_other (lit_ne hu) _ _).trans ((h.2 u).2 z y hy)⟩
theorem mapIs_congr {D : DataW Unit} {f g : List UInt8 → Option Int} (h : MapIs D f) (e : ∀ t, f t = g t) : MapIs D g := ⟨h.1, fun t => by rw [← e t]; exact h.2 t⟩

theorem zero_int (w : World) : (zeroValue 3).run Tryd.prog w = .ok (.int .i64 0) w := by kernel_rfl
theorem str_keyed : Keyed Tryd.prog 9 := string_keyed Tryd.underlying9
theorem str_key {t : List UInt8} (h : t.length ≤ 140737488351232) : keyOf Tryd.prog 9 (.string (strOf t)) = some (.string t) := by
  have h1 : (strOf t).size = t.length := str_size t
  have := keyOf_string_mk (P := Tryd.prog) (k := 9) (s := strOf t) Tryd.underlying9 (by rw [h1]; unfold maxLen; omega)
  rw [this]
  simp [strOf]

/-- The map in block bm holds f. -/
def MapAt (w : World) (bm n : Nat) (f : List UInt8 → Option Int) : Prop := ∃ D : DataW Unit, w.ownsMap Tryd.prog 9 (plainElem Tryd.prog 3) bm n D ∧ MapIs D f
theorem MapAt.kept {w w' : World} {bm n : Nat} {f : List UInt8 → Option Int} {row : Option Nat} (h : MapAt w bm n f) (hg : w.grownBy w' row) (hne : some bm ≠ row) : MapAt w' bm n f := by
  obtain ⟨D, h1, h2⟩ := h
  exact ⟨D, h1.kept hg hne, h2⟩
theorem MapAt.lt {w : World} {bm n : Nat} {f : List UInt8 → Option Int} (h : MapAt w bm n f) : bm < w.heap.size := by
  obtain ⟨D, h1, h2⟩ := h
  exact h1.lt
theorem MapAt.bel {w w' : World} {bm n : Nat} {f : List UInt8 → Option Int} (h : MapAt w bm n f) (hb : Below w.heap.size w w') : MapAt w' bm n f :=
  h.kept (row := none) ⟨hb.os, hb.tape, hb.output, hb.size, fun i hi _ => hb.block i hi⟩ (by simp)

end Go.Proofs.YtmdekdmcnnbofaaDoor
