/- Several texts in one: SchIn, SchAt, SchTwo. What each proves, and its conditions, stands at its own head. -/
import Derived.Test.YtakdkocobcicdaaChecked
import Derived.Test.YtakdkocobcicdaaPkTL10
import Derived.Test.YtakdkocobcicdaaPkTL5
import Derived.Test.YtakdkocobcicdaaPkTL0
import Derived.OpenShut
import Derived.ProofKit
import Derived.SizedLaws
import Derived.Test.YtakdkocobcicdaaPkTL1
import Derived.WalkKit
import Derived.OwnWalk
import Derived.RowKitTokens
import Derived.Lib.Hide
import Derived.BigQuiet
import Derived.Deep.QuietTactic
import Derived.IntWalk
import Derived.Deep.LoopGhost
import Derived.Laws.Cover1
/- Schemas in memory: what is read, what came in. Conditions: those that each theorem names. -/
namespace Go.Proofs.Ytakdkocobcicdaa
open Go.RowKit Go.ChangeShapes Go.WideShapes
set_option linter.unusedVariables false
set_option maxRecDepth 100000

section
variable {S S' : Nat → Nat → Prop} {w w' : World} {cs : List Value}
end

section
variable {H : Type} {enc : TypeId × Value → H} {w : World} {base : Nat} {spare : Nat → Bool} {held : Bool} {fuel : Nat} {cs : List Value} {x : DataW H × List MemPlace}
instance : Inhabited Vl := ⟨⟨[], 0⟩⟩
instance : Inhabited Fd := ⟨⟨[], 0, 0, [], false, false, []⟩⟩
instance : Inhabited En := ⟨⟨[], []⟩⟩
instance : Inhabited Ms := ⟨⟨[], [], []⟩⟩
end
end Go.Proofs.Ytakdkocobcicdaa

/- Schemas in memory, as the walks ask for them: a schema that was handed over, one thing of a list, the box that a call keeps it in. Conditions: those that each theorem names. -/
namespace Go.Proofs.Ytakdkocobcicdaa
open Go.RowKit
set_option linter.unusedVariables false
set_option maxRecDepth 100000

/-- The call's own box stands as it was made; all that is older is as it was. -/
structure Bx (w wr : World) (o : Obj) : Prop where
  b_bel : Below w.heap.size w wr
  b_blk : wr.heap[w.heap.size]? = some o
theorem bx_start (w : World) (cs : Array Value) (t : TypeId) : Bx w (w.alloc (.cells cs t)) (.cells cs t (0, 0)) := ⟨(Below.refl _ w).alloc (Nat.le_refl _) _, heap_alloc_new w _⟩
theorem bx_step {w wr w2 : World} {o : Obj} (h : Bx w wr o) (hb : Below wr.heap.size wr w2) : Bx w w2 o := ⟨h.b_bel.trans (hb.mono h.b_bel.size), (hb.block _ (lt_of_block h.b_blk)).trans h.b_blk⟩
theorem drewN_under (w : World) (n : Nat) : Below w.heap.size w (w.drewN n) := ⟨rfl, rfl, rfl, Nat.le_refl _, fun _ _ => rfl⟩
theorem cell_under {w wr : World} {p : Addr} {v : Value} (hb : Below w.heap.size w wr) (h : w.cell? p = some v) : wr.cell? p = some v := (hb.cell (World.block_lt_of_cell? w _ h)).trans h
section
variable {S : Nat → Prop} {w : World} {A : Option Addr} {cap i : Nat}
end
end Go.Proofs.Ytakdkocobcicdaa

/- Two schemas side by side: what is the same, two boxes, numbers compared. Conditions: those that each theorem names. -/
namespace Go.Proofs.Ytakdkocobcicdaa
open Go.RowKit
set_option linter.unusedVariables false
set_option maxRecDepth 100000

instance : DecidableEq Vl := fun ⟨a, b⟩ ⟨c, d⟩ => if h : a = c ∧ b = d then .isTrue (by rw [h.1, h.2]) else .isFalse (fun e => by injection e with e1 e2; exact h ⟨e1, e2⟩)
instance : DecidableEq Fd := fun ⟨a, b, c, d, e, f, g⟩ ⟨a', b', c', d', e', f', g'⟩ =>
  if h : a = a' ∧ b = b' ∧ c = c' ∧ d = d' ∧ e = e' ∧ f = f' ∧ g = g' then .isTrue (by obtain ⟨rfl, rfl, rfl, rfl, rfl, rfl, rfl⟩ := h; rfl)
  else .isFalse (fun e => by injection e with e1 e2 e3 e4 e5 e6 e7; exact h ⟨e1, e2, e3, e4, e5, e6, e7⟩)
instance : DecidableEq En := fun ⟨a, b⟩ ⟨c, d⟩ => if h : a = c ∧ b = d then .isTrue (by rw [h.1, h.2]) else .isFalse (fun e => by injection e with e1 e2; exact h ⟨e1, e2⟩)
instance : DecidableEq Ms := fun ⟨a, b, x⟩ ⟨c, d, y⟩ => if h : a = c ∧ b = d ∧ x = y then .isTrue (by rw [h.1, h.2.1, h.2.2]) else .isFalse (fun e => by injection e with e1 e2 e3; exact h ⟨e1, e2, e3⟩)
instance : DecidableEq Sc := fun ⟨a, b⟩ ⟨c, d⟩ => if h : a = c ∧ b = d then .isTrue (by rw [h.1, h.2]) else .isFalse (fun e => by injection e with e1 e2; exact h ⟨e1, e2⟩)

theorem lists_eq {α : Type} {l m : List α} (hn : l.length = m.length) (h : ∀ (j : Nat) a b, l[j]? = some a → m[j]? = some b → a = b) : l = m :=
  List.ext_getElem hn (fun j h1 h2 => h j _ _ (List.getElem?_eq_getElem h1) (List.getElem?_eq_getElem h2))
/-- Two boxes of the call's own. -/
structure Bx2 (w wr : World) (o p : Obj) : Prop where
  b2_bel : Below w.heap.size w wr
  b2_one : wr.heap[w.heap.size]? = some o
  b2_two : wr.heap[w.heap.size + 1]? = some p
theorem bx2_start (w : World) (cs ds : Array Value) (t u : TypeId) : Bx2 w ((w.alloc (.cells cs t)).alloc (.cells ds u)) (.cells cs t (0, 0)) (.cells ds u (0, 0)) :=
  ⟨((Below.refl _ w).alloc (Nat.le_refl _) _).alloc (by simp) _, (Below.heap_alloc _ _ _ (by simp)).trans (heap_alloc_new w _), by have h := heap_alloc_new (w.alloc (.cells cs t)) (.cells ds u); rw [World.size_alloc] at h; exact h⟩
theorem bx2_step {w wr w2 : World} {o p : Obj} (h : Bx2 w wr o p) (hb : Below wr.heap.size wr w2) : Bx2 w w2 o p :=
  ⟨h.b2_bel.trans (hb.mono h.b2_bel.size), (hb.block _ (lt_of_block h.b2_one)).trans h.b2_one, (hb.block _ (lt_of_block h.b2_two)).trans h.b2_two⟩

end Go.Proofs.Ytakdkocobcicdaa
