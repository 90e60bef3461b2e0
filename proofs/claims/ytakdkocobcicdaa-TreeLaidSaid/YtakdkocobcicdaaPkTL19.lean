/- Several texts in one: TrLv, RtE. What each proves, and its conditions, stands at its own head. -/
import Derived.Test.YtakdkocobcicdaaPkTL18
import Derived.Test.YtakdkocobcicdaaPkTL13
import Derived.Test.YtakdkocobcicdaaPkTL14
import Derived.Test.YtakdkocobcicdaaPkTL16
import Derived.Deep.RegionLaw
/- A row of the call's own that grows, each thing with fresh lists of its own (no program's function here). Conditions: those that each theorem names. -/
namespace Go.Proofs.Ytakdkocobcicdaa
open Go.RowKit
set_option linter.unusedVariables false
set_option maxRecDepth 100000

/-- A reading that is kept where its blocks stay. -/
def FamK {α : Type} (F : (Nat → Prop) → World → List Value → α → Prop) : Prop := ∀ (S S' : Nat → Prop) (w w' : World), (∀ g, S g → S' g) → Stay S w w' → ∀ cs x, F S w cs x → F S' w' cs x
theorem fam_tr (k : Nat) : FamK (fun S => trR S k) := fun S S' w w' hS hk => trR_keep hS hk k
theorem fam_va (k : Nat) : FamK (fun S => vaR (trR S k) S) := fun S S' w w' hS hk => vaR_keep (trR_keep hS hk k) hS hk
theorem fam_sl (k : Nat) : FamK (fun S => slR (trR S k) S) := fun S S' w w' hS hk => slR_keep (trR_keep hS hk k) hS hk
theorem fam_rw : FamK (fun _ => rwR) := fun S S' w w' hS hk cs x h => h
/-- A block from b on, of cells that may all be written. -/
def New (b : Nat) (w : World) (g : Nat) : Prop := b ≤ g ∧ g < w.heap.size ∧ ∃ cs t, w.heap[g]? = some (.cells cs t (0, 0))
theorem new_bel {b : Nat} {w w' : World} {g : Nat} (h : New b w g) (hb : Below w.heap.size w w') : New b w' g := by
  obtain ⟨h1, h2, cs, t, h3⟩ := h
  exact ⟨h1, Nat.lt_of_lt_of_le h2 hb.size, cs, t, (hb.block g h2).trans h3⟩
theorem new_less {b c : Nat} {w : World} {g : Nat} (hc : c ≤ b) (h : New b w g) : New c w g := ⟨Nat.le_trans hc h.1, h.2⟩
theorem new_set {b : Nat} {w : World} {p : Addr} {u : Value} {g : Nat} (h : New b w g) (hp : g ≠ p.block) : New b (w.setCell p u) g := by
  obtain ⟨h1, h2, cs, t, h3⟩ := h
  exact ⟨h1, by simpa [World.setCell] using h2, cs, t, (Below.heap_setCell _ _ _ _ hp).trans h3⟩
theorem new_grown {b : Nat} {w w' : World} {r : Option Nat} {g : Nat} (h : New b w g) (hg : w.grownBy w' r) (hr : r ≠ some g) : New b w' g := by
  obtain ⟨h1, h2, cs, t, h3⟩ := h
  exact ⟨h1, Nat.lt_of_lt_of_le h2 hg.size, cs, t, (hg.block g h2 (fun e => hr e.symm)).trans h3⟩
/-- The blocks of what a row's things hold. -/
def Dom (b : Nat) (w : World) (v : Value) (g : Nat) : Prop := New b w g ∧ v.ownBlock ≠ some g
/-- The row, from b on; what lay below c is as it was. -/
structure LvAt {α : Type} (F : (Nat → Prop) → World → List Value → α → Prop) (c b : Nat) (t : TypeId) (k : Nat) (w0 wr : World) (v : Value) (l : List α) : Prop where
  v_bel : Below c w0 wr
  v_row : OwnL b t k (F (Dom b wr v) wr) wr v l
  v_b : b ≤ wr.heap.size
theorem ownL_new {α : Type} {base k : Nat} {t : TypeId} {R : List Value → α → Prop} {w : World} {v : Value} {l : List α} (h : OwnL base t k R w v l) : ∀ g, v.ownBlock = some g → New base w g := by
  obtain ⟨css, h1, h2, h3⟩ := h
  intro g hg
  have hb := h3.lt g hg
  obtain ⟨_, cs, hc⟩ := own_typed h3 hg
  exact ⟨hb.1, hb.2, cs, t, hc⟩
section
variable {α : Type} {F : (Nat → Prop) → World → List Value → α → Prop} {c b k : Nat} {t : TypeId} {w0 wr w2 : World} {v : Value} {l : List α}
theorem lv_start (F : (Nat → Prop) → World → List Value → α → Prop) {c b : Nat} (t : TypeId) (k : Nat) {w0 wr : World} (h : Below c w0 wr) (hb : b ≤ wr.heap.size) : LvAt F c b t k w0 wr (.slice none 0 0) ([] : List α) :=
  ⟨h, ownL_nil _ _ _ _ _, hb⟩
theorem lv_bel (hF : FamK F) (h : LvAt F c b t k w0 wr v l) (hb : Below wr.heap.size wr w2) (hc : c ≤ wr.heap.size) : LvAt F c b t k w0 w2 v l :=
  ⟨h.v_bel.trans (hb.mono hc), ownL_bel h.v_row (fun cs x hx => hF _ _ _ _ (fun g ⟨a, e⟩ => ⟨new_bel a hb, e⟩) (stay_bel hb) cs x hx) hb, Nat.le_trans h.v_b hb.size⟩
/-- What it reads as. -/
theorem lv_lst (hF : FamK F) (h : LvAt F c b t k w0 wr v l) : ∃ A ca, v = .slice A l.length ca ∧ ∀ S : Nat → Prop, (∀ g, New b wr g → S g) → Lst k S (F S) wr A ca l := by
  obtain ⟨A, ca, e, _, _⟩ := ownL_form h.v_row
  subst e
  refine ⟨A, ca, rfl, fun S hS => ?_⟩
  have h2 : OwnL b t k (F S wr) wr (.slice A l.length ca) l := ownL_keep h.v_row (fun cs x hx => hF _ _ _ _ (fun g ⟨a, e⟩ => hS g a) (stay_refl _ _) cs x hx) (fun _ _ => rfl)
  obtain ⟨A', c', e, hL⟩ := ownL_lst (RR := F S) h2
  cases e
  exact hL S (fun g hg => hS g (ownL_new h2 g hg))
/-- One thing more, whose lists are newer than the row was. -/
theorem lv_append {P : Program} {u0 u1 u2 : World} {T : TypeId} {bytes : Nat} {i : TypeInfo} {z : Value} {cs : List Value} {x : α} {a : Addr} (hF : FamK F) (ty : TypeId) (ht : P.underlying T = some (.slice t)) (hi : P.info? t = some i) (hz : i.zero = some z)
    (hsize : i.size = k) (hby : i.bytes = bytes) (hzs : z.cells.size = k) (hk : 0 < k) (h : LvAt F c b t k w0 u0 v l) (hc : c ≤ b) (h01 : Below u0.heap.size u0 u1) (h12 : Below u1.heap.size u1 u2) (hx : F (New u0.heap.size u1) u1 cs x) (hcs : cs.length = k) (h1 : ∀ u ∈ cs, u.oneCell' = true)
    (hnews : ∀ j z, cs[j]? = some z → u2.cell? (a.add j) = some z) (hb1 : l.length ≤ 100000) (hb2 : bytes ≤ 1000) :
    ∃ v' w', (Builtin.append_ #[T, T] ty #[v, .slice (some a) 1 1]).run P u2 = .ok v' w' ∧ (LvAt F c b t k w0 w' v' (l ++ [x]) ∧ u2.grownBy w' v.ownBlock ∧ (∃ A n c, v' = .slice A n c) ∧ (∀ q o, q < b → u2.heap[q]? = some o → w'.heap[q]? = some o)) := by
  have hlt : ∀ g, v.ownBlock = some g → g < u0.heap.size := fun g hg => (ownL_blk h.v_row g hg).2
  have h02 : Below u0.heap.size u0 u2 := h01.trans (h12.mono h01.size)
  have hrow : OwnL b t k (F (Dom b u2 v) u2) u2 v l := ownL_bel h.v_row (fun cs x hx => hF _ _ _ _ (fun g ⟨a, e⟩ => ⟨new_bel a h02, e⟩) (stay_bel h02) cs x hx) h02
  have hx2 : F (Dom b u2 v) u2 cs x := hF _ _ _ _ (fun g a => ⟨new_less h.v_b (new_bel a h12), fun e => by have := hlt g e; have := a.1; omega⟩) (stay_bel h12) cs x hx
  obtain ⟨v', w', hr, ho, hg, hm⟩ := ownL_append ty ht hi hz hsize hby hzs hk hrow hx2 hcs h1 hnews hb1 hb2 (Nat.le_trans h.v_b h02.size)
  have hbs := h.v_b
  have hs2 := h02.size
  refine ⟨v', w', hr, ⟨(h.v_bel.trans (h02.mono (by omega))).grown hg (by omega) (fun g hgg => by have := (ownL_blk h.v_row g hgg).1; omega), ownL_keep ho (fun cs x hx => hF _ _ _ _ (fun g ⟨a, e⟩ => ⟨new_grown a hg e, fun e' => ?_⟩) (fun p ⟨a, e⟩ hp => World.cell?_of_block (hg.block _ hp (fun e' => e e'.symm))) cs x hx) (fun _ _ => rfl), by have := hg.size; omega⟩, hg, ownL_slc ho, fun q o hq hqo => (hg.block q (by rcases Nat.lt_or_ge q u2.heap.size with h9 | h9; exact h9; rw [Array.getElem?_eq_none h9] at hqo; cases hqo) (fun e => by have := (ownL_blk h.v_row q e.symm).1; omega)).trans hqo⟩
  rcases hm with hm | ⟨g2, hg2, hlt2⟩
  · exact e (hm ▸ e')
  · rw [hg2] at e'
    injection e' with e'
    have := a.2.1
    omega
end
theorem lt_of_some {w : World} {q : Nat} {o : Obj} (h : w.heap[q]? = some o) : q < w.heap.size := by
  rcases Nat.lt_or_ge q w.heap.size with h9 | h9
  · exact h9
  · rw [Array.getElem?_eq_none h9] at h; cases h
end Go.Proofs.Ytakdkocobcicdaa

/- The document's layer 19: a copy of a tree. Conditions: those that each theorem names. -/
namespace Go.Proofs.Ytakdkocobcicdaa
open Go.RowKit
set_option linter.unusedVariables false
set_option maxRecDepth 100000

/-- A copy: the same tree, in blocks that were not there. -/
def CopyTo (k : Nat) (w : World) (x : Tr) (e : Ending) (w' : World) : Prop := ∃ B nb cb B2 n2 c2, e = .returned (.agg #[.slice B nb cb, .slice B2 n2 c2]) ∧ TrAt (New w.heap.size w') k w' B nb cb B2 n2 c2 x ∧ Below w.heap.size w w'
theorem stay_set2 {S : Nat → Prop} {w : World} {r j i : Nat} (u v : Value) (h : ∀ g, S g → g ≠ r) : Stay S w ((w.setCell ⟨r, j, none⟩ u).setCell ⟨r, i, none⟩ v) := fun p hp _ =>
  World.cell?_of_block ((Below.heap_setCell _ _ _ _ (fun e => h _ hp e)).trans (Below.heap_setCell _ _ _ _ (fun e => h _ hp e)))
end Go.Proofs.Ytakdkocobcicdaa
