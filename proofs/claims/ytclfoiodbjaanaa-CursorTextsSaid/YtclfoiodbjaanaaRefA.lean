/- The document's cursor in memory; end, fail, More, From. -/
import Derived.Test.YtclfoiodbjaanaaStk
import Derived.BigQuiet
import Derived.Deep.QuietTactic
namespace Go.Proofs.Ytclfoiodbjaanaa
open Go.RowKit
set_option linter.unusedVariables false
set_option maxRecDepth 100000

/-- The document's cursor at block p is in state s. -/
def Ref (W w : World) (p g : Nat) (bs : List UInt8) (s : St) : Prop :=
  (W.heap.size ≤ p ∧ W.heap.size ≤ g ∧ p ≠ g ∧ p < w.heap.size ∧ g < w.heap.size ∧ Below W.heap.size W w ∧ Right bs s) ∧
  ∃ A cap, Bs W A cap bs ∧ ((s.fr = [] ∧ w.heap[p]? = some (.cells #[.slice A bs.length cap, .int .i64 0, .slice none 0 0, .bool true] 43 (0, 0))) ∨
   ∃ l r c, s.fr = l :: r ∧ w.heap[p]? = some (.cells #[.slice A bs.length cap, .int .i64 (s.at_ : Int), .slice (some ⟨g, 0, none⟩) (r.length + 1) c, .bool false] 43 (0, 0)) ∧ Stk w g c (l :: r).reverse)
/-- What a call of the document's cursor answers, and what it leaves. -/
def RefTo (W w : World) (p g : Nat) (bs : List UInt8) (s : St) (v : Value) (e : Ending) (w' : World) : Prop :=
  e = .returned v ∧ ∃ g', (g' = g ∨ g' ≥ w.heap.size) ∧ Ref W w' p g' bs s ∧ Only p g w w'
theorem Ref.keep {W w w' : World} {p g : Nat} {bs : List UInt8} {s : St} (h : Ref W w p g bs s) (hs : w.heap.size ≤ w'.heap.size) (hb : Below W.heap.size W w') (hp : w'.heap[p]? = w.heap[p]?) (hg : w'.heap[g]? = w.heap[g]?) : Ref W w' p g bs s := by
  obtain ⟨⟨h1, h2, h3, h4, h5, h6, h7⟩, A, cap, hB, h8⟩ := h
  refine ⟨⟨h1, h2, h3, by omega, by omega, hb, h7⟩, A, cap, hB, ?_⟩
  rcases h8 with ⟨a, b⟩ | ⟨l, r, c, a, d, e⟩
  · exact .inl ⟨a, hp.trans b⟩
  · exact .inr ⟨l, r, c, a, hp.trans d, e.keep hg⟩
theorem Ref.bel {W w w' : World} {p g : Nat} {bs : List UInt8} {s : St} (h : Ref W w p g bs s) (hb : Below w.heap.size w w') : Ref W w' p g bs s :=
  h.keep hb.size (h.1.2.2.2.2.2.1.trans (hb.mono (by have := h.1.1; have := h.1.2.2.2.1; omega))) (hb.block p h.1.2.2.2.1) (hb.block g h.1.2.2.2.2.1)
theorem Ref.other {W w w' : World} {p g p' g' : Nat} {bs : List UInt8} {s : St} (h : Ref W w p g bs s) (ho : Only p' g' w w') (h1 : W.heap.size ≤ p') (h2 : W.heap.size ≤ g') (d1 : p ≠ p') (d2 : p ≠ g') (d3 : g ≠ p') (d4 : g ≠ g') : Ref W w' p g bs s :=
  h.keep ho.size (below_only h.1.2.2.2.2.2.1 ho h1 h2 (by have := h.1.1; have := h.1.2.2.2.1; omega)) (ho.block p h.1.2.2.2.1 d1 d2) (ho.block g h.1.2.2.2.2.1 d3 d4)
theorem ref_none {W w : World} {p g : Nat} {bs : List UInt8} {s : St} (h : Ref W w p g bs s) (hfr : s.fr = []) : ∃ A cap, Bs W A cap bs ∧ w.heap[p]? = some (.cells #[.slice A bs.length cap, .int .i64 0, .slice none 0 0, .bool true] 43 (0, 0)) := by
  obtain ⟨_, A, cap, hB, h8⟩ := h
  rcases h8 with ⟨a, b⟩ | ⟨l, r, c, a, d, e⟩
  · exact ⟨A, cap, hB, b⟩
  · rw [hfr] at a; cases a
theorem ref_some {W w : World} {p g l : Nat} {r : List Nat} {bs : List UInt8} {s : St} (h : Ref W w p g bs s) (hfr : s.fr = l :: r) : ∃ A cap c, Bs W A cap bs ∧ w.heap[p]? = some (.cells #[.slice A bs.length cap, .int .i64 (s.at_ : Int), .slice (some ⟨g, 0, none⟩) (r.length + 1) c, .bool false] 43 (0, 0)) ∧ Stk w g c (l :: r).reverse := by
  obtain ⟨_, A, cap, hB, h8⟩ := h
  rcases h8 with ⟨a, b⟩ | ⟨l', r', c, a, d, e⟩
  · rw [hfr] at a; cases a
  · rw [hfr] at a
    cases a
    exact ⟨A, cap, c, hB, d, e⟩
theorem ref_still {W w : World} {p g : Nat} {bs : List UInt8} {s : St} {v : Value} {e : Ending} (h : Ref W w p g bs s) (he : e = .returned v) : RefTo W w p g bs s v e w := ⟨he, g, .inl rfl, h, Only.refl _ _ _⟩

theorem rend_cells (p g k c l : Nat) (w : World) (hle : k + 1 ≤ 9223372036854775807) (h2 : w.cell? ⟨p, 2, none⟩ = some (.slice (some ⟨g, 0, none⟩) (k + 1) c)) (hl : w.cell? ⟨g, k, none⟩ = some (.int .i64 (l : Int))) :
    Calls Try.prog 39 #[.pointer (some ⟨p, 0, none⟩)] w fun e w' => e = .returned (.int .i64 (l : Int)) ∧ ∃ n, w' = w.drewN n := by
  go_enter Try.func39, Try.ntmps39
  go_wp2
  go_quiet (fail)
  go_wp2
  go_ret
  exact ⟨rfl, _, rfl⟩
/-- fail. -/
def failed (w : World) (p : Nat) : World := ((w.setCell ⟨p, 3, none⟩ (.bool true)).setCell ⟨p, 1, none⟩ (.int .i64 0)).setCell ⟨p, 2, none⟩ (.slice none 0 0)
theorem fail_any (p : Nat) (c0 c1 c2 c3 : Value) (w : World) (h : w.heap[p]? = some (.cells #[c0, c1, c2, c3] 43 (0, 0))) :
    Calls Try.prog 40 #[.pointer (some ⟨p, 0, none⟩)] w fun e w' => e = .returned (.tuple #[]) ∧ failed w p = w' := by
  have h1 := obj_cell h 1
  have h2 := obj_cell h 2
  have h3 := obj_cell h 3
  have f1 := obj_free h 1
  have f2 := obj_free h 2
  have f3 := obj_free h 3
  clear h
  go_enter Try.func40, Try.ntmps40
  go_wp2
  go_end0
  exact ⟨rfl, rfl⟩
theorem failed_only (w : World) (p g : Nat) : Only p g w (failed w p) :=
  (((Only.refl p g w).set (q := ⟨p, 3, none⟩) (.inl rfl) _).set (q := ⟨p, 1, none⟩) (.inl rfl) _).set (q := ⟨p, 2, none⟩) (.inl rfl) _
theorem failed_row {p : Nat} {c0 c1 c2 c3 : Value} {w : World} {t : TypeId} (h : w.heap[p]? = some (.cells #[c0, c1, c2, c3] t (0, 0))) : (failed w p).heap[p]? = some (.cells #[c0, .int .i64 0, .slice none 0 0, .bool true] t (0, 0)) := by
  have a := obj_set h 3 (.bool true)
  have b := obj_set a 1 (.int .i64 0)
  have c := obj_set b 2 (.slice none 0 0)
  unfold failed
  rw [c]
  rfl
end Go.Proofs.Ytclfoiodbjaanaa
