/- Several texts in one: TrRow. What each proves, and its conditions, stands at its own head. -/
import Derived.Test.YtmdekdmcnnbofaaDoorPkVD22
import Derived.Test.YtmdekdmcnnbofaaDoorPkVD3
import Derived.Test.YtmdekdmcnnbofaaDoorChecked
import Derived.Test.YtmdekdmcnnbofaaDoorPkVD0
import Derived.WalkKit
import Derived.RowKitTokens
import Derived.OwnWalk
import Derived.Deep.AppendLies
/- Rows of the call's own that hold things with lists of their own (no program's function here): what they hold, one thing more, what they read as. Conditions: those that each theorem names. -/
namespace Go.Proofs.YtmdekdmcnnbofaaDoor
open Go.RowKit
set_option linter.unusedVariables false
set_option maxRecDepth 100000

/-- A row of the call's own, from 'base' on: one thing for each of l; R says how a thing's cells read. -/
def OwnL {α : Type} (base : Nat) (t : TypeId) (k : Nat) (R : List Value → α → Prop) (w : World) (v : Value) (l : List α) : Prop :=
  ∃ css : List (List Value), css.length = l.length ∧ (∀ (j : Nat) c x, css[j]? = some c → l[j]? = some x → c.length = k ∧ (∀ u ∈ c, u.oneCell' = true) ∧ R c x) ∧ w.ownsRow base t k v l.length css.flatten
section
variable {α : Type} {base k : Nat} {t : TypeId} {R R' : List Value → α → Prop} {w w' : World} {v : Value} {l : List α}
theorem ownL_keep (h : OwnL base t k R w v l) (hR : ∀ c x, R c x → R' c x) (hb : ∀ g, v.ownBlock = some g → w'.heap[g]? = w.heap[g]?) : OwnL base t k R' w' v l := by
  obtain ⟨css, h1, h2, h3⟩ := h
  exact ⟨css, h1, fun j c x hc hx => ⟨(h2 j c x hc hx).1, (h2 j c x hc hx).2.1, hR c x (h2 j c x hc hx).2.2⟩, own_block h3 hb⟩
theorem ownL_blk (h : OwnL base t k R w v l) : ∀ g, v.ownBlock = some g → base ≤ g ∧ g < w.heap.size := by
  obtain ⟨css, h1, h2, h3⟩ := h
  exact fun g hg => h3.lt g hg
theorem ownL_form (h : OwnL base t k R w v l) : ∃ A c, v = .slice A l.length c ∧ l.length ≤ c ∧ c ≤ maxLen := by
  obtain ⟨css, h1, h2, h3⟩ := h
  obtain ⟨A, c, e, a, b, _⟩ := own_form h3
  exact ⟨A, c, e, a, b⟩
theorem ownL_slc (h : OwnL base t k R w v l) : ∃ A n c, v = .slice A n c := by
  obtain ⟨A, c, e, _⟩ := ownL_form h
  exact ⟨A, _, c, e⟩
theorem flatten_get {β : Type} {k : Nat} : ∀ {css : List (List β)}, (∀ c ∈ css, c.length = k) → ∀ (j : Nat) (c : List β) (i : Nat), css[j]? = some c → i < k → css.flatten[j * k + i]? = c[i]?
  | [], _, j, c, i, h, _ => by simp at h
  | b :: css, hk, 0, c, i, h, hi => by
    obtain rfl : b = c := by simpa using h
    rw [List.flatten_cons, List.getElem?_append_left (by rw [hk b (by simp)]; omega)]; simp
  | b :: css, hk, j + 1, c, i, h, hi => by
    have hb := hk b (by simp)
    rw [List.flatten_cons, List.getElem?_append_right (by rw [hb, Nat.succ_mul]; omega), hb, show (j + 1) * k + i - k = j * k + i by rw [Nat.succ_mul]; omega]
    exact flatten_get (fun c hc => hk c (List.mem_cons_of_mem _ hc)) j c i (by simpa using h) hi
/-- One thing's cells. -/
theorem ownL_at (h : OwnL base t k R w v l) {j : Nat} {x : α} (hx : l[j]? = some x) : ∃ g cap c, v = .slice (some ⟨g, 0, none⟩) l.length cap ∧ base ≤ g ∧ g < w.heap.size ∧ c.length = k ∧ R c x ∧ ∀ i u, c[i]? = some u → w.cell? ⟨g, j * k + i, none⟩ = some u := by
  obtain ⟨css, h1, h2, h3⟩ := h
  have hj := (List.getElem?_eq_some_iff.mp hx).1
  obtain ⟨g, cap, rfl, hb, _, _, hg⟩ := own_pos h3 (by omega)
  have hc : ∃ c, css[j]? = some c := ⟨_, List.getElem?_eq_getElem (by omega)⟩
  obtain ⟨c, hc⟩ := hc
  refine ⟨g, cap, c, rfl, hb, hg, (h2 j c x hc hx).1, (h2 j c x hc hx).2.2, fun i u hu => ?_⟩
  have hi : i < k := by have := (List.getElem?_eq_some_iff.mp hu).1; rw [(h2 j c x hc hx).1] at this; exact this
  refine own_cell h3 rfl ?_
  rw [flatten_get (fun c' hc' => ?_) j c i hc hi, hu]
  obtain ⟨q, hq, e⟩ := List.mem_iff_getElem.mp hc'
  exact (h2 q c' l[q] (by rw [List.getElem?_eq_getElem hq, e]) (List.getElem?_eq_getElem (by omega))).1
theorem ownL_lst {RR : World → List Value → α → Prop} (h : OwnL base t k (RR w) w v l) : ∃ A c, v = .slice A l.length c ∧ ∀ S : Nat → Prop, (∀ g, v.ownBlock = some g → S g) → Lst k S RR w A c l := by
  obtain ⟨A, c, e, a, b⟩ := ownL_form h
  subst e
  have hn : A = none → c = 0 := by
    obtain ⟨css, h1, h2, h3⟩ := h
    obtain ⟨A', c', e, _, _, h0, _⟩ := own_form h3
    cases e
    exact fun hA => (h0 hA).1
  refine ⟨A, c, rfl, fun S hS => ⟨a, b, hn, fun j x hx => ?_⟩⟩
  obtain ⟨g, cap, cs, e, hb, hg, hl, hr, hc⟩ := ownL_at h hx
  injection e with e1 e2 e3
  subst e1 e3
  exact ⟨g, 0, cs, rfl, hS g rfl, hl, hr, fun i u hu => by rw [Nat.zero_add]; exact hc i u hu⟩
end
theorem info_slt : (Tryd.prog.info? 42).map (fun i => (i.zero, i.size, i.bytes)) = some (some (.agg #[.int .i64 0, .slice none 0 0]), 2, 32) := by kernel_rfl
theorem info_rws : (Tryd.prog.info? 64).map (fun i => (i.zero, i.size, i.bytes)) = some (some (.agg #[.int .i64 0, .int .i64 0, .int .u64 0, .string ⟨#[]⟩]), 4, 40) := by kernel_rfl
theorem info_ofs {P : Program} {t : TypeId} {z : Value} {n b : Nat} (h : (P.info? t).map (fun i => (i.zero, i.size, i.bytes)) = some (some z, n, b)) : ∃ i, P.info? t = some i ∧ i.zero = some z ∧ i.size = n ∧ i.bytes = b := by
  cases hi : P.info? t with
  | none => rw [hi] at h; cases h
  | some i =>
    rw [hi] at h
    simp at h
    exact ⟨i, rfl, h.1, h.2.1, h.2.2⟩
end Go.Proofs.YtmdekdmcnnbofaaDoor
