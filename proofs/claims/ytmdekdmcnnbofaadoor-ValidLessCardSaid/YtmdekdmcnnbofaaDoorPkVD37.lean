/- Several texts in one: VdRow. What each proves, and its conditions, stands at its own head. -/
import Derived.Test.YtmdekdmcnnbofaaDoorPkVD31
import Derived.Test.YtmdekdmcnnbofaaDoorPkVD25
/- Rows of the call's own, more: a list that lies in memory put behind what is there; the first things of a list, and those behind one. Conditions: those that each theorem names. -/
namespace Go.Proofs.YtmdekdmcnnbofaaDoor
open Go.RowKit
set_option linter.unusedVariables false
set_option maxRecDepth 100000

section
variable {α : Type} {base k : Nat} {t : TypeId} {R : List Value → α → Prop} {RR : World → List Value → α → Prop} {S : Nat → Prop} {u w : World} {v : Value} {l bs : List α} {A : Option Addr} {m c cap : Nat}
theorem ownL_block0 {g : Nat} (h : w.heap[g]? = some (.cells #[] t (0, 0))) (hb : base ≤ g) : OwnL base t k R w (.slice (some ⟨g, 0, none⟩) 0 0) ([] : List α) :=
  ⟨[], rfl, fun j c x h => by simp at h, by simp, .inr ⟨g, 0, #[], rfl, hb, h, Nat.le_refl _, by decide, by simp, by simp⟩⟩
theorem ownL_many {P : Program} {T : TypeId} {bytes : Nat} {i : TypeInfo} {z : Value} (ty : TypeId) (ht : P.underlying T = some (.slice t)) (hi : P.info? t = some i) (hz : i.zero = some z)
    (hsize : i.size = k) (hby : i.bytes = bytes) (hzs : z.cells.size = k) (hk : 0 < k) (h : OwnL base t k R u v l) (hb : Lst k S RR u A c bs) (hm : m = bs.length) (hR : ∀ cs x, RR u cs x → R cs x ∧ ∀ y ∈ cs, y.oneCell' = true)
    (hb1 : l.length + m ≤ 100000) (hb2 : bytes ≤ 1000) (hbase : base ≤ u.heap.size) :
    ∃ v' w', (Builtin.append_ #[T, T] ty #[v, .slice A m c]).run P u = .ok v' w' ∧ OwnL base t k R w' v' (l ++ bs) ∧ u.grownBy w' v.ownBlock ∧ Moved u v v' := by
  subst hm
  obtain ⟨css, e1, e2, e3⟩ := h
  rcases A with _ | ad
  · have h0 := hb.l_nil rfl
    have hle := hb.l_le
    have hl : bs = [] := List.eq_nil_of_length_eq_zero (by omega)
    subst hl h0
    exact ⟨v, u, run_append_owned_none u base T ty t i k ht hi v l.length css.flatten e3, by rw [List.append_nil]; exact ⟨css, e1, e2, e3⟩, World.grownBy.refl _ _, .inl rfl⟩
  · have one : ∀ j : Nat, ∃ cs : List Value, cs.length = k ∧ (∀ y ∈ cs, y.oneCell' = true) ∧ ∀ x, bs[j]? = some x → R cs x ∧ ∀ q y, cs[q]? = some y → u.cell? (ad.add (j * k + q)) = some y := by
      intro j
      cases hx : bs[j]? with
      | none => exact ⟨List.replicate k (.bool false), by simp, fun y hy => by rw [List.eq_of_mem_replicate hy]; rfl, fun x h => by cases h⟩
      | some x =>
        obtain ⟨g, off, cs, ea, _, hl, hr, hc⟩ := hb.l_at j x hx
        cases ea
        refine ⟨cs, hl, (hR cs x hr).2, fun y hy => ?_⟩
        cases hy
        refine ⟨(hR cs x hr).1, fun q y hq => ?_⟩
        have hplain : (⟨g, off, none⟩ : Addr).add (j * k + q) = ⟨g, off + (j * k + q), none⟩ := by unfold Addr.add; split <;> simp_all
        rw [hplain, ← Nat.add_assoc]
        exact hc q y hq
    obtain ⟨f, hf⟩ := Classical.axiomOfChoice one
    have hf1 : ∀ j, (f j).length = k := fun j => (hf j).1
    obtain ⟨v', w', hr, ho, hg, hmv⟩ := run_append_own2 (P := P) u base T ty t i z k bytes ht hi hz hsize hby hzs hk v l.length css.flatten e3 ad bs.length c ((List.range bs.length).flatMap f) (by rw [flat_length f k hf1]; simp) (fun j y hj => by
      obtain ⟨x, hx, hfx⟩ := flat_inv f k hk hf1 _ j y hj
      obtain ⟨hx1, hx2⟩ := List.getElem?_eq_some_iff.mp hx
      rw [List.getElem_range] at hx2
      rw [List.length_range] at hx1
      subst hx2
      have := ((hf (j / k)).2.2 _ (List.getElem?_eq_getElem hx1)).2 _ y hfx
      rwa [Nat.mul_comm, Nat.div_add_mod] at this) (fun y hy => by
      obtain ⟨x, _, hx⟩ := List.mem_flatMap.mp hy
      exact (hf x).2.1 y hx) (by unfold maxLen; omega) (by
      have : (l.length + bs.length) * bytes ≤ 100000 * 1000 := Nat.mul_le_mul (by omega) hb2
      omega) hbase
    refine ⟨v', w', hr, ⟨css ++ (List.range bs.length).map f, by simp [e1], fun j c' x' hc' hx' => ?_, by rw [List.flatten_append, List.length_append]; exact ho⟩, hg, hmv⟩
    by_cases hj : j < l.length
    · rw [List.getElem?_append_left (by omega)] at hc'
      rw [List.getElem?_append_left hj] at hx'
      exact e2 j c' x' hc' hx'
    · rw [List.getElem?_append_right (by omega)] at hx'
      rw [List.getElem?_append_right (by omega), e1, List.getElem?_map] at hc'
      have hj2 := (List.getElem?_eq_some_iff.mp hx').1
      rw [List.getElem?_range hj2] at hc'
      simp at hc'
      subst hc'
      exact ⟨hf1 _, (hf _).2.1, ((hf _).2.2 x' hx').1⟩
theorem lst_take (h : Lst k S RR w A cap l) (i : Nat) : Lst k S RR w A cap (l.take i) :=
  ⟨by rw [List.length_take]; have := h.l_le; omega, h.l_max, h.l_nil, fun j x hj => h.l_at j x (by rw [List.getElem?_take] at hj; split at hj; exact hj; cases hj)⟩
theorem lst_drop {g off i : Nat} (h : Lst k S RR w (some ⟨g, off, none⟩) cap l) (hi : i ≤ l.length) : Lst k S RR w (some ⟨g, off + i * k, none⟩) (cap - i) (l.drop i) :=
  ⟨by rw [List.length_drop]; have := h.l_le; omega, by have := h.l_max; omega, (fun e => by cases e), fun j x hj => by
    rw [List.getElem?_drop] at hj
    obtain ⟨g', off', cs, e, hs, hl, hr, hc⟩ := h.l_at _ x hj
    cases e
    exact ⟨g, off + i * k, cs, rfl, hs, hl, hr, fun q y hq => by
      have := hc q y hq
      rwa [show off + (i + j) * k + q = off + i * k + j * k + q by rw [Nat.add_mul]; omega] at this⟩⟩
theorem less_sub {i : Nat} {x : α} (h : l[i]? = some x) : (l.take i ++ l.drop (i + 1)).Sublist l := by
  obtain ⟨hi, e⟩ := List.getElem?_eq_some_iff.mp h
  conv => rhs; rw [← List.take_append_drop i l, List.drop_eq_getElem_cons hi]
  exact (List.Sublist.refl _).append (List.sublist_cons_self _ _)
end
theorem fit_less {k : Nat} {t u : Tr} (h : FitN (k + 1) t) (hs : u.slots.Sublist t.slots) (hr : u.rest.Sublist t.rest) : FitN (k + 1) u :=
  ⟨Nat.le_trans hs.length_le h.1, Nat.le_trans hr.length_le h.2.1, fun r hx => h.2.2.1 r (hr.subset hx), fun s hx => h.2.2.2 s (hs.subset hx)⟩
theorem ok_less {k : Nat} {t u : Tr} (h : OkN (k + 1) t) (hs : u.slots.Sublist t.slots) (hr : u.rest.Sublist t.rest) : OkN (k + 1) u :=
  ⟨Nat.le_trans hs.length_le h.1, Nat.le_trans hr.length_le h.2.1, fun r hx => h.2.2.1 r (hr.subset hx), fun s hx => h.2.2.2 s (hs.subset hx)⟩
end Go.Proofs.YtmdekdmcnnbofaaDoor
