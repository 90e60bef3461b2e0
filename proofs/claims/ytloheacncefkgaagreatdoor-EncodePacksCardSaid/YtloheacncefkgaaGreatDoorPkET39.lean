/- Several texts in one: VdRow. What each proves, and its conditions, stands at its own head. -/
import Derived.Test.YtloheacncefkgaaGreatDoorPkET33
import Derived.Test.YtloheacncefkgaaGreatDoorPkET20
import Derived.Test.YtloheacncefkgaaGreatDoorPkET5
import Derived.Test.YtloheacncefkgaaGreatDoorPkET0
import Derived.Deep.RegionHeld3
/- Rows of the call's own, more: a list that lies in memory put behind what is there; the first things of a list, and those behind one. Conditions: those that each theorem names. -/
namespace Go.Proofs.YtloheacncefkgaaGreatDoor
open Go.RowKit
set_option linter.unusedVariables false
set_option maxRecDepth 100000

section
variable {α : Type} {base k : Nat} {t : TypeId} {R : List Value → α → Prop} {RR : World → List Value → α → Prop} {S : Nat → Prop} {u w : World} {v : Value} {l bs : List α} {A : Option Addr} {m c cap : Nat}
theorem lst_take (h : Lst k S RR w A cap l) (i : Nat) : Lst k S RR w A cap (l.take i) :=
  ⟨by rw [List.length_take]; have := h.l_le; omega, h.l_max, h.l_nil, fun j x hj => h.l_at j x (by rw [List.getElem?_take] at hj; split at hj; exact hj; cases hj)⟩
theorem lst_drop {g off i : Nat} (h : Lst k S RR w (some ⟨g, off, none⟩) cap l) (hi : i ≤ l.length) : Lst k S RR w (some ⟨g, off + i * k, none⟩) (cap - i) (l.drop i) :=
  ⟨by rw [List.length_drop]; have := h.l_le; omega, by have := h.l_max; omega, (fun e => by cases e), fun j x hj => by
    rw [List.getElem?_drop] at hj
    obtain ⟨g', off', cs, e, hs, hl, hr, hc⟩ := h.l_at _ x hj
    cases e
    exact ⟨g, off + i * k, cs, rfl, hs, hl, hr, fun q y hq => by
      have := hc q y hq
      rwa [show off + (i + j) * k + q = off + i * k + j * k + q by rw [Nat.add_mul]; omega] at this⟩⟩
end
theorem fit_less {k : Nat} {t u : Tr} (h : FitN (k + 1) t) (hs : u.slots.Sublist t.slots) (hr : u.rest.Sublist t.rest) : FitN (k + 1) u :=
  ⟨Nat.le_trans hs.length_le h.1, Nat.le_trans hr.length_le h.2.1, fun r hx => h.2.2.1 r (hr.subset hx), fun s hx => h.2.2.2 s (hs.subset hx)⟩
theorem ok_less {k : Nat} {t u : Tr} (h : OkN (k + 1) t) (hs : u.slots.Sublist t.slots) (hr : u.rest.Sublist t.rest) : OkN (k + 1) u :=
  ⟨Nat.le_trans hs.length_le h.1, Nat.le_trans hr.length_le h.2.1, fun r hx => h.2.2.1 r (hr.subset hx), fun s hx => h.2.2.2 s (hs.subset hx)⟩
end Go.Proofs.YtloheacncefkgaaGreatDoor
