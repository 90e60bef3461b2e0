/- Several texts in one: Lst. What each proves, and its conditions, stands at its own head. -/
import Derived.Test.YtpfdnggacpehdaaGreatDoorPkDU0
import Derived.Test.YtpfdnggacpehdaaGreatDoorPkDU2
import Derived.Deep.SlicePairs
/- Lists of things in memory, whatever they are (no program here): a slice that reads as these, k cells each; its being kept; a list that came in. Conditions: those that each theorem names. -/
namespace Go.Proofs.YtpfdnggacpehdaaGreatDoor
open Go.RowKit Go.ChangeShapes
set_option linter.unusedVariables false

/-- The slice '.slice A l.length cap' reads as l: k cells a thing, R says how they read; S holds of the blocks. -/
structure Lst {α : Type} (k : Nat) (S : Nat → Prop) (R : World → List Value → α → Prop) (w : World) (A : Option Addr) (cap : Nat) (l : List α) : Prop where
  l_le : l.length ≤ cap
  l_max : cap ≤ maxLen
  l_nil : A = none → cap = 0
  l_at : ∀ (j : Nat) x, l[j]? = some x → ∃ g off cs, A = some ⟨g, off, none⟩ ∧ S g ∧ cs.length = k ∧ R w cs x ∧ ∀ i u, cs[i]? = some u → w.cell? ⟨g, off + j * k + i, none⟩ = some u

section
variable {α : Type} {k : Nat} {S S' : Nat → Prop} {R R' : World → List Value → α → Prop} {w w' : World} {A : Option Addr} {cap : Nat} {l : List α}
theorem lst_keep (h : Lst k S R w A cap l) (hR : ∀ cs x, R w cs x → R' w' cs x) (hS : ∀ g, S g → S' g) (hk : ∀ p : Addr, S p.block → p.block < w.heap.size → w'.cell? p = w.cell? p) : Lst k S' R' w' A cap l :=
  ⟨h.l_le, h.l_max, h.l_nil, fun j x hj => by
    obtain ⟨g, off, cs, e, hg, hl, hr, hc⟩ := h.l_at j x hj
    exact ⟨g, off, cs, e, hS g hg, hl, hR cs x hr, fun i u hu => (hk ⟨g, off + j * k + i, none⟩ hg (World.block_lt_of_cell? w _ (hc i u hu))).trans (hc i u hu)⟩⟩
theorem lst_empty (w : World) (A : Option Addr) (cap : Nat) (h : cap ≤ maxLen) (h0 : A = none → cap = 0) : Lst k S R w A cap ([] : List α) := ⟨Nat.zero_le _, h, h0, fun j x hj => by simp at hj⟩
/-- A row of the call's own reads so. -/
theorem lst_own {base : Nat} {t : TypeId} {v : Value} {n : Nat} {f : α → List Value} (hk : 0 < k) (hf : ∀ x, (f x).length = k) (hR : ∀ x ∈ l, R w (f x) x) (h : w.ownsRow base t k v n (l.flatMap f)) :
    n = l.length ∧ ∃ A cap, v = .slice A l.length cap ∧ Lst k (fun g => base ≤ g ∧ g < w.heap.size) R w A cap l := by
  have hfl := flat_length f k hf l
  have hn : n = l.length := by
    have h1 := h.1
    rw [hfl] at h1
    exact (Nat.eq_of_mul_eq_mul_right hk h1).symm
  subst hn
  obtain ⟨A, cap, rfl, h1, h2, h3, _⟩ := own_form h
  refine ⟨rfl, A, cap, rfl, h1, h2, fun hA => (h3 hA).1, fun j x hj => ?_⟩
  have hjl := (List.getElem?_eq_some_iff.mp hj).1
  obtain ⟨g, cp, hv, hb, _, _, hlt⟩ := own_pos h (by omega)
  injection hv with e1 e2 e3
  subst e1 e3
  refine ⟨g, 0, f x, rfl, ⟨hb, hlt⟩, hf x, hR x (List.mem_of_getElem? hj), fun i u hu => ?_⟩
  have hi : i < k := by have := (List.getElem?_eq_some_iff.mp hu).1; rw [hf] at this; exact this
  have := own_cell h rfl ((flat_get f k hf l j x i hj hi).trans hu)
  rw [Nat.zero_add, Nat.mul_comm j k]
  exact this
end

end Go.Proofs.YtpfdnggacpehdaaGreatDoor
