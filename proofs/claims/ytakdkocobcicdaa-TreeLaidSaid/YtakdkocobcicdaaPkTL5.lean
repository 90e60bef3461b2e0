/- Several texts in one: Lst. What each proves, and its conditions, stands at its own head. -/
import Derived.Test.YtakdkocobcicdaaPkTL0
import Derived.Test.YtakdkocobcicdaaPkTL1
import Derived.Deep.SlicePairs
/- Lists of things in memory, whatever they are (no program here): a slice that reads as these, k cells each; its being kept; a list that came in. Conditions: those that each theorem names. -/
namespace Go.Proofs.Ytakdkocobcicdaa
open Go.RowKit Go.ChangeShapes
set_option linter.unusedVariables false

/-- The slice '.slice A l.length cap' reads as l: k cells a thing, R says how they read; S holds of the blocks. -/
structure Lst {α : Type} (k : Nat) (S : Nat → Prop) (R : World → List Value → α → Prop) (w : World) (A : Option Addr) (cap : Nat) (l : List α) : Prop where
  l_le : l.length ≤ cap
  l_max : cap ≤ maxLen
  l_nil : A = none → cap = 0
  l_at : ∀ (j : Nat) x, l[j]? = some x → ∃ g off cs, A = some ⟨g, off, none⟩ ∧ S g ∧ cs.length = k ∧ R w cs x ∧ ∀ i u, cs[i]? = some u → w.cell? ⟨g, off + j * k + i, none⟩ = some u

section
variable {α : Type} {k : Nat} {S S' : Nat → Prop} {R R' : World → List Value → α → Prop} {w w' : World} {A : Option Addr} {cap : Nat} {l : List α}
theorem lst_keep (h : Lst k S R w A cap l) (hR : ∀ cs x, R w cs x → R' w' cs x) (hS : ∀ g, S g → S' g) (hk : ∀ p : Addr, S p.block → p.block < w.heap.size → w'.cell? p = w.cell? p) : Lst k S' R' w' A cap l :=
  ⟨h.l_le, h.l_max, h.l_nil, fun j x hj => by
    obtain ⟨g, off, cs, e, hg, hl, hr, hc⟩ := h.l_at j x hj
    exact ⟨g, off, cs, e, hS g hg, hl, hR cs x hr, fun i u hu => (hk ⟨g, off + j * k + i, none⟩ hg (World.block_lt_of_cell? w _ (hc i u hu))).trans (hc i u hu)⟩⟩
theorem lst_empty (w : World) (A : Option Addr) (cap : Nat) (h : cap ≤ maxLen) (h0 : A = none → cap = 0) : Lst k S R w A cap ([] : List α) := ⟨Nat.zero_le _, h, h0, fun j x hj => by simp at hj⟩
end

theorem weights_all {H : Type} {P : Program} {e : TypeId} : ∀ {ds : List (DataW H)} {d : DataW H}, d ∈ ds → ∀ n ∈ d.weights P e, n ∈ DataW.weightsAll P e ds
  | d0 :: ds, d, hd, n, hn => by
    simp only [DataW.weightsAll, List.mem_append]
    rcases List.mem_cons.mp hd with rfl | hd
    · exact .inl hn
    · exact .inr (weights_all hd n hn)

end Go.Proofs.Ytakdkocobcicdaa
