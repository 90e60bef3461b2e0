/- Several texts in one: Lst. What each proves, and its conditions, stands at its own head. -/
import Derived.Test.YtloheacncefkgaaGreatDoorPkEU0
import Derived.Test.YtloheacncefkgaaGreatDoorPkEU2
import Derived.Deep.SlicePairs
/- Lists of things in memory, whatever they are (no program here): a slice that reads as these, k cells each; its being kept; a list that came in. Conditions: those that each theorem names. -/
namespace Go.Proofs.YtloheacncefkgaaGreatDoor
open Go.RowKit Go.ChangeShapes
set_option linter.unusedVariables false

/-- The slice '.slice A l.length cap' reads as l: k cells a thing, R says how they read; S holds of the blocks. -/
structure Lst {α : Type} (k : Nat) (S : Nat → Prop) (R : World → List Value → α → Prop) (w : World) (A : Option Addr) (cap : Nat) (l : List α) : Prop where
 l_le : l.length ≤ cap
 l_max : cap ≤ maxLen
 l_nil : A = none → cap = 0
 l_at : ∀ (j : Nat) x, l[j]? = some x → ∃ g off cs, A = some ⟨g, off, none⟩ ∧ S g ∧ cs.length = k ∧ R w cs x ∧ ∀ i u, cs[i]? = some u → w.cell? ⟨g, off + j * k + i, none⟩ = some u

section
variable {α : Type} {k : Nat} {S S' : Nat → Prop} {R R' : World → List Value → α → Prop} {w w' : World} {A : Option Addr} {cap : Nat} {l : List α}
theorem lst_keep (h : Lst k S R w A cap l) (hR : ∀ cs x, R w cs x → R' w' cs x) (hS : ∀ g, S g → S' g) (hk : ∀ p : Addr, S p.block → p.block < w.heap.size → w'.cell? p = w.cell? p) : Lst k S' R' w' A cap l :=
 ⟨h.l_le, h.l_max, h.l_nil, fun j x hj => by
  obtain ⟨g, off, cs, e, hg, hl, hr, hc⟩ := h.l_at j x hj
  exact ⟨g, off, cs, e, hS g hg, hl, hR cs x hr, fun i u hu => (hk ⟨g, off + j * k + i, none⟩ hg (World.block_lt_of_cell? w _ (hc i u hu))).trans (hc i u hu)⟩⟩
theorem lst_empty (w : World) (A : Option Addr) (cap : Nat) (h : cap ≤ maxLen) (h0 : A = none → cap = 0) : Lst k S R w A cap ([] : List α) := ⟨Nat.zero_le _, h, h0, fun j x hj => by simp at hj⟩
/-- A row of the call's own reads so. -/
theorem lst_own {base : Nat} {t : TypeId} {v : Value} {n : Nat} {f : α → List Value} (hk : 0 < k) (hf : ∀ x, (f x).length = k) (hR : ∀ x ∈ l, R w (f x) x) (h : w.ownsRow base t k v n (l.flatMap f)) :
 n = l.length ∧ ∃ A cap, v = .slice A l.length cap ∧ Lst k (fun g => base ≤ g ∧ g < w.heap.size) R w A cap l := by
 have hfl := flat_length f k hf l
 have hn : n = l.length := by
  have h1 := h.1
  rw [hfl] at h1
  exact (Nat.eq_of_mul_eq_mul_right hk h1).symm
 subst hn
 obtain ⟨A, cap, rfl, h1, h2, h3, _⟩ := own_form h
 refine ⟨rfl, A, cap, rfl, h1, h2, fun hA => (h3 hA).1, fun j x hj => ?_⟩
 have hjl := (List.getElem?_eq_some_iff.mp hj).1
 obtain ⟨g, cp, hv, hb, _, _, hlt⟩ := own_pos h (by omega)
 injection hv with e1 e2 e3
 subst e1 e3
 refine ⟨g, 0, f x, rfl, ⟨hb, hlt⟩, hf x, hR x (List.mem_of_getElem? hj), fun i u hu => ?_⟩
 have hi : i < k := by have := (List.getElem?_eq_some_iff.mp hu).1; rw [hf] at this; exact this
 have := own_cell h rfl ((flat_get f k hf l j x i hj hi).trans hu)
 rw [Nat.zero_add, Nat.mul_comm j k]
 exact this
end

theorem weights_all {H : Type} {P : Program} {e : TypeId} : ∀ {ds : List (DataW H)} {d : DataW H}, d ∈ ds → ∀ n ∈ d.weights P e, n ∈ DataW.weightsAll P e ds
 | d0 :: ds, d, hd, n, hn => by
   simp only [DataW.weightsAll, List.mem_append]
   rcases List.mem_cons.mp hd with rfl | hd
   ·exact .inl hn
   ·exact .inr (weights_all hd n hn)

/-- A list that came in, of things that come in so. -/
theorem lst_came {α : Type} [Inhabited α] {H : Type} {enc : TypeId × Value → H} {P : Program} {w : World} {base : Nat} {spare : Nat → Bool} {held : Bool} {t e : TypeId} {k M : Nat} {R : World → List Value → α → Prop} {Ok : α → Prop}
 (hu : P.underlying t = some (.slice e)) (ce : P.cellsOf e = k) (hk : 0 < k) (hby : 1 ≤ P.bytesOf e)
 (each : ∀ fuel cs (x : DataW H × List MemPlace), DataW.trod enc P w base spare held fuel e cs = some x → (∀ n ∈ x.1.weights P e, n ≤ M) → ∃ v : α, R w cs v ∧ Ok v)
 {fuel : Nat} {cs : List Value} {x : DataW H × List MemPlace} (h : DataW.trod enc P w base spare held fuel t cs = some x) (hz : ∀ n ∈ x.1.weights P t, n ≤ M) :
 ∃ (l : List α) (A : Option Addr) (cap : Nat), cs = [.slice A l.length cap] ∧ Lst k (fun g => g < w.heap.size) R w A cap l ∧ (∀ v ∈ l, Ok v) ∧ l.length ≤ M := by
 rcases Deep.open_slice hu h with ⟨rfl, _⟩ | ⟨a, len, cap, m, n, D, Pl, rfl, hb, hl, hm, hmm, rfl, hx⟩
 ·exact ⟨[], none, 0, rfl, lst_empty _ _ _ (by decide) (fun _ => rfl), by simp, Nat.zero_le _⟩
 have hlm : len ≤ m := by rw [hmm]; split <;> omega
 have hw : ∀ n ∈ (len + (m - len)) * P.bytesOf e :: (DataW.weightsAll P e ((List.range len).map D) ++ DataW.weightsAll P e ((List.range (m - len)).map fun j => D (len + j))), n ≤ M := by
  intro n hn
  apply hz
  simp only [DataW.weights, hu, List.length_map, List.length_range]
  exact hn
 have hlM : len ≤ M := by
  have h1 := hw _ (List.mem_cons_self)
  have h2 : len * 1 ≤ (len + (m - len)) * P.bytesOf e := Nat.mul_le_mul (by omega) hby
  omega
 have one : ∀ i, i < len → ∃ v : α, ∃ cs', cs'.length = k ∧ R w cs' v ∧ Ok v ∧ ∀ j u, cs'[j]? = some u → w.cell? ((a.add (i * k)).add j) = some u := by
  intro i hi
  obtain ⟨cs', h1, h2⟩ := hx i (by omega)
  rw [ce] at h1
  obtain ⟨_, hlen, hcell⟩ := World.cells?_some h1
  obtain ⟨v, hr, ho⟩ := each _ _ _ h2 (fun n hn => hw n (List.mem_cons_of_mem _ (List.mem_append_left _ (weights_all (List.mem_map.mpr ⟨i, by simpa using hi, rfl⟩) n hn))))
  refine ⟨v, cs', hlen, hr, ho, fun j u hu => ?_⟩
  have hj := (List.getElem?_eq_some_iff.mp hu).1
  have := hcell j (by omega)
  rw [this, List.getElem?_eq_getElem hj] at *
  simpa using hu
 obtain ⟨q, hq⟩ : ∃ f : Nat → α, ∀ i, i < len → ∃ cs', cs'.length = k ∧ R w cs' (f i) ∧ Ok (f i) ∧ ∀ j u, cs'[j]? = some u → w.cell? ((a.add (i * k)).add j) = some u := Deep.choose_lt one
 refine ⟨(List.range len).map q, some a, cap, by simp, ⟨by simpa using hl, hm, (fun hA => by cases hA), fun j c hj => ?_⟩, fun c hc => ?_, by simpa using hlM⟩
 ·have hjl : j < len := by have := (List.getElem?_eq_some_iff.mp hj).1; simpa using this
  have hc : c = q j := by simp [hjl] at hj; exact hj.symm
  subst hc
  obtain ⟨cs', hlen, hr, _, hcell⟩ := hq j hjl
  obtain ⟨cs0, hlen0, _, _, hcell0⟩ := hq 0 (by omega)
  have h0 : ∃ u, cs0[0]? = some u := ⟨_, List.getElem?_eq_getElem (by omega)⟩
  obtain ⟨u, hu⟩ := h0
  have hc0 := hcell0 0 u hu
  rw [Nat.zero_mul] at hc0
  have ha0 : ((a.add 0).add 0) = a.add 0 := by unfold Addr.add; simp
  rw [ha0] at hc0
  obtain ⟨b, off, rfl, e⟩ := plain_addr hc0
  refine ⟨b, off, cs', rfl, World.block_lt_of_cell? w _ hc0, hlen, hr, fun i u hu => ?_⟩
  have := hcell i u hu
  rw [Deep.add_add, e] at this
  rw [Nat.add_assoc]
  exact this
 ·obtain ⟨j, hj, rfl⟩ := List.mem_map.mp hc
  obtain ⟨_, _, _, ho, _⟩ := hq j (by simpa using hj)
  exact ho
end Go.Proofs.YtloheacncefkgaaGreatDoor
