/- Several texts in one: RangeS. What each proves, and its conditions, stands at its own head. -/
import Derived.RangeFuncNested
import Derived.RangeFuncBound
import Derived.Shelf.Abstract
/- A range over a function by states: what comes next hangs on the state, a round may leave the loop for a label further out; at the top of a function and within a round of another such loop (no program here). Conditions: those that each theorem names. -/
namespace Go.Proofs.Ytmajhjkibmbikaa
open Go.RowKit

/-- An iterator: at state s it yields vals s, or it ends where there is none; a round that goes on leads to a state that Adv lets; R is what it reads at a state; the blocks that it makes turn nothing that was there. -/
def SeqS {σ : Type} (P : Program) (g : Nat) (lb : Array Value) (vals : σ → Option (Array Value)) (Adv : σ → σ → Prop) (s0 : σ) (R : σ → World → Prop) : Prop :=
  ∀ (n l : Nat) (J : σ → World → Prop) (X : World → Prop) (W : World), (∀ s W1, J s W1 → R s W1) → (∀ s W1 W2, J s W1 → Below W1.heap.size W1 W2 → J s W2) →
    (∀ s v W1, vals s = some v → J s W1 → YieldAt Fence.wide (n - 1) P l v W1 fun e W' => (e = .returned (.bool true) ∧ ∃ s', Adv s s' ∧ J s' W') ∨ (e = .returned (.bool false) ∧ X W')) → J s0 W →
    CallsIn Fence.wide n P g (#[.func (.yield l) #[] #[]] ++ lb) W fun e W' => (∃ v, e = .returned v) ∧ ((∃ s, vals s = none ∧ J s W') ∨ X W')

/-- How a round is left: on its way to a state that comes next, or for the label. -/
def exPost {σ : Type} (id : Nat) (keep : World → World → Prop) (I : σ → World → Prop) (Adv : σ → σ → Prop) (X : World → Prop) (s : σ) (W : World) : Exit → Act → World → Prop
  | .normal, _, W' => (∃ s', Adv s s' ∧ I s' W') ∧ keep W W'
  | .exit i, _, W' => (i = id ∧ X W') ∧ keep W W'
  | _, _, _ => False
/-- The record of the loop lies as it lay. -/
def keep1 (l : Nat) (W W' : World) : Prop := W'.heap[l]? = W.heap[l]? ∧ W.heap.size ≤ W'.heap.size
def keep2 (l : Nat) (W W' : World) : Prop := W'.heap[l + 1]? = W.heap[l + 1]? ∧ W'.heap[l]? = W.heap[l]? ∧ W.heap.size ≤ W'.heap.size

theorem wpIn_rangeS {σ : Type} {P : Program} {n : Nat} {g : Operand} {ps : Array Tmp} {assign body : Code} {Q : Exit → Act → World → Prop} {a : Act} {w : World} {gf : Nat} {lb : Array Value} (hg : a.eval g = .func (.func gf) #[] lb)
    (eg : ∀ args w, (callFunc gf args).run P w = .ok (.enter gf args) w) {vals : σ → Option (Array Value)} {Adv : σ → σ → Prop} {s0 : σ} {R : σ → World → Prop} (hseq : SeqS P gf lb vals Adv s0 R) (hps : ∀ s v, vals s = some v → v.size = ps.size)
    (id : Nat) (I : σ → World → Prop) (X : World → Prop) (hI : ∀ s W W', I s W → W.grownBy W' (some (w.heap.size + 1)) → I s W') (hX : ∀ W W', X W → W.grownBy W' (some (w.heap.size + 1)) → X W')
    (hB : ∀ s W W', I s W → Below W.heap.size W W' → I s W') (hR : ∀ s W, I s W → R s W) (h0 : I s0 w)
    (hround : ∀ s v W, vals s = some v → I s W → w.heap.size + 1 < W.heap.size → assign.wpIn (Fence.wide.inRound (w.heap.size + 1)) (n - 1 - 1) P
      (Exit.then (fun a' W' => keep2 w.heap.size W W' ∧ ∀ W2, W'.grownBy W2 (some (w.heap.size + 1)) → (∃ r, W2.heap[w.heap.size + 1]? = some (.loop r)) → W2.heap.size = W'.heap.size →
        body.wpIn (Fence.wide.inRound (w.heap.size + 1)) (n - 1 - 1) P (exPost id (keep2 w.heap.size) I Adv X s W2) a' W2) (fun _ _ _ => False))
      { tmps := (ps.zip v).foldl (fun t (p, v) => t.setIfInBounds p v) a.tmps, defers := [] } W)
    (hdone : ∀ s W, vals s = none → I s W → W.heap[w.heap.size]? = some (.deferred (some [])) → Q .normal { a with defers := { target := .collected w.heap.size, args := #[] } :: a.defers } W)
    (hstop : ∀ W, X W → W.heap[w.heap.size]? = some (.deferred (some [])) → (Code.exit id).wpIn Fence.wide n P Q { a with defers := { target := .collected w.heap.size, args := #[] } :: a.defers } W) :
    (Code.rangeFunc g ps assign body).wpIn Fence.wide n P Q a w := by
  refine wpIn_rangeFunc fun fn _ => ?_
  obtain ⟨D, hD⟩ : ∃ D, D = w.heap.size := ⟨_, rfl⟩
  rw [← hD] at hI hX hround hdone hstop
  let rec_ : LoopState → Option Code → Loop := fun st pe => { state := st, pending := pe, fn, tmps := a.tmps, params := ps, assign, body, defers := D }
  let W1 := (w.alloc (.deferred (some []))).alloc (.loop (rec_ .ready none))
  have s1 : (w.alloc (.deferred (some []))).heap.size = D + 1 := by rw [World.size_alloc, hD]
  have hL1 : W1.heap[D + 1]? = some (.loop (rec_ .ready none)) := by rw [← s1]; exact World.alloc_heap_new _ _
  have hK1 : W1.heap[D]? = some (.deferred (some [])) := by rw [hD]; exact (Below.heap_alloc _ _ _ (by simp)).trans (World.alloc_heap_new w _)
  have hI1 : I s0 W1 := hI _ _ _ (hI _ _ _ h0 (World.grownBy_alloc _ _ _)) (World.grownBy_alloc _ _ _)
  refine ⟨D + 1, [{ target := .collected D, args := #[] }], W1, { target := .fn (.func gf) lb, args := #[.func (.yield (D + 1)) #[] #[]] }, W1, gf, #[.func (.yield (D + 1)) #[] #[]] ++ lb, W1, ?_, ?_, fun _ _ => trivial, ?_, fun h => by simp [Fence.wide] at h, ?_⟩
  · rw [hD]
    exact (run_enterLoop_outer fn a.tmps ps assign body).trans (by simp only [W1, rec_, hD])
  · simp only [resolve, hg]
    simp [go_sem]
  · simp [invoke, go_sem, eg]
  · refine (hseq (n - 1) (D + 1) (fun s W => I s W ∧ W.heap[D + 1]? = some (.loop (rec_ .ready none)) ∧ W.heap[D]? = some (.deferred (some [])))
      (fun W => X W ∧ W.heap[D + 1]? = some (.loop (rec_ .done (some (.exit id)))) ∧ W.heap[D]? = some (.deferred (some []))) W1 (fun s W h => hR s W h.1) ?_ ?_ ⟨hI1, hL1, hK1⟩).mono ?_
    · rintro s Wa Wb ⟨h1, h2, h3⟩ hb
      exact ⟨hB s Wa Wb h1 hb, (hb.block _ (Array.getElem?_eq_some_iff.1 h2).1).trans h2, (hb.block _ (Array.getElem?_eq_some_iff.1 h3).1).trans h3⟩
    · rintro s v W hv ⟨hi, hl, hd⟩
      have hlt : D + 1 < W.heap.size := (Array.getElem?_eq_some_iff.1 hl).1
      refine ⟨_, _, _, _, run_yield hl (hps s v hv), roundIn_of_wpIn trivial (wpIn_mono (hround s v W hv hi hlt) ?_)⟩
      intro e a' Wa hp
      cases e with
      | normal =>
        obtain ⟨⟨e1, e2, e3⟩, hbody⟩ := hp
        have hla := e1.trans hl
        have hda := e2.trans hd
        have hlta : D + 1 < Wa.heap.size := by omega
        have hg1 := grownBy_putObj' Wa (D + 1) (.loop { rec_ .ready none with state := .busy })
        have hl2 : (Wa.putObj (D + 1) (.loop { rec_ .ready none with state := .busy })).heap[D + 1]? = some (.loop { rec_ .ready none with state := .busy }) := World.putObj_heap_same hlta
        refine ⟨_, run_beginRound hla rfl, wpIn_mono (hbody _ hg1 ⟨_, hl2⟩ (by simp [World.putObj])) ?_⟩
        intro e a3 W3 hp
        cases e with
        | normal =>
          obtain ⟨⟨s', hadv, hi3⟩, e4, e5, e6⟩ := hp
          have hl3 := e4.trans hl2
          have hd3 := (e5.trans (World.putObj_heap_other (by omega))).trans hda
          refine ⟨_, _, run_endRound none hl3, .inl ⟨rfl, s', hadv, hI _ _ _ hi3 (grownBy_putObj' _ _ _), World.putObj_heap_same (Array.getElem?_eq_some_iff.1 hl3).1, (World.putObj_heap_other (by omega)).trans hd3⟩⟩
        | exit i =>
          obtain ⟨⟨rfl, hx⟩, e4, e5, e6⟩ := hp
          have hl3 := e4.trans hl2
          have hd3 := (e5.trans (World.putObj_heap_other (by omega))).trans hda
          refine ⟨_, _, run_endRound (some (.exit i)) hl3, .inr ⟨rfl, hX _ _ hx (grownBy_putObj' _ _ _), World.putObj_heap_same (Array.getElem?_eq_some_iff.1 hl3).1, (World.putObj_heap_other (by omega)).trans hd3⟩⟩
        | _ => exact hp.elim
      | _ => exact hp.elim
    · rintro e W2 ⟨⟨v, rfl⟩, (⟨s, hs, hi, hl, hd⟩ | ⟨hx, hl, hd⟩)⟩
      · exact ⟨none, _, run_endLoop hl (by simp [rec_]), hdone _ _ hs (hI _ _ _ hi (grownBy_putObj' _ _ _)) ((World.putObj_heap_other (by omega)).trans hd)⟩
      · exact ⟨some (.exit id), _, run_endLoop hl (by simp [rec_]), hstop _ (hX _ _ hx (grownBy_putObj' _ _ _)) ((World.putObj_heap_other (by omega)).trans hd)⟩

/-- .. within a round of the loop l0. -/
theorem wpIn_rangeT {σ : Type} {P : Program} {n : Nat} {g : Operand} {ps : Array Tmp} {assign body : Code} {Q : Exit → Act → World → Prop} {a : Act} {w : World} {gf l0 : Nat} {r0 : Loop} {lb : Array Value} (hl0 : w.heap[l0]? = some (.loop r0)) (hg : a.eval g = .func (.func gf) #[] lb)
    (eg : ∀ args w, (callFunc gf args).run P w = .ok (.enter gf args) w) {vals : σ → Option (Array Value)} {Adv : σ → σ → Prop} {s0 : σ} {R : σ → World → Prop} (hseq : SeqS P gf lb vals Adv s0 R) (hps : ∀ s v, vals s = some v → v.size = ps.size)
    (id : Nat) (I : σ → World → Prop) (X : World → Prop) (hI : ∀ s W W', I s W → W.grownBy W' (some w.heap.size) → I s W') (hX : ∀ W W', X W → W.grownBy W' (some w.heap.size) → X W')
    (hB : ∀ s W W', I s W → Below W.heap.size W W' → I s W') (hR : ∀ s W, I s W → R s W) (h0 : I s0 w)
    (hround : ∀ s v W, vals s = some v → I s W → w.heap.size < W.heap.size → assign.wpIn (Fence.wide.inRound w.heap.size) (n - 1 - 1) P
      (Exit.then (fun a' W' => keep1 w.heap.size W W' ∧ ∀ W2, W'.grownBy W2 (some w.heap.size) → (∃ r, W2.heap[w.heap.size]? = some (.loop r)) → W2.heap.size = W'.heap.size →
        body.wpIn (Fence.wide.inRound w.heap.size) (n - 1 - 1) P (exPost id (keep1 w.heap.size) I Adv X s W2) a' W2) (fun _ _ _ => False))
      { tmps := (ps.zip v).foldl (fun t (p, v) => t.setIfInBounds p v) a.tmps, defers := [] } W)
    (hdone : ∀ s W, vals s = none → I s W → Q .normal a W)
    (hstop : ∀ W, X W → (Code.exit id).wpIn (Fence.wide.inRound l0) n P Q a W) :
    (Code.rangeFunc g ps assign body).wpIn (Fence.wide.inRound l0) n P Q a w := by
  refine wpIn_rangeFunc fun fn _ => ?_
  obtain ⟨D, hD⟩ : ∃ D, D = w.heap.size := ⟨_, rfl⟩
  rw [← hD] at hI hX hround
  let rec_ : LoopState → Option Code → Loop := fun st pe => { state := st, pending := pe, fn, tmps := a.tmps, params := ps, assign, body, defers := r0.defers }
  let W1 := w.alloc (.loop (rec_ .ready none))
  have hL1 : W1.heap[D]? = some (.loop (rec_ .ready none)) := by rw [hD]; exact World.alloc_heap_new _ _
  have hI1 : I s0 W1 := hI _ _ _ h0 (World.grownBy_alloc _ _ _)
  refine ⟨D, [], W1, { target := .fn (.func gf) lb, args := #[.func (.yield D) #[] #[]] }, W1, gf, #[.func (.yield D) #[] #[]] ++ lb, W1, ?_, ?_, fun _ _ => trivial, ?_, fun h => by simp [Fence.wide] at h, ?_⟩
  · rw [hD]
    exact (run_enterLoop_inner hl0 fn a.tmps ps assign body).trans (by simp only [W1, rec_])
  · simp only [resolve, hg]
    simp [go_sem]
  · simp [invoke, go_sem, eg]
  · refine CallsIn.inRound l0 ((hseq (n - 1) D (fun s W => I s W ∧ W.heap[D]? = some (.loop (rec_ .ready none)))
      (fun W => X W ∧ W.heap[D]? = some (.loop (rec_ .done (some (.exit id))))) W1 (fun s W h => hR s W h.1) ?_ ?_ ⟨hI1, hL1⟩).mono ?_)
    · rintro s Wa Wb ⟨h1, h2⟩ hb
      exact ⟨hB s Wa Wb h1 hb, (hb.block _ (Array.getElem?_eq_some_iff.1 h2).1).trans h2⟩
    · rintro s v W hv ⟨hi, hl⟩
      have hlt : D < W.heap.size := (Array.getElem?_eq_some_iff.1 hl).1
      refine ⟨_, _, _, _, run_yield hl (hps s v hv), roundIn_of_wpIn trivial (wpIn_mono (hround s v W hv hi hlt) ?_)⟩
      intro e a' Wa hp
      cases e with
      | normal =>
        obtain ⟨⟨e1, e3⟩, hbody⟩ := hp
        have hla := e1.trans hl
        have hlta : D < Wa.heap.size := by omega
        have hg1 := grownBy_putObj' Wa D (.loop { rec_ .ready none with state := .busy })
        have hl2 : (Wa.putObj D (.loop { rec_ .ready none with state := .busy })).heap[D]? = some (.loop { rec_ .ready none with state := .busy }) := World.putObj_heap_same hlta
        refine ⟨_, run_beginRound hla rfl, wpIn_mono (hbody _ hg1 ⟨_, hl2⟩ (by simp [World.putObj])) ?_⟩
        intro e a3 W3 hp
        cases e with
        | normal =>
          obtain ⟨⟨s', hadv, hi3⟩, e4, e6⟩ := hp
          have hl3 := e4.trans hl2
          refine ⟨_, _, run_endRound none hl3, .inl ⟨rfl, s', hadv, hI _ _ _ hi3 (grownBy_putObj' _ _ _), World.putObj_heap_same (Array.getElem?_eq_some_iff.1 hl3).1⟩⟩
        | exit i =>
          obtain ⟨⟨rfl, hx⟩, e4, e6⟩ := hp
          have hl3 := e4.trans hl2
          refine ⟨_, _, run_endRound (some (.exit i)) hl3, .inr ⟨rfl, hX _ _ hx (grownBy_putObj' _ _ _), World.putObj_heap_same (Array.getElem?_eq_some_iff.1 hl3).1⟩⟩
        | _ => exact hp.elim
      | _ => exact hp.elim
    · rintro e W2 ⟨⟨v, rfl⟩, (⟨s, hs, hi, hl⟩ | ⟨hx, hl⟩)⟩
      · exact ⟨none, _, run_endLoop hl (by simp [rec_]), hdone _ _ hs (hI _ _ _ hi (grownBy_putObj' _ _ _))⟩
      · exact ⟨some (.exit id), _, run_endLoop hl (by simp [rec_]), hstop _ (hX _ _ hx (grownBy_putObj' _ _ _))⟩
end Go.Proofs.Ytmajhjkibmbikaa
