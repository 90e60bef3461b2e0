/- Several texts in one: RangeM. What each proves, and its conditions, stands at its own head. -/
import Derived.Test.YtalbiieagcandaaPkR16
import Derived.Test.YtalbiieagcandaaPkR2
/- A range over a function that has memory of its own, whose rounds are known one by one, none of which leaves the loop (no program here). Conditions: those that each theorem names. -/
namespace Go.Proofs.Ytalbiieagcandaa
open Go.RowKit

/-- Blocks of the iterator's own, new ones among them. -/
def Newer (w : World) (S S' : Nat → Prop) : Prop := ∀ i, S' i → S i ∨ w.heap.size ≤ i
/-- An iterator that yields vals 0 .. vals (N - 1), one by one; It: what it keeps ahead of its round k, in the blocks S; Fin: what it leaves. -/
def SeqM (P : Program) (g : Nat) (lb : Array Value) (vals : Nat → Array Value) (N : Nat) (It : Nat → (Nat → Prop) → World → Prop) (Fin : (Nat → Prop) → World → Prop) : Prop :=
  ∀ (n l : Nat) (J Y : Nat → (Nat → Prop) → World → Prop) (F : (Nat → Prop) → World → Prop) (S : Nat → Prop) (W : World),
    (∀ k S W1, J k S W1 → It k S W1) →
    (∀ k S W1 S' W2, k < N → J k S W1 → Touch S W1 W2 → Newer W1 S S' → It (k + 1) S' W2 → Y k S' W2) →
    (∀ k S W1, k < N → Y k S W1 → YieldAt Fence.wide (n - 1) P l (vals k) W1 fun e W' => e = .returned (.bool true) ∧ J (k + 1) S W') →
    (∀ S W1 S' W2, J N S W1 → Touch S W1 W2 → Newer W1 S S' → Fin S' W2 → F S' W2) →
    J 0 S W → CallsIn Fence.wide n P g (#[.func (.yield l) #[] #[]] ++ lb) W fun e W' => (∃ v, e = .returned v) ∧ ∃ S', F S' W'

theorem wpIn_rangeM {P : Program} {n : Nat} {g : Operand} {ps : Array Tmp} {assign body : Code} {Q : Exit → Act → World → Prop} {a : Act} {w : World} {gf : Nat} {lb : Array Value} (hg : a.eval g = .func (.func gf) #[] lb)
    (eg : ∀ args w, (callFunc gf args).run P w = .ok (.enter gf args) w) {vals : Nat → Array Value} {N : Nat} {It : Nat → (Nat → Prop) → World → Prop} {Fin : (Nat → Prop) → World → Prop} (hseq : SeqM P gf lb vals N It Fin) (hps : ∀ k, (vals k).size = ps.size)
    (I Im : Nat → (Nat → Prop) → World → Prop) (A : Nat → (Nat → Prop) → Act → World → Prop) (F : (Nat → Prop) → World → Prop)
    (hI : ∀ k S W W', I k S W → ¬ S (w.heap.size + 1) → W.grownBy W' (some (w.heap.size + 1)) → I k S W') (hA : ∀ k S a' W W', A k S a' W → ¬ S (w.heap.size + 1) → W.grownBy W' (some (w.heap.size + 1)) → A k S a' W')
    (hF : ∀ S W W', F S W → ¬ S (w.heap.size + 1) → W.grownBy W' (some (w.heap.size + 1)) → F S W')
    (hR : ∀ k S W, I k S W → It k S W)
    (hM : ∀ k S W1 S' W2, k < N → I k S W1 → Touch S W1 W2 → Newer W1 S S' → It (k + 1) S' W2 → Im k S' W2)
    (hE : ∀ S W1 S' W2, I N S W1 → Touch S W1 W2 → Newer W1 S S' → Fin S' W2 → F S' W2)
    {S0 : Nat → Prop} (h0 : I 0 S0 w) (hS0 : ∀ i, S0 i → i < w.heap.size)
    (hassign : ∀ k S W, k < N → Im k S W → w.heap.size + 1 < W.heap.size → ¬ S w.heap.size → ¬ S (w.heap.size + 1) → assign.wpIn (Fence.wide.inRound (w.heap.size + 1)) (n - 1 - 1) P
      (Exit.then (asPost w.heap.size (A k S) W) (fun _ _ _ => False))
      { tmps := (ps.zip (vals k)).foldl (fun t (p, v) => t.setIfInBounds p v) a.tmps, defers := [] } W)
    (hbody : ∀ k S a' W, k < N → A k S a' W → w.heap.size + 1 < W.heap.size → ¬ S w.heap.size → ¬ S (w.heap.size + 1) → body.wpIn (Fence.wide.inRound (w.heap.size + 1)) (n - 1 - 1) P (onPost w.heap.size (I (k + 1) S) W) a' W)
    (hdone : ∀ S W, F S W → W.heap[w.heap.size]? = some (.deferred (some [])) → Q .normal { a with defers := { target := .collected w.heap.size, args := #[] } :: a.defers } W) :
    (Code.rangeFunc g ps assign body).wpIn Fence.wide n P Q a w := by
  refine wpIn_rangeFunc fun fn _ => ?_
  obtain ⟨D, hD⟩ : ∃ D, D = w.heap.size := ⟨_, rfl⟩
  rw [← hD] at hI hA hF hassign hbody hdone hS0
  let rec_ : LoopState → Loop := fun st => { state := st, pending := none, fn, tmps := a.tmps, params := ps, assign, body, defers := D }
  let W1 := (w.alloc (.deferred (some []))).alloc (.loop (rec_ .ready))
  have s1 : (w.alloc (.deferred (some []))).heap.size = D + 1 := by rw [World.size_alloc, hD]
  have hL1 : W1.heap[D + 1]? = some (.loop (rec_ .ready)) := by rw [← s1]; exact World.alloc_heap_new _ _
  have hK1 : W1.heap[D]? = some (.deferred (some [])) := by rw [hD]; exact (Below.heap_alloc _ _ _ (by simp)).trans (World.alloc_heap_new w _)
  have n0 : ¬ S0 D := fun h => by have := hS0 _ h; omega
  have n1 : ¬ S0 (D + 1) := fun h => by have := hS0 _ h; omega
  have hI1 : I 0 S0 W1 := hI _ _ _ _ (hI _ _ _ _ h0 n1 (World.grownBy_alloc _ _ _)) n1 (World.grownBy_alloc _ _ _)
  refine ⟨D + 1, [{ target := .collected D, args := #[] }], W1, { target := .fn (.func gf) lb, args := #[.func (.yield (D + 1)) #[] #[]] }, W1, gf, #[.func (.yield (D + 1)) #[] #[]] ++ lb, W1, ?_, ?_, fun _ _ => trivial, ?_, fun h => by simp [Fence.wide] at h, ?_⟩
  · rw [hD]
    exact (run_enterLoop_outer fn a.tmps ps assign body).trans (by simp only [W1, rec_, hD])
  · simp only [resolve, hg]
    simp [go_sem]
  · simp [invoke, go_sem, eg]
  · have keep : ∀ {S S' : Nat → Prop} {Wa Wb : World} {o : Obj} {k : Nat}, Wa.heap[k]? = some o → Touch S Wa Wb → ¬ S k → Wb.heap[k]? = some o := fun h ht hn => (ht.block _ (lt_of_block h) hn).trans h
    refine (hseq (n - 1) (D + 1) (fun k S W => (I k S W ∧ ¬ S D ∧ ¬ S (D + 1)) ∧ W.heap[D + 1]? = some (.loop (rec_ .ready)) ∧ W.heap[D]? = some (.deferred (some [])))
      (fun k S W => (Im k S W ∧ ¬ S D ∧ ¬ S (D + 1)) ∧ W.heap[D + 1]? = some (.loop (rec_ .ready)) ∧ W.heap[D]? = some (.deferred (some [])))
      (fun S W => (F S W ∧ ¬ S D ∧ ¬ S (D + 1)) ∧ W.heap[D + 1]? = some (.loop (rec_ .ready)) ∧ W.heap[D]? = some (.deferred (some []))) S0 W1 (fun k S W h => hR k S W h.1.1) ?_ ?_ ?_ ⟨⟨hI1, n0, n1⟩, hL1, hK1⟩).mono ?_
    · rintro k S W S' W2 hk ⟨⟨hi, m0, m1⟩, hl, hd⟩ ht hn hit
      have q1 := lt_of_block hl
      exact ⟨⟨hM k S W S' W2 hk hi ht hn hit, fun h => by rcases hn _ h with h | h; exact m0 h; omega, fun h => by rcases hn _ h with h | h; exact m1 h; omega⟩, keep (S' := S') hl ht m1, keep (S' := S') hd ht m0⟩
    · rintro k S W hk ⟨⟨hi, m0, m1⟩, hl, hd⟩
      have hlt : D + 1 < W.heap.size := (Array.getElem?_eq_some_iff.1 hl).1
      refine ⟨_, _, _, _, run_yield hl (hps k), roundIn_of_wpIn trivial (wpIn_mono (hassign k S W hk hi hlt m0 m1) ?_)⟩
      intro e a' Wa hp
      cases e with
      | normal =>
        obtain ⟨ha, e1, e2, e3⟩ := hp
        have hla := e1.trans hl
        have hda := e2.trans hd
        have hlta : D + 1 < Wa.heap.size := by omega
        have hg1 := grownBy_putObj' Wa (D + 1) (.loop { rec_ .ready with state := .busy })
        refine ⟨_, run_beginRound hla rfl, wpIn_mono (hbody k S a' _ hk (hA _ _ _ _ _ ha m1 hg1) (by simpa using hlta) m0 m1) ?_⟩
        intro e a3 W3 hp
        cases e with
        | normal =>
          obtain ⟨hi3, e4, e5, e6⟩ := hp
          have hl3 := e4.trans (World.putObj_heap_same (o := .loop { rec_ .ready with state := .busy }) hlta)
          have hd3 := (e5.trans (World.putObj_heap_other (by omega))).trans hda
          refine ⟨_, _, run_endRound none hl3, rfl, ⟨hI _ _ _ _ hi3 m1 (grownBy_putObj' _ _ _), m0, m1⟩, World.putObj_heap_same (Array.getElem?_eq_some_iff.1 hl3).1, (World.putObj_heap_other (by omega)).trans hd3⟩
        | _ => exact hp.elim
      | _ => exact hp.elim
    · rintro S W S' W2 ⟨⟨hi, m0, m1⟩, hl, hd⟩ ht hn hfin
      have q1 := lt_of_block hl
      exact ⟨⟨hE S W S' W2 hi ht hn hfin, fun h => by rcases hn _ h with h | h; exact m0 h; omega, fun h => by rcases hn _ h with h | h; exact m1 h; omega⟩, keep (S' := S') hl ht m1, keep (S' := S') hd ht m0⟩
    · rintro e W2 ⟨⟨v, rfl⟩, S', ⟨hi, m0, m1⟩, hl, hd⟩
      exact ⟨none, _, run_endLoop hl (by simp [rec_]), hdone _ _ (hF _ _ _ hi m1 (grownBy_putObj' _ _ _)) ((World.putObj_heap_other (by omega)).trans hd)⟩
end Go.Proofs.Ytalbiieagcandaa
