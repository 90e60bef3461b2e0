/- Several texts in one: RangeLaw. What each proves, and its conditions, stands at its own head. -/
import Derived.RangeFuncNested
import Derived.RangeFuncBound
import Derived.Shelf.Abstract
/- A range over a function whose rounds are known one by one, none of which leaves the loop (no program here). Conditions: those that each theorem names. -/
namespace Go.Proofs.Ytalbiieagcandaa
open Go.RowKit

/-- How a round is left: on its way, the blocks l and l - 1 as they were. -/
def onPost (l : Nat) (J : World → Prop) (W : World) : Exit → Act → World → Prop
  | .normal, _, W' => J W' ∧ W'.heap[l + 1]? = W.heap[l + 1]? ∧ W'.heap[l]? = W.heap[l]? ∧ W.heap.size ≤ W'.heap.size
  | _, _, _ => False
theorem onPost_out {l : Nat} {J : World → Prop} {W : World} : ¬ LetsOut (onPost l J W) := fun ⟨_, _, h⟩ => h

/-- How the assignment to the loop's variables is left. -/
def asPost (l : Nat) (A : Act → World → Prop) (W : World) (a' : Act) (W' : World) : Prop := A a' W' ∧ W'.heap[l + 1]? = W.heap[l + 1]? ∧ W'.heap[l]? = W.heap[l]? ∧ W.heap.size ≤ W'.heap.size

/-- An iterator that yields vals 0 .. vals (N - 1), one by one; R is what it reads. -/
def SeqN (P : Program) (g : Nat) (lb : Array Value) (vals : Nat → Array Value) (N : Nat) (R : World → Prop) : Prop :=
  ∀ (n l : Nat) (J : Nat → World → Prop) (W : World), (∀ k W1, J k W1 → R W1) →
    (∀ k W1, k < N → J k W1 → YieldAt Fence.wide (n - 1) P l (vals k) W1 fun e W' => e = .returned (.bool true) ∧ J (k + 1) W') → J 0 W →
    CallsIn Fence.wide n P g (#[.func (.yield l) #[] #[]] ++ lb) W fun e W' => (∃ v, e = .returned v) ∧ J N W'

theorem wpIn_rangeN {P : Program} {n : Nat} {g : Operand} {ps : Array Tmp} {assign body : Code} {Q : Exit → Act → World → Prop} {a : Act} {w : World} {gf : Nat} {lb : Array Value} (hg : a.eval g = .func (.func gf) #[] lb)
    (eg : ∀ args w, (callFunc gf args).run P w = .ok (.enter gf args) w) {vals : Nat → Array Value} {N : Nat} {R : World → Prop} (hseq : SeqN P gf lb vals N R) (hps : ∀ k, (vals k).size = ps.size)
    (I : Nat → World → Prop) (A : Nat → Act → World → Prop) (hI : ∀ k W W', I k W → W.grownBy W' (some (w.heap.size + 1)) → I k W') (hA : ∀ k a' W W', A k a' W → W.grownBy W' (some (w.heap.size + 1)) → A k a' W')
    (hR : ∀ k W, I k W → R W) (h0 : I 0 w)
    (hassign : ∀ k W, k < N → I k W → w.heap.size + 1 < W.heap.size → assign.wpIn (Fence.wide.inRound (w.heap.size + 1)) (n - 1 - 1) P
      (Exit.then (asPost w.heap.size (A k) W) (fun _ _ _ => False))
      { tmps := (ps.zip (vals k)).foldl (fun t (p, v) => t.setIfInBounds p v) a.tmps, defers := [] } W)
    (hbody : ∀ k a' W, k < N → A k a' W → w.heap.size + 1 < W.heap.size → body.wpIn (Fence.wide.inRound (w.heap.size + 1)) (n - 1 - 1) P (onPost w.heap.size (I (k + 1)) W) a' W)
    (hdone : ∀ W, I N W → W.heap[w.heap.size]? = some (.deferred (some [])) → Q .normal { a with defers := { target := .collected w.heap.size, args := #[] } :: a.defers } W) :
    (Code.rangeFunc g ps assign body).wpIn Fence.wide n P Q a w := by
  refine wpIn_rangeFunc fun fn _ => ?_
  obtain ⟨D, hD⟩ : ∃ D, D = w.heap.size := ⟨_, rfl⟩
  rw [← hD] at hI hA hassign hbody hdone
  let rec_ : LoopState → Loop := fun st => { state := st, pending := none, fn, tmps := a.tmps, params := ps, assign, body, defers := D }
  let W1 := (w.alloc (.deferred (some []))).alloc (.loop (rec_ .ready))
  have s1 : (w.alloc (.deferred (some []))).heap.size = D + 1 := by rw [World.size_alloc, hD]
  have hL1 : W1.heap[D + 1]? = some (.loop (rec_ .ready)) := by rw [← s1]; exact World.alloc_heap_new _ _
  have hK1 : W1.heap[D]? = some (.deferred (some [])) := by rw [hD]; exact (Below.heap_alloc _ _ _ (by simp)).trans (World.alloc_heap_new w _)
  have hI1 : I 0 W1 := hI _ _ _ (hI _ _ _ h0 (World.grownBy_alloc _ _ _)) (World.grownBy_alloc _ _ _)
  refine ⟨D + 1, [{ target := .collected D, args := #[] }], W1, { target := .fn (.func gf) lb, args := #[.func (.yield (D + 1)) #[] #[]] }, W1, gf, #[.func (.yield (D + 1)) #[] #[]] ++ lb, W1, ?_, ?_, fun _ _ => trivial, ?_, fun h => by simp [Fence.wide] at h, ?_⟩
  · rw [hD]
    exact (run_enterLoop_outer fn a.tmps ps assign body).trans (by simp only [W1, rec_, hD])
  · simp only [resolve, hg]
    simp [go_sem]
  · simp [invoke, go_sem, eg]
  · refine (hseq (n - 1) (D + 1) (fun k W => I k W ∧ W.heap[D + 1]? = some (.loop (rec_ .ready)) ∧ W.heap[D]? = some (.deferred (some []))) W1 (fun k W h => hR k W h.1) ?_ ⟨hI1, hL1, hK1⟩).mono ?_
    · rintro k W hk ⟨hi, hl, hd⟩
      have hlt : D + 1 < W.heap.size := (Array.getElem?_eq_some_iff.1 hl).1
      refine ⟨_, _, _, _, run_yield hl (hps k), roundIn_of_wpIn trivial (wpIn_mono (hassign k W hk hi hlt) ?_)⟩
      intro e a' Wa hp
      cases e with
      | normal =>
        obtain ⟨ha, e1, e2, e3⟩ := hp
        have hla := e1.trans hl
        have hda := e2.trans hd
        have hlta : D + 1 < Wa.heap.size := by omega
        have hg1 := grownBy_putObj' Wa (D + 1) (.loop { rec_ .ready with state := .busy })
        refine ⟨_, run_beginRound hla rfl, wpIn_mono (hbody k a' _ hk (hA _ _ _ _ ha hg1) (by simpa using hlta)) ?_⟩
        intro e a3 W3 hp
        cases e with
        | normal =>
          obtain ⟨hi3, e4, e5, e6⟩ := hp
          have hl3 := e4.trans (World.putObj_heap_same (o := .loop { rec_ .ready with state := .busy }) hlta)
          have hd3 := (e5.trans (World.putObj_heap_other (by omega))).trans hda
          refine ⟨_, _, run_endRound none hl3, rfl, hI _ _ _ hi3 (grownBy_putObj' _ _ _), World.putObj_heap_same (Array.getElem?_eq_some_iff.1 hl3).1, (World.putObj_heap_other (by omega)).trans hd3⟩
        | _ => exact hp.elim
      | _ => exact hp.elim
    · rintro e W2 ⟨⟨v, rfl⟩, hi, hl, hd⟩
      exact ⟨none, _, run_endLoop hl (by simp [rec_]), hdone _ (hI _ _ _ hi (grownBy_putObj' _ _ _)) ((World.putObj_heap_other (by omega)).trans hd)⟩
end Go.Proofs.Ytalbiieagcandaa
