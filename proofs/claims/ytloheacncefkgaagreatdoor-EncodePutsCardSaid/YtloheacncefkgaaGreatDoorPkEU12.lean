/- Several texts in one: LyVs, RangeLaw. What each proves, and its conditions, stands at its own head. -/
import Derived.Shelf.Unicode.ValidAny
import Derived.Lib.LaidU8T
import Derived.Test.YtloheacncefkgaaGreatDoorChecked
import Derived.RangeFuncNested
import Derived.RangeFuncBound
import Derived.Shelf.Abstract
/- A function of the library, with all that it calls, laid at this seat: unicode/utf8.ValidString. Conditions: none. -/
namespace Go.Proofs.YtloheacncefkgaaGreatDoor
open Go.Shelf

def lvs_ren : Ren := ⟨fun | 196 => 134 | 259 => 153 | n => n, fun | 0 => 0 | 3 => 3 | 4 => 4 | 5 => 5 | 9 => 9 | 12 => 12 | 46 => 154 | 53 => 61 | 119 => 173 | 138 => 175 | 139 => 176 | n => n, fun | 3 => 1 | 4 => 2 | n => n⟩
theorem lvs_lays : Lays.n196 Tryz.prog lvs_ren := {
 mixed := by kernel_rfl
 f196 := Tryz.func134.trans (congrArg some (by kernel_rfl))
 f259 := Tryz.func153.trans (congrArg some (by kernel_rfl))
 t0 := Tryz.underlying0
 a0 := Tryz.isAgg0
 z0 := Tryz.sizeOf0
 v0 := Tryz.zeroValue0
 t3 := Tryz.underlying3
 a3 := Tryz.isAgg3
 z3 := Tryz.sizeOf3
 v3 := Tryz.zeroValue3
 t4 := Tryz.underlying4
 a4 := Tryz.isAgg4
 z4 := Tryz.sizeOf4
 v4 := Tryz.zeroValue4
 t5 := Tryz.underlying5
 a5 := Tryz.isAgg5
 z5 := Tryz.sizeOf5
 v5 := Tryz.zeroValue5
 t9 := Tryz.underlying9
 a9 := Tryz.isAgg9
 z9 := Tryz.sizeOf9
 v9 := Tryz.zeroValue9
 t12 := Tryz.underlying12
 a12 := Tryz.isAgg12
 z12 := Tryz.sizeOf12
 v12 := Tryz.zeroValue12
 t46 := Tryz.underlying154
 a46 := Tryz.isAgg154
 z46 := Tryz.sizeOf154
 v46 := Tryz.zeroValue154
 t53 := Tryz.underlying61
 a53 := Tryz.isAgg61
 z53 := Tryz.sizeOf61
 v53 := Tryz.zeroValue61
 t119 := Tryz.underlying173
 a119 := Tryz.isAgg173
 z119 := Tryz.sizeOf173
 t138 := Tryz.underlying175
 a138 := Tryz.isAgg175
 z138 := Tryz.sizeOf175
 v138 := Tryz.zeroValue175
 t139 := Tryz.underlying176
 a139 := Tryz.isAgg176
 z139 := Tryz.sizeOf176
 v139 := Tryz.zeroValue176
 g3 := by kernel_rfl
 g4 := by kernel_rfl }
end Go.Proofs.YtloheacncefkgaaGreatDoor

/- A range over a function whose rounds are known one by one, none of which leaves the loop (no program here). Conditions: those that each theorem names. -/
namespace Go.Proofs.YtloheacncefkgaaGreatDoor
open Go.RowKit

/-- How a round is left: on its way, the blocks l and l - 1 as they were. -/
def onPost (l : Nat) (J : World → Prop) (W : World) : Exit → Act → World → Prop
 | .normal, _, W' => J W' ∧ W'.heap[l + 1]? = W.heap[l + 1]? ∧ W'.heap[l]? = W.heap[l]? ∧ W.heap.size ≤ W'.heap.size
 | _, _, _ => False
/-- How the assignment to the loop's variables is left. -/
def asPost (l : Nat) (A : Act → World → Prop) (W : World) (a' : Act) (W' : World) : Prop := A a' W' ∧ W'.heap[l + 1]? = W.heap[l + 1]? ∧ W'.heap[l]? = W.heap[l]? ∧ W.heap.size ≤ W'.heap.size

/-- An iterator that yields vals 0 .. vals (N - 1), one by one; R is what it reads. -/
def SeqN (P : Program) (g : Nat) (lb : Array Value) (vals : Nat → Array Value) (N : Nat) (R : World → Prop) : Prop :=
 ∀ (n l : Nat) (J : Nat → World → Prop) (W : World), (∀ k W1, J k W1 → R W1) →
   (∀ k W1, k < N → J k W1 → YieldAt Fence.wide (n - 1) P l (vals k) W1 fun e W' => e = .returned (.bool true) ∧ J (k + 1) W') → J 0 W →
   CallsIn Fence.wide n P g (#[.func (.yield l) #[] #[]] ++ lb) W fun e W' => (∃ v, e = .returned v) ∧ J N W'

theorem wpIn_rangeN {P : Program} {n : Nat} {g : Operand} {ps : Array Tmp} {assign body : Code} {Q : Exit → Act → World → Prop} {a : Act} {w : World} {gf : Nat} {lb : Array Value} (hg : a.eval g = .func (.func gf) #[] lb)
 (eg : ∀ args w, (callFunc gf args).run P w = .ok (.enter gf args) w) {vals : Nat → Array Value} {N : Nat} {R : World → Prop} (hseq : SeqN P gf lb vals N R) (hps : ∀ k, (vals k).size = ps.size)
 (I : Nat → World → Prop) (A : Nat → Act → World → Prop) (hI : ∀ k W W', I k W → W.grownBy W' (some (w.heap.size + 1)) → I k W') (hA : ∀ k a' W W', A k a' W → W.grownBy W' (some (w.heap.size + 1)) → A k a' W')
 (hR : ∀ k W, I k W → R W) (h0 : I 0 w)
 (hassign : ∀ k W, k < N → I k W → w.heap.size + 1 < W.heap.size → assign.wpIn (Fence.wide.inRound (w.heap.size + 1)) (n - 1 - 1) P
  (Exit.then (asPost w.heap.size (A k) W) (fun _ _ _ => False))
  { tmps := (ps.zip (vals k)).foldl (fun t (p, v) => t.setIfInBounds p v) a.tmps, defers := [] } W)
 (hbody : ∀ k a' W, k < N → A k a' W → w.heap.size + 1 < W.heap.size → body.wpIn (Fence.wide.inRound (w.heap.size + 1)) (n - 1 - 1) P (onPost w.heap.size (I (k + 1)) W) a' W)
 (hdone : ∀ W, I N W → W.heap[w.heap.size]? = some (.deferred (some [])) → Q .normal { a with defers := { target := .collected w.heap.size, args := #[] } :: a.defers } W) :
 (Code.rangeFunc g ps assign body).wpIn Fence.wide n P Q a w := by
 refine wpIn_rangeFunc fun fn _ => ?_
 obtain ⟨D, hD⟩ : ∃ D, D = w.heap.size := ⟨_, rfl⟩
 rw [← hD] at hI hA hassign hbody hdone
 let rec_ : LoopState → Loop := fun st => { state := st, pending := none, fn, tmps := a.tmps, params := ps, assign, body, defers := D }
 let W1 := (w.alloc (.deferred (some []))).alloc (.loop (rec_ .ready))
 have s1 : (w.alloc (.deferred (some []))).heap.size = D + 1 := by rw [World.size_alloc, hD]
 have hL1 : W1.heap[D + 1]? = some (.loop (rec_ .ready)) := by rw [← s1]; exact World.alloc_heap_new _ _
 have hK1 : W1.heap[D]? = some (.deferred (some [])) := by rw [hD]; exact (Below.heap_alloc _ _ _ (by simp)).trans (World.alloc_heap_new w _)
 have hI1 : I 0 W1 := hI _ _ _ (hI _ _ _ h0 (World.grownBy_alloc _ _ _)) (World.grownBy_alloc _ _ _)
 refine ⟨D + 1, [{ target := .collected D, args := #[] }], W1, { target := .fn (.func gf) lb, args := #[.func (.yield (D + 1)) #[] #[]] }, W1, gf, #[.func (.yield (D + 1)) #[] #[]] ++ lb, W1, ?_, ?_, fun _ _ => trivial, ?_, fun h => by simp [Fence.wide] at h, ?_⟩
 ·rw [hD]
  exact (run_enterLoop_outer fn a.tmps ps assign body).trans (by simp only [W1, rec_, hD])
 ·simp only [resolve, hg]
  simp [go_sem]
 ·simp [invoke, go_sem, eg]
 ·refine (hseq (n - 1) (D + 1) (fun k W => I k W ∧ W.heap[D + 1]? = some (.loop (rec_ .ready)) ∧ W.heap[D]? = some (.deferred (some []))) W1 (fun k W h => hR k W h.1) ?_ ⟨hI1, hL1, hK1⟩).mono ?_
  ·rintro k W hk ⟨hi, hl, hd⟩
   have hlt : D + 1 < W.heap.size := (Array.getElem?_eq_some_iff.1 hl).1
   refine ⟨_, _, _, _, run_yield hl (hps k), roundIn_of_wpIn trivial (wpIn_mono (hassign k W hk hi hlt) ?_)⟩
   intro e a' Wa hp
   cases e with
   | normal =>
     obtain ⟨ha, e1, e2, e3⟩ := hp
     have hla := e1.trans hl
     have hda := e2.trans hd
     have hlta : D + 1 < Wa.heap.size := by omega
     have hg1 := grownBy_putObj' Wa (D + 1) (.loop { rec_ .ready with state := .busy })
     refine ⟨_, run_beginRound hla rfl, wpIn_mono (hbody k a' _ hk (hA _ _ _ _ ha hg1) (by simpa using hlta)) ?_⟩
     intro e a3 W3 hp
     cases e with
     | normal =>
       obtain ⟨hi3, e4, e5, e6⟩ := hp
       have hl3 := e4.trans (World.putObj_heap_same (o := .loop { rec_ .ready with state := .busy }) hlta)
       have hd3 := (e5.trans (World.putObj_heap_other (by omega))).trans hda
       refine ⟨_, _, run_endRound none hl3, rfl, hI _ _ _ hi3 (grownBy_putObj' _ _ _), World.putObj_heap_same (Array.getElem?_eq_some_iff.1 hl3).1, (World.putObj_heap_other (by omega)).trans hd3⟩
     | _ => exact hp.elim
   | _ => exact hp.elim
  ·rintro e W2 ⟨⟨v, rfl⟩, hi, hl, hd⟩
   exact ⟨none, _, run_endLoop hl (by simp [rec_]), hdone _ (hI _ _ _ hi (grownBy_putObj' _ _ _)) ((World.putObj_heap_other (by omega)).trans hd)⟩
end Go.Proofs.YtloheacncefkgaaGreatDoor
