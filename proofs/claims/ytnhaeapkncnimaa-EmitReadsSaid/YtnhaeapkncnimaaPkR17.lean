/- Several texts in one: Backw. What each proves, and its conditions, stands at its own head. -/
import Derived.Test.YtnhaeapkncnimaaPkR7
import Derived.Test.YtnhaeapkncnimaaPkR16
import Derived.RangeFuncCalls
import Derived.RangeFuncLeaves
import Derived.Shelf.RegionOpen
import Derived.WalkKit
import Derived.OwnWalkIn
import Derived.TacticsInMore
import Derived.LoopNIn
import Derived.LoopIn
import Derived.Lib.Hide
/- slices.Backward over a list of structs of four fields: which pairs it yields, one by one. Conditions: those that each theorem names. -/
namespace Go.Proofs.Ytnhaeapkncnimaa
open Go.RowKit Go.Shelf
set_option linter.unusedVariables false
set_option maxRecDepth 100000
attribute [local go_sem] Oper.semAt_some

/-- The frame that is yielded in round k. -/
def frAt (ps : List (Fr × Value)) (k : Nat) : Fr × Value := ps[ps.length - 1 - k]?.getD (⟨0, 0, 0, []⟩, .slice none 0 0)
def frAgg (q : Fr × Value) : Value := .agg #[.int .u64 (q.1.tag : Int), .int .i64 (q.1.place : Int), .int .i64 (q.1.before : Int), q.2]
def frVals (ps : List (Fr × Value)) (k : Nat) : Array Value := #[.int .i64 ((ps.length - 1 - k : Nat) : Int), frAgg (frAt ps k)]
theorem frAt_get {ps : List (Fr × Value)} {k : Nat} (h : k < ps.length) : ps[ps.length - 1 - k]? = some (frAt ps k) := by
  unfold frAt
  rw [List.getElem?_eq_getElem (by omega)]
  rfl

theorem frAt_mem {ps : List (Fr × Value)} {k : Nat} (h : k < ps.length) : frAt ps k ∈ ps := List.mem_of_getElem? (frAt_get h)
theorem frAt_drop {ps : List (Fr × Value)} {k : Nat} (h : k < ps.length) : ps.drop (ps.length - (k + 1)) = frAt ps k :: ps.drop (ps.length - k) := by
  have h1 := frAt_get h
  rw [show ps.length - 1 - k = ps.length - (k + 1) by omega] at h1
  obtain ⟨h2, h3⟩ := List.getElem?_eq_some_iff.1 h1
  rw [List.drop_eq_getElem_cons h2, h3, show ps.length - (k + 1) + 1 = ps.length - k by omega]
theorem frAt_take {ps : List (Fr × Value)} {k : Nat} (h : k < ps.length) : ps.take (ps.length - k) = ps.take (ps.length - (k + 1)) ++ [frAt ps k] := by
  have h1 := frAt_get h
  rw [show ps.length - 1 - k = ps.length - (k + 1) by omega] at h1
  rw [show ps.length - k = ps.length - (k + 1) + 1 by omega, List.take_add_one, h1]
  rfl

theorem backward_any (A : Option Addr) (n cap : Nat) (w : World) :
    Calls Try.prog 51 #[.slice A n cap] w fun e w' => e = .returned (.func (.func 61) #[] #[.pointer (some ⟨w.heap.size, 0, none⟩)]) ∧ w' = w.alloc (.cells #[.slice A n cap] 52) := by
  go_enter Try.func51, Try.ntmps51
  go_wp2
  go_ret
  exact ⟨rfl, rfl⟩

set_option maxHeartbeats 2000000 in
theorem backward_seq (b g cap : Nat) (ps : List (Fr × Value)) (h47 : ps.length ≤ 1099511627776) :
    SeqN Try.prog 61 #[.pointer (some ⟨b, 0, none⟩)] (frVals ps) ps.length
      (fun W => W.cell? ⟨b, 0, none⟩ = some (.slice (some ⟨g, 0, none⟩) ps.length cap) ∧ ∀ j u, (frRow ps)[j]? = some u → W.cell? ⟨g, j, none⟩ = some u) := by
  intro n l J W hR hY h0
  obtain ⟨N, hN⟩ : ∃ N, N = ps.length := ⟨_, rfl⟩
  rw [← hN] at hR hY h47 ⊢
  have hNN := Lib.hid hN
  have HR := Lib.hid hR
  have HY := Lib.hid hY
  clear hN hR hY
  refine callsIn_of_wp Try.func61 rfl trivial ?_ rfl
  simp only [Try.ntmps61, List.size_toArray, List.length_cons, List.length_nil, Nat.reduceAdd, Nat.reduceSub, Array.replicate_succ, Array.replicate_zero, List.push_toArray, List.append_toArray, List.nil_append, List.cons_append]
  have hb0 := (HR.out 0 W h0).1
  gi_wp2
  gi_loopw [3] (fun i wr => ∃ k r : Nat, k + r = N ∧ i = .int .i64 ((r : Int) - 1) ∧ J k wr) (fun i _ => (intOf i + 1).toNat)
  case atStart => exact ⟨0, N, by omega, rfl, h0⟩
  case round =>
    obtain ⟨k, r, hk, rfl, hJ⟩ := hrel
    cases r with
    | zero =>
      gi_wp2
      go_end0
      exact ⟨⟨_, rfl⟩, by rw [show N = k by omega]; exact hJ⟩
    | succ r =>
      rw [show ((r + 1 : Nat) : Int) - 1 = (r : Int) by omega]
      obtain ⟨hb, hc⟩ := HR.out k wr hJ
      have hq : ps[r]? = some (frAt ps k) := by
        have := frAt_get (ps := ps) (k := k) (by have := hNN.out; omega)
        rwa [show ps.length - 1 - k = r by have := hNN.out; omega] at this
      have c0 : wr.cell? ⟨g, r * 4, none⟩ = _ := hc _ _ ((frRow_get hq (i := 0) (by omega)).trans rfl)
      have c1 := hc _ _ ((frRow_get hq (i := 1) (by omega)).trans rfl)
      have c2 := hc _ _ ((frRow_get hq (i := 2) (by omega)).trans rfl)
      have c3 := hc _ _ ((frRow_get hq (i := 3) (by omega)).trans rfl)
      obtain ⟨fn, tmps, assign, body, hy, hRR⟩ := HY.out k wr (by omega) hJ
      rw [show frVals ps k = #[.int .i64 (r : Int), frAgg (frAt ps k)] by unfold frVals; rw [show ps.length - 1 - k = r by have := hNN.out; omega]] at hy
      unfold frAgg at hy
      generalize frAt ps k = q at *
      have HQ := Lib.hid hq
      clear hc hq
      gi_wp2
      refine ⟨fun hd => by simp [Fence.wide] at hd, hRR.mono ?_⟩
      rintro e W3 ⟨rfl, hJ3⟩
      gi_wp2
      go_roundw
      case rel => exact ⟨k + 1, r, by omega, by go_num, hJ3⟩
      case measure => simp [intOf]
end Go.Proofs.Ytnhaeapkncnimaa
