/- Several texts in one: Zeros. What each proves, and its conditions, stands at its own head. -/
import Derived.Test.YtloheacncefkgaaGreatDoorPkEU2
import Derived.Test.YtloheacncefkgaaGreatDoorPkEU0
import Derived.Lib.AppendZerosOnto
import Derived.Deep.RegionLaw
import Derived.Deep.AppendLies
/- append(s, make([]byte, k)...), s a row of bytes of the call's own: what it answers. Conditions: those that each theorem names. -/
namespace Go.Proofs.YtloheacncefkgaaGreatDoor
open Go.RowKit
set_option linter.unusedVariables false
set_option maxRecDepth 100000

def zerosOf (k : Nat) : List UInt8 := List.replicate k 0
theorem zeros_cells (k : Nat) : (Builtin.zeroCells #[.int .u8 0] k).toList = cellsOf (zerosOf k) := by
 apply List.ext_getElem
 ·simp [Builtin.zeroCells, cellsOf, zerosOf]
 ·intro i h1 h2
  simp [Builtin.zeroCells, cellsOf, zerosOf, Nat.mod_one]
theorem zeros_cells_length (k : Nat) : (cellsOf (zerosOf k)).length = k := by simp [cellsOf, zerosOf]

theorem run_append_zeros_room {P : Program} {w : World} (t tn ty e : TypeId) (i : TypeInfo) (kn : IntKind) (ht : P.underlying t = some (.slice e)) (htn : P.underlying tn = some (.int kn)) (hi : P.info? e = some i) (hz : i.zero = some (.int .u8 0)) (hs : i.size = 1) (hb1 : i.bytes = 1)
 (g n cap k : Nat) (cur : Array Value) (hg : w.heap[g]? = some (.cells cur e (0, 0))) (hsz : cur.size = cap) (h0 : 0 < k) (hroom : n + k ≤ cap) (hbig : k ≤ 140737488355328) :
 (Builtin.append_ #[t, tn] ty #[.slice (some ⟨g, 0, none⟩) n cap, .int .i64 (k : Int)]).run P w =
  .ok (.slice (some ⟨g, 0, none⟩) (n + k) cap) (w.setRow g (cur.toList.take n ++ cellsOf (zerosOf k) ++ cur.toList.drop (n + k)).toArray) := by
 have hst := run_storeCells_at P g n e (cellsOf (zerosOf k)) 0 cur w hg (by rw [zeros_cells_length]; omega) (cellsOf_one _)
 rw [zeros_cells_length] at hst
 simp only [Nat.add_zero] at hst
 have hw : IntKind.i64.wrap (k : Int) = k := by rw [IntKind.wrap_i64]; omega
 have hneg : ¬ ((k : Int) < 0) := by omega
 have h48i : ¬ (281474976710656 < (k : Int)) := by omega
 have hk : ¬ k = 0 := by omega
 simp [Builtin.append_, run_underlying ht, run_underlying htn, sizeOf, typeInfo, zeroValue, hi, hz, hs, hb1, asInt, asIntOf, hw, hneg, h48i, hroom, hk, Addr.add_lit, zeros_cells, Value.cells, hst]

theorem run_append_zeros_own {w : World} {base n : Nat} {v : Value} {pre : List UInt8} (ty : TypeId) (hown : w.ownsRow base 5 1 v n (cellsOf pre)) (k : Nat) (h0 : 0 < k) (h47 : n + k ≤ 70368744177664) (hbase : base ≤ w.heap.size) :
 ∃ v' w', (Builtin.append_ #[34, 3] ty #[v, .int .i64 (k : Int)]).run Tryz.prog w = .ok v' w' ∧ w'.ownsRow base 5 1 v' (n + k) (cellsOf (pre ++ zerosOf k)) ∧ w.grownBy w' v.ownBlock ∧
   (v'.ownBlock = v.ownBlock ∨ ∃ g, v'.ownBlock = some g ∧ w.heap.size ≤ g) := by
 obtain ⟨i, hi, hz0, hz1, hz2⟩ := info_parts info_u8
 obtain ⟨A, cap, rfl, hle, hmax, hnil, hsome⟩ := own_form hown
 have hlen := hown.1
 rw [Nat.mul_one] at hlen
 by_cases hroom : n + k ≤ cap
 ·rcases A with _ | a
  ·have := (hnil rfl).1
   omega
  ·obtain ⟨g, rfl⟩ := hsome a rfl
   obtain ⟨cur, hg, hcl, hct⟩ := own_whole hown
   rw [Nat.mul_one] at hcl hct
   have hr := run_append_zeros_room (P := Tryz.prog) (w := w) 34 3 ty 5 i .i64 Tryz.underlying34 Tryz.underlying3 hi hz0 hz1 hz2 g n cap k cur.toArray hg (by simpa using hcl) h0 hroom (by omega)
   refine ⟨_, _, hr, ⟨?_, .inr ⟨g, cap, _, rfl, ?_, setRow_heap w g _ _ _ _ hg, hroom, hmax, ?_, ?_⟩⟩, ⟨rfl, rfl, rfl, by simp [World.setRow], fun j _ hj => ?_⟩, .inl rfl⟩
   ·rw [cellsOf_append, List.length_append, zeros_cells_length, hlen]
    omega
   ·rcases hown.2 with ⟨h1, _⟩ | ⟨g', _, _, h1, h2, _⟩
    ·cases h1
    ·cases h1; exact h2
   ·have e1 := zeros_cells_length k
    simp
    omega
   ·rw [Nat.mul_one]
    simp only [List.append_assoc]
    rw [← List.append_assoc, List.take_append_of_le_length (by rw [List.length_append, zeros_cells_length, List.length_take]; omega), List.take_of_length_le (by rw [List.length_append, zeros_cells_length, List.length_take]; omega), hct, cellsOf_append]
   ·exact setRow_other w g j _ (fun e => hj (by rw [e]; rfl))
 ·have hold : (Builtin.firstCells i.size n (.slice A n cap)).run Tryz.prog w.drew = .ok (cellsOf pre).toArray w.drew := by
   cases A with
   | none =>
     have := (hnil rfl).2
     subst this
     rw [show cellsOf pre = [] from List.eq_nil_of_length_eq_zero hlen]
     exact run_firstCells_none w.drew i.size 0 _ _
   | some a =>
     obtain ⟨g, rfl⟩ := hsome a rfl
     exact run_firstCells_some w.drew i.size n _ n cap _ (by rw [hz1, Nat.mul_one]; exact hlen) (fun j u hu => hown.cells (g := g) rfl j u hu)
  have hbb : (n + k) * i.bytes ≤ 140737488355328 := by rw [hz2]; omega
  have hr := Lib.run_append_grow_zeros (P := Tryz.prog) w 34 3 ty 5 i (.int .u8 0) .i64 .i64 Tryz.underlying34 Tryz.underlying3 hi hz0 A n cap (cellsOf pre) hold k h0 (by omega) (by omega) (by omega) (by rw [hz2]; omega) (growslice_fits (by omega) hbb)
  have hG := grownCap_ge w (n + k) cap 5
  have hM := grownCap_le_maxLen w (n + k) cap 5 (by unfold maxLen; omega)
  refine ⟨_, _, hr, ⟨?_, .inr ⟨w.heap.size, _, _, rfl, hbase, heap_alloc_new _ _, hG, hM, ?_, ?_⟩⟩, ⟨rfl, rfl, rfl, by simp, fun j hj _ => Below.heap_alloc _ _ _ hj⟩, .inr ⟨_, rfl, Nat.le_refl _⟩⟩
  ·rw [cellsOf_append, List.length_append, zeros_cells_length, hlen]
   omega
  ·have e1 : (Builtin.zeroCells #[Value.int .u8 0] k).size = k := by simp [Builtin.zeroCells]
   have e2 : (Builtin.zeroCells #[Value.int .u8 0] (grownCap w (n + k) cap 5 - (n + k))).size = grownCap w (n + k) cap 5 - (n + k) := by simp [Builtin.zeroCells]
   simp only [Value.cells, Array.size_append, List.size_toArray, e1, e2, Nat.mul_one]
   omega
  ·simp only [Value.cells, Array.toList_append, zeros_cells]
   rw [Nat.mul_one, List.take_append_of_le_length (by rw [List.length_append, zeros_cells_length]; simp; omega), List.take_of_length_le (by rw [List.length_append, zeros_cells_length]; simp; omega), cellsOf_append]
end Go.Proofs.YtloheacncefkgaaGreatDoor
