/- Several texts in one: Backw, EmCopy. What each proves, and its conditions, stands at its own head. -/
import Derived.Test.YtloheacncefkgaaGreatDoorPkEU8
import Derived.Test.YtloheacncefkgaaGreatDoorPkEU12
import Derived.RangeFuncCalls
import Derived.RangeFuncLeaves
import Derived.Shelf.RegionOpen
import Derived.WalkKit
import Derived.OwnWalkIn
import Derived.TacticsInMore
import Derived.LoopNIn
import Derived.LoopIn
import Derived.Lib.Hide
import Derived.Laws.CopyOwn
import Derived.StillTailTactics
/- slices.Backward over a list of structs of four fields: which pairs it yields, one by one. Conditions: those that each theorem names. -/
namespace Go.Proofs.YtloheacncefkgaaGreatDoor
open Go.RowKit Go.Shelf
set_option linter.unusedVariables false
set_option maxRecDepth 100000
attribute [local go_sem] Oper.semAt_some

/-- The frame that is yielded in round k. -/
def frAt (ps : List (Fr × Value)) (k : Nat) : Fr × Value := ps[ps.length - 1 - k]?.getD (⟨0, 0, 0, []⟩, .slice none 0 0)
def frAgg (q : Fr × Value) : Value := .agg #[.int .u64 (q.1.tag : Int), .int .i64 (q.1.place : Int), .int .i64 (q.1.before : Int), q.2]
def frVals (ps : List (Fr × Value)) (k : Nat) : Array Value := #[.int .i64 ((ps.length - 1 - k : Nat) : Int), frAgg (frAt ps k)]
theorem frAt_get {ps : List (Fr × Value)} {k : Nat} (h : k < ps.length) : ps[ps.length - 1 - k]? = some (frAt ps k) := by
 unfold frAt
 rw [List.getElem?_eq_getElem (by omega)]
 rfl

theorem frAt_mem {ps : List (Fr × Value)} {k : Nat} (h : k < ps.length) : frAt ps k ∈ ps := List.mem_of_getElem? (frAt_get h)
theorem frAt_drop {ps : List (Fr × Value)} {k : Nat} (h : k < ps.length) : ps.drop (ps.length - (k + 1)) = frAt ps k :: ps.drop (ps.length - k) := by
 have h1 := frAt_get h
 rw [show ps.length - 1 - k = ps.length - (k + 1) by omega] at h1
 obtain ⟨h2, h3⟩ := List.getElem?_eq_some_iff.1 h1
 rw [List.drop_eq_getElem_cons h2, h3, show ps.length - (k + 1) + 1 = ps.length - k by omega]
theorem frAt_take {ps : List (Fr × Value)} {k : Nat} (h : k < ps.length) : ps.take (ps.length - k) = ps.take (ps.length - (k + 1)) ++ [frAt ps k] := by
 have h1 := frAt_get h
 rw [show ps.length - 1 - k = ps.length - (k + 1) by omega] at h1
 rw [show ps.length - k = ps.length - (k + 1) + 1 by omega, List.take_add_one, h1]
 rfl

theorem backward_any (A : Option Addr) (n cap : Nat) (w : World) :
 Calls Tryz.prog 156 #[.slice A n cap] w fun e w' => e = .returned (.func (.func 165) #[] #[.pointer (some ⟨w.heap.size, 0, none⟩)]) ∧ w' = w.alloc (.cells #[.slice A n cap] 110) := by
 go_enter Tryz.func156, Tryz.ntmps156
 go_wp2
 go_ret
 exact ⟨rfl, rfl⟩

set_option maxHeartbeats 2000000 in
theorem backward_seq (b g cap : Nat) (ps : List (Fr × Value)) (h47 : ps.length ≤ 1099511627776) :
 SeqN Tryz.prog 165 #[.pointer (some ⟨b, 0, none⟩)] (frVals ps) ps.length
  (fun W => W.cell? ⟨b, 0, none⟩ = some (.slice (some ⟨g, 0, none⟩) ps.length cap) ∧ ∀ j u, (frRow ps)[j]? = some u → W.cell? ⟨g, j, none⟩ = some u) := by
 intro n l J W hR hY h0
 obtain ⟨N, hN⟩ : ∃ N, N = ps.length := ⟨_, rfl⟩
 rw [← hN] at hR hY h47 ⊢
 have hNN := Lib.hid hN
 have HR := Lib.hid hR
 have HY := Lib.hid hY
 clear hN hR hY
 refine callsIn_of_wp Tryz.func165 rfl trivial ?_ rfl
 simp only [Tryz.ntmps165, List.size_toArray, List.length_cons, List.length_nil, Nat.reduceAdd, Nat.reduceSub, Array.replicate_succ, Array.replicate_zero, List.push_toArray, List.append_toArray, List.nil_append, List.cons_append]
 have hb0 := (HR.out 0 W h0).1
 gi_wp2
 gi_loopw [3] (fun i wr => ∃ k r : Nat, k + r = N ∧ i = .int .i64 ((r : Int) - 1) ∧ J k wr) (fun i _ => (intOf i + 1).toNat)
 case atStart => exact ⟨0, N, by omega, rfl, h0⟩
 case round =>
  obtain ⟨k, r, hk, rfl, hJ⟩ := hrel
  cases r with
  | zero =>
    gi_wp2
    go_end0
    exact ⟨⟨_, rfl⟩, by rw [show N = k by omega]; exact hJ⟩
  | succ r =>
    rw [show ((r + 1 : Nat) : Int) - 1 = (r : Int) by omega]
    obtain ⟨hb, hc⟩ := HR.out k wr hJ
    have hq : ps[r]? = some (frAt ps k) := by
     have := frAt_get (ps := ps) (k := k) (by have := hNN.out; omega)
     rwa [show ps.length - 1 - k = r by have := hNN.out; omega] at this
    have c0 : wr.cell? ⟨g, r * 4, none⟩ = _ := hc _ _ ((frRow_get hq (i := 0) (by omega)).trans rfl)
    have c1 := hc _ _ ((frRow_get hq (i := 1) (by omega)).trans rfl)
    have c2 := hc _ _ ((frRow_get hq (i := 2) (by omega)).trans rfl)
    have c3 := hc _ _ ((frRow_get hq (i := 3) (by omega)).trans rfl)
    obtain ⟨fn, tmps, assign, body, hy, hRR⟩ := HY.out k wr (by omega) hJ
    rw [show frVals ps k = #[.int .i64 (r : Int), frAgg (frAt ps k)] by unfold frVals; rw [show ps.length - 1 - k = r by have := hNN.out; omega]] at hy
    unfold frAgg at hy
    generalize frAt ps k = q at *
    have HQ := Lib.hid hq
    clear hc hq
    gi_wp2
    refine ⟨fun hd => by simp [Fence.wide] at hd, hRR.mono ?_⟩
    rintro e W3 ⟨rfl, hJ3⟩
    gi_wp2
    go_roundw
    case rel => exact ⟨k + 1, r, by omega, by go_num, hJ3⟩
    case measure => simp [intOf]
end Go.Proofs.YtloheacncefkgaaGreatDoor

/- Words for the round that lays one head (no loop here): a slice cut from a place on; copy into a row known whole, and nothing else turns; the invariant of the rounds. Conditions: those that each theorem names. -/
namespace Go.Proofs.YtloheacncefkgaaGreatDoor
open Go.RowKit
set_option linter.unusedVariables false
set_option maxRecDepth 100000

def cutAt (A : Option Addr) (cap l : Nat) : Option Addr := if cap = l then A else A.map (·.add l)
theorem cutAt_in {g cap l : Nat} (h : l < cap) : cutAt (some ⟨g, 0, none⟩) cap l = some ⟨g, l, none⟩ := by
 unfold cutAt
 rw [if_neg (by omega)]
 by_cases h0 : l = 0
 ·subst h0; simp [Addr.add]
 ·simp [Addr.add, h0]

theorem still_cut_l {ops : Array Oper} {rest : List Oper} {o : Oper} {a : Act} {w : World} {Q : Act → Prop} (hgd : o.guard = none) (x lo : Operand) (ho : o.op = .slice 34 x (some lo) none none) {A : Option Addr} {len cap l : Nat} (hx : a.eval x = .slice A len cap)
 {z : Int} (hl : a.eval lo = .int .i64 z) (hz : z = (l : Int)) (h1 : l ≤ len) (hc : len ≤ cap) (h : wpStill Tryz.prog ops w Q rest (a.put o.dst (.slice (cutAt A cap l) (len - l) (cap - l)))) : wpStill Tryz.prog ops w Q (o :: rest) a := by
 subst hz
 refine wpStill_step fun K hK => ?_
 rw [if_pos (by simp [Region.wanted, hgd])]
 have hu : Tryz.prog.underlying 34 = some (.slice (Tryz.prog.elem 34)) := by kernel_rfl
 have hi : Tryz.prog.elem 34 = 5 := by kernel_rfl
 have hs : ∀ w, (Go.sizeOf (Tryz.prog.elem 34)).run Tryz.prog w = .ok 1 w := fun w => by
  obtain ⟨i, hi2, _, hz1, _⟩ := info_parts info_u8
  rw [hi]
  simp [Go.sizeOf, typeInfo, hi2, hz1]
 have hr : (Instr.sliceAt 34 (.slice A len cap) (some (.int .i64 (l : Int))) none none).run Tryz.prog w = .ok (.slice (cutAt A cap l) (len - l) (cap - l)) w := by
  rw [run_sliceAt_slice _ _ _ _ _ _ hu, run_slice_l _ _ A len cap hu .i64 (l : Int) (by omega) (by omega)]
  rw [hs]
  simp [sliced, cutAt, Result.andThen]
 unfold Oper.still
 simp [execOp, ho, hx, hl, hr, Oper.stillUpon, Result.andThen]
 exact hK _ h
theorem still_cut_lh {ops : Array Oper} {rest : List Oper} {o : Oper} {a : Act} {w : World} {Q : Act → Prop} (hgd : o.guard = none) (x lo hi : Operand) (ho : o.op = .slice 34 x (some lo) (some hi) none) {A : Option Addr} {len cap l m : Nat} (hx : a.eval x = .slice A len cap)
 {z y : Int} (hl : a.eval lo = .int .i64 z) (hz : z = (l : Int)) (hh : a.eval hi = .int .i64 y) (hy : y = (m : Int)) (h1 : l ≤ m) (hc : m ≤ cap) (h : wpStill Tryz.prog ops w Q rest (a.put o.dst (.slice (cutAt A cap l) (m - l) (cap - l)))) : wpStill Tryz.prog ops w Q (o :: rest) a := by
 subst hz hy
 refine wpStill_step fun K hK => ?_
 rw [if_pos (by simp [Region.wanted, hgd])]
 have hu : Tryz.prog.underlying 34 = some (.slice (Tryz.prog.elem 34)) := by kernel_rfl
 have hi : Tryz.prog.elem 34 = 5 := by kernel_rfl
 have hs : ∀ w, (Go.sizeOf (Tryz.prog.elem 34)).run Tryz.prog w = .ok 1 w := fun w => by
  obtain ⟨i, hi2, _, hz1, _⟩ := info_parts info_u8
  rw [hi]
  simp [Go.sizeOf, typeInfo, hi2, hz1]
 have hr : (Instr.sliceAt 34 (.slice A len cap) (some (.int .i64 (l : Int))) (some (.int .i64 (m : Int))) none).run Tryz.prog w = .ok (.slice (cutAt A cap l) (m - l) (cap - l)) w := by
  rw [run_sliceAt_slice _ _ _ _ _ _ hu, run_slice_lh _ _ A len cap hu .i64 .i64 (l : Int) (m : Int) (by omega) (by omega) (by omega)]
  rw [hs]
  simp [sliced, cutAt, Result.andThen]
 unfold Oper.still
 simp [execOp, ho, hx, hl, hh, hr, Oper.stillUpon, Result.andThen]
 exact hK _ h

theorem wpList_copy_at {w : World} {ops : Array Oper} {rest : List Oper} {o : Oper} {a : Act} {Q : Exit → Act → World → Prop} (hgd : o.guard = none) (d s : Operand)
 (ho : o.op = .call { callee := .builtin .copy, args := #[d, s], argTypes := #[34, 34] })
 (dp sp : Option Addr) (dLen dCap sLen sCap : Nat) (hd : a.eval d = .slice dp dLen dCap) (hs : a.eval s = .slice sp sLen sCap)
 (g off : Nat) (cur : List Value) (hg : w.heap[g]? = some (.cells cur.toArray 5 (0, 0))) (cs : List UInt8) (hn : cs.length = Nat.min sLen dLen)
 (hpos : 0 < cs.length → dp = some ⟨g, off, none⟩ ∧ ∃ ad, sp = some ad ∧ ∀ j v, (cellsOf cs)[j]? = some v → w.cell? (ad.add j) = some v)
 (hfit : off + cs.length ≤ cur.length)
 (h : ∀ w', Hid (w'.heap[g]? = some (.cells (splice cur off (cellsOf cs)).toArray 5 (0, 0))) → w.grownBy w' (some g) → wpList Tryz.prog ops Q rest (a.put o.dst (goInt cs.length)) w') :
 wpList Tryz.prog ops Q (o :: rest) a w := by
 have hu : Tryz.prog.underlying 34 = some (.slice 5) := Tryz.underlying34
 have hsz : (Tryz.prog.info? 5).map (·.size) = some 1 := by kernel_rfl
 by_cases h0 : cs.length = 0
 ·obtain rfl : cs = [] := List.eq_nil_of_length_eq_zero h0
  refine wpList_copy_nothing hgd d s _ _ ho _ hu hsz dp sp dLen dCap sLen sCap hd hs (by simpa using hn.symm) ?_
  exact h w (show _ = _ by simpa [splice, cellsOf] using hg) (World.grownBy.refl _ _)
 ·obtain ⟨rfl, ad, rfl, hsrc⟩ := hpos (by omega)
  refine wpList_copy_own hgd d s _ _ ho _ hu hsz g off dLen dCap ad sLen sCap hd hs cur.toArray _ hg (cellsOf cs) (by rw [cellsOf_length]; exact hn) hsrc (by rw [cellsOf_length]; simpa using hfit) (cellsOf_one cs) ?_
  rw [cellsOf_length]
  refine h _ (show _ = _ from ?_) ⟨rfl, rfl, rfl, by simp [World.setRow], fun j _ hj => setRow_other w g j _ (fun e => hj (by rw [e]))⟩
  rw [setRow_heap w g cur.toArray _ _ _ hg]
  simp [splice, cellsOf_length]

theorem splice_cells {cur : List Value} {b c : List UInt8} {off tot : Nat} (h : cur.take tot = cellsOf b) (ht : tot ≤ cur.length) (ho : off + c.length ≤ tot) : (splice cur off (cellsOf c)).take tot = cellsOf (splice b off c) := by
 have hb : b.length = tot := by have := congrArg List.length h; rw [cellsOf_length, List.length_take] at this; omega
 have e1 : (cellsOf (b.take off)) = cur.take off := by
  have := congrArg (List.take off) h
  rw [List.take_take, Nat.min_eq_left (by omega)] at this
  rw [this, cellsOf, cellsOf, List.map_take]
 have e2 : cellsOf (b.drop (off + c.length)) = (cur.drop (off + c.length)).take (tot - (off + c.length)) := by
  have := congrArg (List.drop (off + c.length)) h
  rw [List.drop_take] at this
  rw [this, cellsOf, cellsOf, List.map_drop]
 have hl : (cur.take off).length = off := by rw [List.length_take]; omega
 unfold splice
 rw [cellsOf_append, cellsOf_append, e1, e2, cellsOf_length, List.take_append, List.take_append, hl, cellsOf_length, List.take_of_length_le (l := cur.take off) (by rw [hl]; omega), List.take_of_length_le (l := cellsOf c) (by rw [cellsOf_length]; omega), Nat.sub_sub]

theorem cells_cut {W : World} {g tot P frm : Nat} {cur : List Value} {b : List UInt8} (hg : W.heap[g]? = some (.cells cur.toArray 5 (0, 0))) (hct : cur.take tot = cellsOf b) (hf : frm ≤ tot) :
 ∀ j v, (cellsOf ((b.take frm).drop P))[j]? = some v → W.cell? ((⟨g, P, none⟩ : Addr).add j) = some v := by
 intro j v hv
 have hadd : (⟨g, P, none⟩ : Addr).add j = ⟨g, P + j, none⟩ := by unfold Addr.add; split <;> simp_all
 rw [hadd, obj_cell hg]
 have e : cellsOf ((b.take frm).drop P) = (cur.take frm).drop P := by
  have := congrArg (List.take frm) hct
  rw [List.take_take, Nat.min_eq_left hf] at this
  rw [this, cellsOf, cellsOf, List.map_drop, List.map_take]
 rw [e, List.getElem?_drop, List.getElem?_take] at hv
 split at hv
 ·simpa using hv
 ·cases hv
theorem cells_bs {W : World} {A : Option Addr} {cap : Nat} {bs : List UInt8} (h : Bs W A cap bs) (h0 : 0 < bs.length) : ∃ ad, A = some ad ∧ ∀ j v, (cellsOf bs)[j]? = some v → W.cell? (ad.add j) = some v := by
 obtain ⟨bl, off, e, _⟩ := h.lt h0
 refine ⟨_, e, fun j v hv => ?_⟩
 obtain ⟨c, hc, rfl⟩ := cellsOf_get hv
 obtain ⟨bl', off', e', hcell⟩ := h.at_ j c hc
 rw [e] at e'
 cases e'
 have hadd : (⟨bl, off, none⟩ : Addr).add j = ⟨bl, off + j, none⟩ := by unfold Addr.add; split <;> simp_all
 rw [hadd]
 exact hcell
/-- Between two rounds: g: the block of the bytes; bf, bt: those of 'from' and 'to'. -/
def LayI (w5 : World) (g bf bt c2 tot : Nat) (raw : List UInt8) (ps : List (Fr × Value)) (k : Nat) (W : World) : Prop :=
 Touch (fun i => i = g ∨ i = bf ∨ i = bt) w5 W ∧ ∃ (b : List UInt8) (cur : List Value) (frm tu : Nat),
  Buf raw ((ps.take (ps.length - k)).map Prod.fst) ((ps.drop (ps.length - k)).map Prod.fst) b frm tu ∧
  W.heap[g]? = some (.cells cur.toArray 5 (0, 0)) ∧ cur.length = c2 ∧ cur.take tot = cellsOf b ∧
  W.heap[bf]? = some (.cells #[.int .i64 (frm : Int)] 3 (0, 0)) ∧ W.heap[bt]? = some (.cells #[.int .i64 (tu : Int)] 3 (0, 0))
theorem LayI.grown {w5 : World} {g bf bt c2 tot : Nat} {raw : List UInt8} {ps : List (Fr × Value)} {k : Nat} {W W' : World} (hl : g < w5.heap.size ∧ bf < w5.heap.size ∧ bt < w5.heap.size) (h : LayI w5 g bf bt c2 tot raw ps k W) {i : Nat} (hi : w5.heap.size ≤ i) (hg : W.grownBy W' (some i)) :
 LayI w5 g bf bt c2 tot raw ps k W' := by
 obtain ⟨ht, b, cur, frm, tu, h1, h2, h3, h4, h5, h6⟩ := h
 have hs := ht.size
 exact ⟨ht.grown hg (fun j e => .inr (by cases e; exact hi)), b, cur, frm, tu, h1, (hg.block g (by omega) (by intro e; cases e; omega)).trans h2, h3, h4, (hg.block bf (by omega) (by intro e; cases e; omega)).trans h5, (hg.block bt (by omega) (by intro e; cases e; omega)).trans h6⟩
end Go.Proofs.YtloheacncefkgaaGreatDoor
