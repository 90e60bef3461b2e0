/- Several texts in one: TxtApp. What each proves, and its conditions, stands at its own head. -/
import Derived.Test.YtloheacncefkgaaGreatDoorPkEU0
import Derived.Test.YtloheacncefkgaaGreatDoorPkEU2
import Derived.Deep.RegionHeld3
/- append of texts onto a row of texts of the call's own, as a step of a region that draws its order; a literal list of texts. Conditions: those that each theorem names. -/
namespace Go.Proofs.YtloheacncefkgaaGreatDoor
open Go.RowKit
set_option linter.unusedVariables false
set_option maxRecDepth 100000

/-- A literal list of texts. -/
theorem sl_txts (w : World) (cs : Array Value) (t : TypeId) (ts : List (List UInt8)) (hc : cs.toList = txts ts) (hm : ts.length ≤ maxLen) : Sl (w.alloc (.cells cs t)) (some ⟨w.heap.size, 0, none⟩) ts.length (txts ts) := by
 refine ⟨by rw [txts_length]; exact Nat.le_refl _, hm, (fun h => by cases h), fun j u hj => ⟨_, _, rfl, ?_⟩⟩
 rw [cell_of_row _ w.heap.size (0 + j) cs t (0, 0) (heap_alloc_new w _), Nat.zero_add, ← Array.getElem?_toList, hc]
 exact hj
theorem sl_txt1 (w : World) (t : TypeId) (x : List UInt8) (sx : ByteArray) (h : sx = strOf x) : Sl (w.alloc (.cells #[.string sx] t)) (some ⟨w.heap.size, 0, none⟩) 1 (txts [x]) := sl_txts w _ t [x] (by rw [h]; rfl) (by show 1 ≤ maxLen; decide)
/-- The same, off the block alone. -/
theorem sl_block1 {W : World} {g : Nat} {t : TypeId} {x : List UInt8} {sx : ByteArray} (h : W.heap[g]? = some (.cells #[.string sx] t (0, 0))) (hs : sx = strOf x) : Sl W (some ⟨g, 0, none⟩) 1 (txts [x]) := by
 subst hs
 refine ⟨Nat.le_refl _, by decide, (fun h => by cases h), fun j u hj => ⟨_, _, rfl, ?_⟩⟩
 rw [cell_of_row _ g (0 + j) _ t (0, 0) h, Nat.zero_add, ← Array.getElem?_toList]
 exact hj
/-- An empty row of the call's own, off its block. -/
theorem own_block0 {W : World} {g base : Nat} (h : W.heap[g]? = some (.cells #[] 9 (0, 0))) (hb : base ≤ g) : W.ownsRow base 9 1 (.slice (some ⟨g, 0, none⟩) 0 0) 0 (txts []) :=
 ⟨rfl, .inr ⟨g, 0, #[], rfl, hb, h, Nat.le_refl _, by decide, rfl, rfl⟩⟩
theorem run_append_txts {w : World} {base n : Nat} {v : Value} {pre bs : List (List UInt8)} {A : Option Addr} {m c : Nat} (ty : TypeId) (hown : w.ownsRow base 9 1 v n (txts pre)) (hb : Sl w A c (txts bs)) (hm : m = bs.length)
 (h47 : pre.length + bs.length ≤ 1000000) (hbase : base ≤ w.heap.size) :
 ∃ v' w', (Builtin.append_ #[87, 87] ty #[v, .slice A m c]).run Tryz.prog w = .ok v' w' ∧ w'.ownsRow base 9 1 v' (pre.length + bs.length) (txts (pre ++ bs)) ∧ w.grownBy w' v.ownBlock := by
 subst hm
 obtain ⟨i, hi, hz0, hz1, hz2⟩ := info_str_parts
 obtain ⟨hn, _⟩ := Sl.own hown
 rw [txts_length] at hn
 subst hn
 rcases A with _ | ad
 ·have h0 := hb.nil rfl
  have hle := hb.le
  rw [txts_length] at hle
  have hbs : bs = [] := List.eq_nil_of_length_eq_zero (by omega)
  subst hbs h0
  exact ⟨v, w, run_append_owned_none w base 87 ty 9 i 1 Tryz.underlying87 hi v pre.length (txts pre) hown, by simpa using hown, World.grownBy.refl _ _⟩
 ·obtain ⟨v', w', hr, h1, h2, _⟩ := run_append_own w base 87 ty 9 i (.string ByteArray.empty) 1 16 Tryz.underlying87 hi hz0 hz1 hz2 rfl (by decide) v pre.length (txts pre) hown ad bs.length c (txts bs)
   (by rw [txts_length]; omega) (fun j u hu => by
    obtain ⟨bl, off, ea, hcell⟩ := hb.at_ j u hu
    cases ea
    have hplain : (⟨bl, off, none⟩ : Addr).add j = ⟨bl, off + j, none⟩ := by unfold Addr.add; split <;> simp_all
    rw [hplain]; exact hcell) (txts_one bs) (by unfold maxLen; omega) (by omega) hbase
  exact ⟨v', w', hr, by rw [txts_append]; exact h1, h2⟩
theorem step_append_txts {ops : Array Oper} {o : Oper} {a : Act} {w : World} {K : Act → World → Prop} {Q : Exit → Act → World → Prop} {E : Prop} (hw : Region.wanted o (yielded ops a.tmps) = true) (s x : Operand)
 (ho : o.op = .call { callee := .builtin .append, args := #[s, x], argTypes := #[87, 87] }) {base n m c : Nat} {v : Value} {pre bs : List (List UInt8)} {A : Option Addr}
 (hs : a.eval s = v) (hown : w.ownsRow base 9 1 v n (txts pre)) (hx : a.eval x = .slice A m c) (hb : Sl w A c (txts bs)) (hm : m = bs.length) (h47 : pre.length + bs.length ≤ 1000000) (hbase : base ≤ w.heap.size)
 (hK : ∀ v' w', w'.ownsRow base 9 1 v' (pre.length + bs.length) (txts (pre ++ bs)) → w.grownBy w' v.ownBlock → K (a.put o.dst v') w') :
 if Region.wanted o (yielded ops a.tmps) = true then Oper.wp Tryz.prog o a w K Q else E := by
 rw [if_pos hw]
 obtain ⟨v', w', hr, h1, h2⟩ := run_append_txts o.type hown hb hm h47 hbase
 unfold Oper.wp execOp
 simp only [ho, resolve, invoke, builtin, Sem.run_bind, Sem.run_pure, Result.andThen_ok, List.map_toArray, List.map_cons, List.map_nil, hs, hx, hr]
 exact hK v' w' h1 h2
end Go.Proofs.YtloheacncefkgaaGreatDoor
