/- Several texts in one: RrY. What each proves, and its conditions, stands at its own head. -/
import Derived.Test.YtalbiieagcandaaPkR20
import Derived.Test.YtalbiieagcandaaPkR34
import Derived.Test.YtalbiieagcandaaPkR35
import Derived.Test.YtalbiieagcandaaPkR2
import Derived.BigQuiet
import Derived.Deep.QuietTactic
import Derived.BigRegion
/- What the statement hands on to Each: a field that is the next one. Conditions: those that each theorem names. -/
namespace Go.Proofs.Ytalbiieagcandaa
open Go.RowKit
set_option linter.unusedVariables false
set_option maxRecDepth 100000

/-- Where the statement counts: good, n, m, at, most; k fields were told, all as they must be. -/
structure YAt (w : World) (pg pn pm pa pt : Nat) (most : Int) (l : List (Rw × Nat)) (k : Nat) : Prop where
  good : w.heap[pg]? = some (.cells #[.bool true] 4 (0, 0))
  n : w.heap[pn]? = some (.cells #[.int .i64 (k : Int)] 3 (0, 0))
  most_ : w.cell? ⟨pt, 0, none⟩ = some (.int .i64 most)
  m : ∃ A cap, w.cell? ⟨pm, 0, none⟩ = some (.slice A l.length cap) ∧ Raws w A cap (l.map Prod.fst)
  at_ : ∃ A cap, w.cell? ⟨pa, 0, none⟩ = some (.slice A l.length cap) ∧ Sl w A cap (ints (l.map Prod.snd))
  ne : pg ≠ pn
  far : (∀ b, b = pg ∨ b = pn → b ≠ pm ∧ b ≠ pa ∧ b ≠ pt) ∧ pg < w.heap.size ∧ pn < w.heap.size
  lt : l.length ≤ 1000000
theorem run_eql_raw (a : Rw) (w : World) : (binOp .eql 28 (rawV a) (rawV a)).run Try.prog w = .ok (.bool true) w := by
  unfold rawV
  go_simp
theorem each_y {w : World} {pg pn pm pa pt : Nat} {most : Int} {l : List (Rw × Nat)} {k i : Nat} {x : Rw} (h : YAt w pg pn pm pa pt most l k) (hk : l[k]? = some (x, i)) :
    Calls Try.prog 20 #[.int .i64 (i : Int), rawV x, .pointer (some ⟨pg, 0, none⟩), .pointer (some ⟨pn, 0, none⟩), .pointer (some ⟨pm, 0, none⟩), .pointer (some ⟨pa, 0, none⟩), .pointer (some ⟨pt, 0, none⟩)] w
      fun e w' => e = .returned (.bool (!((k : Int) + 1 == most))) ∧ Touch (fun b => b = pg ∨ b = pn) w w' ∧ w'.heap[pg]? = some (.cells #[.bool true] 4 (0, 0)) ∧ w'.heap[pn]? = some (.cells #[.int .i64 ((k + 1 : Nat) : Int)] 3 (0, 0)) := by
  obtain ⟨Am, capm, hm, hR⟩ := h.m
  obtain ⟨Aa, capa, ha, hS⟩ := h.at_
  have hkl := (List.getElem?_eq_some_iff.mp hk).1
  obtain ⟨g, off, rfl, c0, c1, c2, c3⟩ := hR.at_ k x (by rw [List.getElem?_map, hk]; rfl)
  obtain ⟨g2, off2, rfl, d0⟩ := hS.at_ k (.int .i64 (i : Int)) (by rw [ints, List.getElem?_map, List.getElem?_map, hk]; rfl)
  have hgood := obj_cell h.good 0
  have hgf := obj_free h.good 0
  have hnn := obj_cell h.n 0
  have hnf := obj_free h.n 0
  have hmost := h.most_
  have hlt := h.lt
  have hcm := hR.max
  have hcl := hR.le
  rw [List.length_map] at hcl
  have hsl := hS.le
  have hsm := hS.max
  unfold maxLen at hsm
  have hsl2 : l.length ≤ capa := by rw [show (ints (l.map Prod.snd)).length = l.length by simp [ints]] at hsl; exact hsl
  obtain ⟨n, hn⟩ : ∃ n, n = l.length := ⟨_, rfl⟩
  rw [← hn] at hm ha hkl hlt hcl hsl2
  have HQ : ∀ w : World, (binOp .eql 28 (.agg #[.int .i64 x.num, .int .i64 x.wire, .int .u64 (x.n : Int), .string (strOf x.s)]) (.agg #[.int .i64 x.num, .int .i64 x.wire, .int .u64 (x.n : Int), .string (strOf x.s)])).run Try.prog w = .ok (.bool true) w := fun w => run_eql_raw x w
  have g1 : decide ((k : Int) < (n : Int)) = true := decide_eq_true (by omega)
  have gw : IntKind.i64.wrap ((k : Int) + 1) = (k : Int) + 1 := IntWalk.i64_in _ (by omega)
  have H := Lib.hid h
  have hz : ¬ pg = pn := h.ne
  obtain ⟨w1, hw1⟩ : ∃ w1, w1 = w.alloc (.cells #[.int .i64 x.num, .int .i64 x.wire, .int .u64 (x.n : Int), .string (strOf x.s)] 28) := ⟨_, rfl⟩
  have hb : Below w.heap.size w w1 := by rw [hw1]; exact (Below.refl _ w).alloc (Nat.le_refl _) _
  have ho : w1.heap[w.heap.size]? = some (.cells #[.int .i64 x.num, .int .i64 x.wire, .int .u64 (x.n : Int), .string (strOf x.s)] 28 (0, 0)) := by rw [hw1]; exact heap_alloc_new w _
  have e0 := obj_cell ho 0
  have e1 := obj_cell ho 1
  have e2 := obj_cell ho 2
  have e3 := obj_cell ho 3
  have c0' := (hb.cell (p := ⟨g, off + k * 4, none⟩) (lt_of_cell c0)).trans c0
  have c1' := (hb.cell (p := ⟨g, off + k * 4 + 1, none⟩) (lt_of_cell c1)).trans c1
  have c2' := (hb.cell (p := ⟨g, off + k * 4 + 2, none⟩) (lt_of_cell c2)).trans c2
  have c3' := (hb.cell (p := ⟨g, off + k * 4 + 3, none⟩) (lt_of_cell c3)).trans c3
  have d0' := (hb.cell (p := ⟨g2, off2 + k, none⟩) (lt_of_cell d0)).trans d0
  have hm' := (hb.cell (p := ⟨pm, 0, none⟩) (lt_of_cell hm)).trans hm
  have ha' := (hb.cell (p := ⟨pa, 0, none⟩) (lt_of_cell ha)).trans ha
  have hmost' := (hb.cell (p := ⟨pt, 0, none⟩) (lt_of_cell hmost)).trans hmost
  have hgood' := (hb.cell (p := ⟨pg, 0, none⟩) h.far.2.1).trans hgood
  have hgf' := (hb.frozen (p := ⟨pg, 0, none⟩) h.far.2.1).trans hgf
  have hnn' := (hb.cell (p := ⟨pn, 0, none⟩) h.far.2.2).trans hnn
  have hnf' := (hb.frozen (p := ⟨pn, 0, none⟩) h.far.2.2).trans hnf
  have HB := Lib.hid hb
  have HW1 := Lib.hid hw1
  have hz1 : ¬ pt = pg := fun e => (h.far.1 pg (.inl rfl)).2.2 e.symm
  have hz2 : ¬ pt = pn := fun e => (h.far.1 pn (.inr rfl)).2.2 e.symm
  have hz3 : ¬ pn = pg := fun e => h.ne e.symm
  clear h hR hS hk hsl hn c0 c1 c2 c3 d0 hm ha hmost hgood hgf hnn hnf hb ho
  have hent : rawV x = .agg #[.int .i64 x.num, .int .i64 x.wire, .int .u64 (x.n : Int), .string (strOf x.s)] := rfl
  rw [hent]
  clear hent
  go_enter Try.func20, Try.ntmps20
  go_wp2
  rw [← hw1]
  clear hw1
  go_region
  go_wp2
  go_ret
  have hb := HB.out
  have h := H.out
  have og1 := (hb.block pg h.far.2.1).trans h.good
  have on1 := (hb.block pn h.far.2.2).trans h.n
  refine ⟨rfl, (((Touch.of_below _ hb).set (q := ⟨pg, 0, none⟩) (.inl (.inl rfl)) _).set (q := ⟨pn, 0, none⟩) (.inl (.inr rfl)) _).drew, ?_, ?_⟩
  · show ((w1.setCell ⟨pg, 0, none⟩ (.bool true)).setCell ⟨pn, 0, none⟩ (.int .i64 ((k : Int) + 1))).heap[pg]? = _
    rw [Below.heap_setCell _ _ _ _ hz]
    exact (obj_set og1 0 _).trans rfl
  · show ((w1.setCell ⟨pg, 0, none⟩ (.bool true)).setCell ⟨pn, 0, none⟩ (.int .i64 ((k : Int) + 1))).heap[pn]? = _
    exact (obj_set ((Below.heap_setCell _ _ _ _ hz3).trans on1) 0 _).trans rfl
end Go.Proofs.Ytalbiieagcandaa
