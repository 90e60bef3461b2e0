/- Several texts in one: ConvApp. What each proves, and its conditions, stands at its own head. -/
import Derived.Test.YtnhaeapkncnimaaPkW21
import Derived.Test.YtnhaeapkncnimaaPkW5
import Derived.Laws.IdiomCopy
/- append(c, s...) where c is '[]byte(s)' made just now: what it answers. Conditions: those that each theorem names. -/
namespace Go.Proofs.Ytnhaeapkncnimaa
open Go.RowKit
set_option linter.unusedVariables false

theorem below_cells (B b : Nat) (hb : B ≤ b) {a : World} : ∀ (vs : List Value) (o : Nat) (w : World), Below B a w → Below B a (w.setCells b o vs)
  | [], _, _, h => h
  | v :: r, o, w, h => below_cells B b hb r (o + 1) _ (h.setCell (p := ⟨b, o, none⟩) hb v)
theorem conv_app (w : World) (t : List UInt8) (ty : TypeId) (ht : t.length ≤ 1000) :
    ∃ A cap w', (Builtin.append_ #[38, 9] ty #[.slice (some ⟨w.heap.size, 0, none⟩) t.length (grownCap w t.length 0 5), .string (strOf t)]).run Try.prog (Lib.bytesWorld w 5 (strOf t)) = .ok (.slice A (t.length + t.length) cap) w' ∧
      Bs w' A cap (t ++ t) ∧ Below w.heap.size w w' := by
  obtain ⟨i, hi, hz0, hz1, hz2⟩ := info_parts info_u8
  have hsz : (strOf t).size = t.length := str_size t
  have hge := grownCap_ge w t.length 0 5
  have hcm : grownCap w t.length 0 5 ≤ maxLen := grownCap_le_maxLen w t.length 0 5 (by unfold maxLen; omega)
  have hnew := Lib.bytesWorld_at_new w 5 (strOf t)
  have hcs : (Lib.bytesCells w 5 (strOf t)).size = grownCap w t.length 0 5 := by
    have : (strOf t).data.size = t.length := hsz
    simp [Lib.bytesCells, hsz, this]; omega
  have hcell : ∀ j, j < grownCap w t.length 0 5 → ((Lib.bytesWorld w 5 (strOf t)).cell? ⟨w.heap.size, j, none⟩).isSome = true := fun j hj => by
    rw [cell_of_row _ _ j _ _ _ hnew]
    simp [hcs, hj]
  have hfro : ∀ j, j < grownCap w t.length 0 5 → (Lib.bytesWorld w 5 (strOf t)).frozen? ⟨w.heap.size, j, none⟩ = false := fun j hj => by
    simp only [World.frozen?, hnew, hcs]
    simp; omega
  have hB := bytes_bs w t (by unfold maxLen; omega)
  have hsc : Lib.strCells (strOf t) = cellsOf t := strCells_strOf t
  by_cases hroom : t.length + t.length ≤ grownCap w t.length 0 5
  · have hf := Lib.run_firstCells_string (P := Try.prog) (Lib.bytesWorld w 5 (strOf t)) 1 (strOf t)
    have hst := run_storeCells_cells (P := Try.prog) w.heap.size t.length (cellsOf t) 0 (Lib.bytesWorld w 5 (strOf t)) (fun j hj => hcell _ (by rw [cellsOf_length] at hj; omega)) (fun j hj => hfro _ (by rw [cellsOf_length] at hj; omega)) (cellsOf_one t)
    rw [hsc, hsz] at hf
    refine ⟨some ⟨w.heap.size, 0, none⟩, grownCap w t.length 0 5, (Lib.bytesWorld w 5 (strOf t)).setCells w.heap.size t.length (cellsOf t), ?_, ⟨by simp; omega, hcm, (fun h => by cases h), fun j c hj => ?_⟩, below_cells _ _ (Nat.le_refl _) _ _ _ (bytes_below w t)⟩
    · simp only [Nat.add_zero] at hst
      simp [Builtin.append_, run_underlying Try.underlying38, run_underlying Try.underlying9, sizeOf, typeInfo, hi, hz1, Builtin.lenOf, hsz, hroom, hf, Addr.add_lit, hst]
    · refine ⟨w.heap.size, 0, rfl, ?_⟩
      by_cases hjl : j < t.length
      · rw [World.cell?_setCells_out _ _ _ _ _ (fun _ _ => by left; simp; omega)]
        rw [List.getElem?_append_left hjl] at hj
        obtain ⟨b, off, e, hc⟩ := hB.at_ j c hj
        cases e
        exact hc
      · have hjt : j - t.length < t.length := by have := (List.getElem?_eq_some_iff.mp hj).1; simp at this; omega
        have hin := World.cell?_setCells_in w.heap.size (cellsOf t) t.length (Lib.bytesWorld w 5 (strOf t)) (fun k hk => hcell _ (by rw [cellsOf_length] at hk; omega)) (j - t.length) (by rw [cellsOf_length]; exact hjt)
        rw [List.getElem?_append_right (by omega)] at hj
        have e1 : (0 + j) = t.length + (j - t.length) := by omega
        rw [e1, hin]
        obtain ⟨hx, hy⟩ := List.getElem?_eq_some_iff.mp hj
        simp [cellsOf, hy]
  · have hr := Lib.run_append_grow_string (P := Try.prog) (Lib.bytesWorld w 5 (strOf t)) 38 9 ty 5 i (.int .u8 0) Try.underlying38 Try.underlying9 hi hz0 ⟨w.heap.size, 0, none⟩ t.length (grownCap w t.length 0 5) (cellsOf t)
      (by rw [hz1, Nat.mul_one]; exact cellsOf_length t) (fun j u hu => by
        obtain ⟨c, hc, rfl⟩ := cellsOf_get hu
        obtain ⟨b, off, e, hcl⟩ := hB.at_ j c hc
        cases e
        rw [Addr.add_lit, Nat.zero_add] at *
        exact hcl) (strOf t) (by rw [hsz]; omega) (by rw [hsz]; omega) (by rw [hz2]; exact growslice_fits (by rw [hsz]; omega) (by rw [hsz]; omega))
    rw [hsc, hsz] at hr
    have hge2 := grownCap_ge (Lib.bytesWorld w 5 (strOf t)) (t.length + t.length) (grownCap w t.length 0 5) 5
    have hcm2 : grownCap (Lib.bytesWorld w 5 (strOf t)) (t.length + t.length) (grownCap w t.length 0 5) 5 ≤ maxLen := grownCap_le_maxLen _ _ _ _ (by unfold maxLen; omega)
    have hbs := bytes_size w t
    refine ⟨_, _, _, hr, ⟨by simp; omega, hcm2, (fun h => by cases h), fun j c hj => ⟨_, 0, rfl, ?_⟩⟩, ((bytes_below w t).drew).alloc (by show _ ≤ (Lib.bytesWorld w 5 (strOf t)).heap.size; omega) _⟩
    rw [Nat.zero_add, cell_of_row _ (Lib.bytesWorld w 5 (strOf t)).heap.size j _ _ _ (heap_alloc_new (Lib.bytesWorld w 5 (strOf t)).drew _)]
    have hjl := (List.getElem?_eq_some_iff.mp hj).1
    have hcc : (cellsOf t ++ cellsOf t)[j]? = some (.int .u8 (c.toNat : Int)) := by
      rw [← cellsOf_append]
      simp only [cellsOf, List.getElem?_map, hj, Option.map_some]
    rw [Array.getElem?_append_left (by rw [List.length_append] at hjl; rw [Array.size_append, List.size_toArray, cellsOf_length]; omega)]
    simpa using hcc
end Go.Proofs.Ytnhaeapkncnimaa
