/- Several texts in one: RrD. What each proves, and its conditions, stands at its own head. -/
import Derived.Test.YtalbiieagcandaaPkR34
import Derived.Test.YtalbiieagcandaaPkR26
import Derived.Test.YtalbiieagcandaaPkR25
/- One field, read by the document's cursor. Conditions: those that each theorem names. -/
namespace Go.Proofs.Ytalbiieagcandaa
open Go.RowKit
set_option linter.unusedVariables false
set_option maxRecDepth 100000

section
variable {W w : World} {p g : Nat} {bs : List UInt8} {s : St}
theorem Ref.cellw (h : Ref W w p g bs s) {b : Nat} (hb : W.heap.size ≤ b) (h1 : b ≠ p) (h2 : b ≠ g) (o : Nat) (v : Value) : Ref W (w.setCell ⟨b, o, none⟩ v) p g bs s :=
  h.keep (by simp [World.setCell]) (h.1.2.2.2.2.2.1.setCell (p := ⟨b, o, none⟩) hb v) (Below.heap_setCell _ _ _ _ (fun e => h1 e.symm)) (Below.heap_setCell _ _ _ _ (fun e => h2 e.symm))
theorem Only.cellw {a : World} (h : Only p g a w) {b : Nat} (hb : a.heap.size ≤ b) (o : Nat) (v : Value) : Only p g a (w.setCell ⟨b, o, none⟩ v) :=
  ⟨h.os, h.tape, h.output, by have := h.size; simp [World.setCell]; exact this, fun k hk h1 h2 => (Below.heap_setCell _ _ _ _ (fun e => by have : k = b := e; omega)).trans (h.block k hk h1 h2)⟩
end
/-- What reading one field leaves. -/
def OneTo (W w : World) (p g : Nat) (bs : List UInt8) (s : St) (x : Rw) (e : Ending) (w' : World) : Prop := RefTo W w p g bs s (rawV x) e w'
theorem one_objs {W w w1 w2 w3 w4 : World} {p g g2 : Nat} {bs : List UInt8} {s2 : St} {cz cx : Obj} (hp : p < w.heap.size) (hg : g < w.heap.size) (e1 : w1 = w.alloc cz) (o2 : Only p g w1 w2) (hg2 : g2 = g ∨ g2 ≥ w1.heap.size) (hr2 : Ref W w2 p g2 bs s2) (e3 : w3 = w2.alloc cx) (o4 : Only p g2 w3 w4) :
    w4.heap[w.heap.size]? = some cz ∧ w4.heap[w2.heap.size]? = some cx := by
  have s1 : w1.heap.size = w.heap.size + 1 := by rw [e1]; simp
  have s3 : w3.heap.size = w2.heap.size + 1 := by rw [e3]; simp
  have h2 := o2.size
  have hgl := hr2.1.2.2.2.2.1
  constructor
  · rw [o4.block _ (by omega) (by omega) (by omega), e3, Below.heap_alloc _ _ _ (by omega), o2.block _ (by omega) (by omega) (by omega), e1]
    exact heap_alloc_new w cz
  · rw [o4.block _ (by omega) (by omega) (by omega), e3]
    exact heap_alloc_new w2 cx
theorem one_end {W w w1 w2 w3 w4 : World} {p g g2 g4 : Nat} {bs : List UInt8} {s2 s4 : St} {cz cx : Obj} (hW : W.heap.size ≤ w.heap.size) (hp : p < w.heap.size) (hg : g < w.heap.size) (e1 : w1 = w.alloc cz) (o2 : Only p g w1 w2) (hg2 : g2 = g ∨ g2 ≥ w1.heap.size) (hr2 : Ref W w2 p g2 bs s2)
    (e3 : w3 = w2.alloc cx) (o4 : Only p g2 w3 w4) (hg4 : g4 = g2 ∨ g4 ≥ w3.heap.size) (hr4 : Ref W w4 p g4 bs s4) (i : Nat) (u v0 v1 v2 v3 v : Value) :
    RefTo W w p g bs s4 v (.returned v) (((((w4.setCell ⟨w2.heap.size, i, none⟩ u).setCell ⟨w.heap.size, 0, none⟩ v0).setCell ⟨w.heap.size, 1, none⟩ v1).setCell ⟨w.heap.size, 2, none⟩ v2).setCell ⟨w.heap.size, 3, none⟩ v3) := by
  have s1 : w1.heap.size = w.heap.size + 1 := by rw [e1]; simp
  have s3 : w3.heap.size = w2.heap.size + 1 := by rw [e3]; simp
  have h2 := o2.size
  have h4 := o4.size
  have hgl := hr2.1.2.2.2.2.1
  have a1 : Only p g w w1 := Only.of_below (e1 ▸ (Below.refl _ w).alloc (Nat.le_refl _) cz)
  have a3 : Only p g2 w2 w3 := Only.of_below (e3 ▸ (Below.refl _ w2).alloc (Nat.le_refl _) cx)
  have a14 : Only p g w w4 := (a1.trans o2).then (a3.trans o4) (by rcases hg2 with h | h <;> omega)
  refine ⟨rfl, g4, by rcases hg4 with h | h <;> rcases hg2 with h' | h' <;> omega, ?_, ((((a14.cellw (by omega) i u).cellw (Nat.le_refl _) 0 v0).cellw (Nat.le_refl _) 1 v1).cellw (Nat.le_refl _) 2 v2).cellw (Nat.le_refl _) 3 v3⟩
  have n1 : w2.heap.size ≠ p := by omega
  have n2 : w2.heap.size ≠ g4 := by rcases hg4 with h | h <;> omega
  have n3 : w.heap.size ≠ p := by omega
  have n4 : w.heap.size ≠ g4 := by rcases hg4 with h | h <;> rcases hg2 with h' | h' <;> omega
  exact ((((hr4.cellw (by omega) n1 n2 i u).cellw hW n3 n4 0 v0).cellw hW n3 n4 1 v1).cellw hW n3 n4 2 v2).cellw hW n3 n4 3 v3
set_option maxHeartbeats 1000000 in
theorem rone_ref {W w : World} {p g : Nat} {bs : List UInt8} {s : St} (h : Ref W w p g bs s) (hlen : bs.length ≤ 140737488351232) :
    Calls Try.prog 33 #[.pointer (some ⟨p, 0, none⟩)] w (OneTo W w p g bs (oneS bs s).2 (oneS bs s).1) := by
  have hb1 : Below w.heap.size w (w.alloc (.cells #[.int .i64 0, .int .i64 0, .int .u64 0, .string ⟨#[]⟩] 28)) := (Below.refl _ w).alloc (Nat.le_refl _) _
  have HT := Lib.hid (rtag_ref (h.bel hb1))
  have H := Lib.hid h
  have HB1 := Lib.hid hb1
  have HPL := Lib.hid h.1.2.2.2.1
  have HGL := Lib.hid h.1.2.2.2.2.1
  have HWL := Lib.hid h.1.2.2.2.2.2.1.size
  have hres : Try.f33.results = #[.cell 2 28] := by kernel_rfl
  have HRS := Lib.hid hres
  obtain ⟨num, hnum⟩ : ∃ num, num = (s.rd tTag (0, 0) bs).1.1 := ⟨_, rfl⟩
  obtain ⟨wire, hwire⟩ : ∃ wire, wire = (s.rd tTag (0, 0) bs).1.2 := ⟨_, rfl⟩
  obtain ⟨s1, hs1⟩ : ∃ s1, s1 = (s.rd tTag (0, 0) bs).2 := ⟨_, rfl⟩
  have HO : Hid (oneS bs s = if wire = 0 then (⟨num, 0, (s1.rd tVar 0 bs).1, []⟩, (s1.rd tVar 0 bs).2) else if wire = 1 then (⟨num, 1, (s1.rd (tFix 8) 0 bs).1, []⟩, (s1.rd (tFix 8) 0 bs).2) else if wire = 5 then (⟨num, 5, (s1.rd (tFix 4) 0 bs).1, []⟩, (s1.rd (tFix 4) 0 bs).2) else (⟨num, wire, 0, (s1.rd tText [] bs).1⟩, (s1.rd tText [] bs).2)) := by
    show _ = _; rw [oneS, hnum, hwire, hs1]
  rw [← hnum, ← hwire, ← hs1] at HT
  clear h hb1 hnum hwire hs1 hres
  by_cases h0 : wire = 0
  · subst h0
    rw [if_pos rfl] at HO
    rw [HO.out]
    go_enter Try.func33, Try.ntmps33
    go_wp2_with (first
      | (go_at_call 52; refine HT.out.mono ?_; rintro e w2 ⟨rfl, g2, hg2, hr2, ho2⟩; have HR2 := Lib.hid hr2; have HO2 := Lib.hid ho2; have HG2 := Lib.hid hg2; have hne := (show ¬ w.heap.size = w2.heap.size from by have := ho2.size; simp only [World.size_alloc] at this; omega); have hne' := (show ¬ w2.heap.size = w.heap.size from fun e => hne e.symm); clear hr2 ho2 hg2)
      | (go_at_call 53; refine (rvarint_ref (HR2.out.bel ((Below.refl _ w2).alloc (Nat.le_refl _) _))).mono ?_; rintro e w4 ⟨rfl, g4, hg4, hr4, ho4⟩
         have hoo := one_objs HPL.out HGL.out rfl HO2.out HG2.out HR2.out rfl ho4
         have r0 := obj_cell hoo.1 0
         have r1 := obj_cell hoo.1 1
         have r2 := obj_cell hoo.1 2
         have r3 := obj_cell hoo.1 3
         have q0 := obj_free hoo.1 0
         have q1 := obj_free hoo.1 1
         have q2 := obj_free hoo.1 2
         have q3 := obj_free hoo.1 3
         have x0 := obj_cell hoo.2 0
         have x1 := obj_cell hoo.2 1
         have x2 := obj_cell hoo.2 2
         have x3 := obj_cell hoo.2 3
         have y2 := obj_free hoo.2 2
         have y3 := obj_free hoo.2 3
         have HG4 := Lib.hid hg4; have HR4 := Lib.hid hr4; have HO4 := Lib.hid ho4
         clear hg4 hr4 ho4 hoo))
    refine bodyPost_ret (v := .agg #[.int .i64 (num : Int), .int .i64 0, .int .u64 ((s1.rd tVar 0 bs).1 : Int), .string ⟨#[]⟩]) ?_ rfl (one_end HWL.out HPL.out HGL.out rfl HO2.out HG2.out HR2.out rfl HO4.out HG4.out HR4.out _ _ _ _ _ _ _)
    simp only [results, HRS.out]
    go_simp
  by_cases h1 : wire = 1
  · subst h1
    rw [if_neg (by decide), if_pos rfl] at HO
    rw [HO.out]
    go_enter Try.func33, Try.ntmps33
    go_wp2_with (first
      | (go_at_call 52; refine HT.out.mono ?_; rintro e w2 ⟨rfl, g2, hg2, hr2, ho2⟩; have HR2 := Lib.hid hr2; have HO2 := Lib.hid ho2; have HG2 := Lib.hid hg2; have hne := (show ¬ w.heap.size = w2.heap.size from by have := ho2.size; simp only [World.size_alloc] at this; omega); have hne' := (show ¬ w2.heap.size = w.heap.size from fun e => hne e.symm); clear hr2 ho2 hg2)
      | (go_at_call 54; refine (rfixed_ref 8 (by decide) (by decide) (HR2.out.bel ((Below.refl _ w2).alloc (Nat.le_refl _) _))).mono ?_; rintro e w4 ⟨rfl, g4, hg4, hr4, ho4⟩
         have hoo := one_objs HPL.out HGL.out rfl HO2.out HG2.out HR2.out rfl ho4
         have r0 := obj_cell hoo.1 0
         have r1 := obj_cell hoo.1 1
         have r2 := obj_cell hoo.1 2
         have r3 := obj_cell hoo.1 3
         have q0 := obj_free hoo.1 0
         have q1 := obj_free hoo.1 1
         have q2 := obj_free hoo.1 2
         have q3 := obj_free hoo.1 3
         have x0 := obj_cell hoo.2 0
         have x1 := obj_cell hoo.2 1
         have x2 := obj_cell hoo.2 2
         have x3 := obj_cell hoo.2 3
         have y2 := obj_free hoo.2 2
         have y3 := obj_free hoo.2 3
         have HG4 := Lib.hid hg4; have HR4 := Lib.hid hr4; have HO4 := Lib.hid ho4
         clear hg4 hr4 ho4 hoo))
    refine bodyPost_ret (v := .agg #[.int .i64 (num : Int), .int .i64 1, .int .u64 ((s1.rd (tFix 8) 0 bs).1 : Int), .string ⟨#[]⟩]) ?_ rfl (one_end HWL.out HPL.out HGL.out rfl HO2.out HG2.out HR2.out rfl HO4.out HG4.out HR4.out _ _ _ _ _ _ _)
    simp only [results, HRS.out]
    go_simp
  by_cases h5 : wire = 5
  · subst h5
    rw [if_neg (by decide), if_neg (by decide), if_pos rfl] at HO
    rw [HO.out]
    go_enter Try.func33, Try.ntmps33
    go_wp2_with (first
      | (go_at_call 52; refine HT.out.mono ?_; rintro e w2 ⟨rfl, g2, hg2, hr2, ho2⟩; have HR2 := Lib.hid hr2; have HO2 := Lib.hid ho2; have HG2 := Lib.hid hg2; have hne := (show ¬ w.heap.size = w2.heap.size from by have := ho2.size; simp only [World.size_alloc] at this; omega); have hne' := (show ¬ w2.heap.size = w.heap.size from fun e => hne e.symm); clear hr2 ho2 hg2)
      | (go_at_call 54; refine (rfixed_ref 4 (by decide) (by decide) (HR2.out.bel ((Below.refl _ w2).alloc (Nat.le_refl _) _))).mono ?_; rintro e w4 ⟨rfl, g4, hg4, hr4, ho4⟩
         have hoo := one_objs HPL.out HGL.out rfl HO2.out HG2.out HR2.out rfl ho4
         have r0 := obj_cell hoo.1 0
         have r1 := obj_cell hoo.1 1
         have r2 := obj_cell hoo.1 2
         have r3 := obj_cell hoo.1 3
         have q0 := obj_free hoo.1 0
         have q1 := obj_free hoo.1 1
         have q2 := obj_free hoo.1 2
         have q3 := obj_free hoo.1 3
         have x0 := obj_cell hoo.2 0
         have x1 := obj_cell hoo.2 1
         have x2 := obj_cell hoo.2 2
         have x3 := obj_cell hoo.2 3
         have y2 := obj_free hoo.2 2
         have y3 := obj_free hoo.2 3
         have HG4 := Lib.hid hg4; have HR4 := Lib.hid hr4; have HO4 := Lib.hid ho4
         clear hg4 hr4 ho4 hoo))
    refine bodyPost_ret (v := .agg #[.int .i64 (num : Int), .int .i64 5, .int .u64 ((s1.rd (tFix 4) 0 bs).1 : Int), .string ⟨#[]⟩]) ?_ rfl (one_end HWL.out HPL.out HGL.out rfl HO2.out HG2.out HR2.out rfl HO4.out HG4.out HR4.out _ _ _ _ _ _ _)
    simp only [results, HRS.out]
    go_simp
  rw [if_neg h0, if_neg h1, if_neg h5] at HO
  rw [HO.out]
  have g0 : ((wire : Int) == 0) = false := beq_false_of_ne (by omega)
  have g1 : ((wire : Int) == 1) = false := beq_false_of_ne (by omega)
  have g5 : ((wire : Int) == 5) = false := beq_false_of_ne (by omega)
  go_enter Try.func33, Try.ntmps33
  go_wp2_with (first
    | (go_at_call 52; refine HT.out.mono ?_; rintro e w2 ⟨rfl, g2, hg2, hr2, ho2⟩; have HR2 := Lib.hid hr2; have HO2 := Lib.hid ho2; have HG2 := Lib.hid hg2; have hne := (show ¬ w.heap.size = w2.heap.size from by have := ho2.size; simp only [World.size_alloc] at this; omega); have hne' := (show ¬ w2.heap.size = w.heap.size from fun e => hne e.symm); clear hr2 ho2 hg2)
    | (go_at_call 55; refine (text_ref (HR2.out.bel ((Below.refl _ w2).alloc (Nat.le_refl _) _)) hlen).mono ?_; rintro e w4 ⟨rfl, g4, hg4, hr4, ho4⟩
       have hoo := one_objs HPL.out HGL.out rfl HO2.out HG2.out HR2.out rfl ho4
       have r0 := obj_cell hoo.1 0
       have r1 := obj_cell hoo.1 1
       have r2 := obj_cell hoo.1 2
       have r3 := obj_cell hoo.1 3
       have q0 := obj_free hoo.1 0
       have q1 := obj_free hoo.1 1
       have q2 := obj_free hoo.1 2
       have q3 := obj_free hoo.1 3
       have x0 := obj_cell hoo.2 0
       have x1 := obj_cell hoo.2 1
       have x2 := obj_cell hoo.2 2
       have x3 := obj_cell hoo.2 3
       have y2 := obj_free hoo.2 2
       have y3 := obj_free hoo.2 3
       have HG4 := Lib.hid hg4; have HR4 := Lib.hid hr4; have HO4 := Lib.hid ho4
       clear hg4 hr4 ho4 hoo))
  refine bodyPost_ret (v := .agg #[.int .i64 (num : Int), .int .i64 (wire : Int), .int .u64 0, .string (strOf (s1.rd tText [] bs).1)]) ?_ rfl (one_end HWL.out HPL.out HGL.out rfl HO2.out HG2.out HR2.out rfl HO4.out HG4.out HR4.out _ _ _ _ _ _ _)
  simp only [results, HRS.out]
  go_simp
end Go.Proofs.Ytalbiieagcandaa
