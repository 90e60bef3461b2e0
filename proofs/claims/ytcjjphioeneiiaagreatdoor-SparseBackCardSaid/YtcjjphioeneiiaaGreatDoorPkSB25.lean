/- Several texts in one: RfA, RfB. What each proves, and its conditions, stands at its own head. -/
import Derived.Test.YtcjjphioeneiiaaGreatDoorPkSB15
import Derived.Test.YtcjjphioeneiiaaGreatDoorPkSB14
import Derived.Test.YtcjjphioeneiiaaGreatDoorPkSB11
import Derived.Test.YtcjjphioeneiiaaGreatDoorPkSB0
import Derived.Test.YtcjjphioeneiiaaGreatDoorPkSB2
import Derived.Lib.Strings
import Derived.Test.YtcjjphioeneiiaaGreatDoorPkSB12
import Derived.Deep.RegionHeld3
/- The document's layer 14: which fields may be. Conditions: those that each theorem names. -/
namespace Go.Proofs.YtcjjphioeneiiaaGreatDoor
open Go.RowKit
set_option linter.unusedVariables false
set_option maxRecDepth 100000

/-- An empty text or not, as the walk asks for it. -/
theorem empty_facts (t : List UInt8) : ((strOf t).toList == []) = decide (t = []) := by
 have h := strOf_beq t []
 rw [show (strOf []).toList = [] by rw [Lib.toList_data]; rfl] at h
 exact h
/-- The field's box, beside. -/
structure FBx (w : World) (sn sr so : ByteArray) (num ty : Int) (rep loose : Bool) (u : World) : Prop where
 fb_b : Below w.heap.size w u
 fb_x : u.heap[w.heap.size]? = some (.cells #[.string sn, .int .i64 num, .int .i64 ty, .string sr, .bool rep, .bool loose, .string so] 70 (0, 0))
theorem fbx_step {w u v : World} {sn sr so : ByteArray} {num ty : Int} {rep loose : Bool} (h : FBx w sn sr so num ty rep loose u) (hb : Below u.heap.size u v) : FBx w sn sr so num ty rep loose v ∧ v.cell? ⟨w.heap.size, 0, none⟩ = some (.string sn) ∧ v.cell? ⟨w.heap.size, 1, none⟩ = some (.int .i64 num) ∧ v.cell? ⟨w.heap.size, 2, none⟩ = some (.int .i64 ty) ∧ v.cell? ⟨w.heap.size, 3, none⟩ = some (.string sr) ∧ v.cell? ⟨w.heap.size, 4, none⟩ = some (.bool rep) ∧ v.cell? ⟨w.heap.size, 5, none⟩ = some (.bool loose) ∧ v.cell? ⟨w.heap.size, 6, none⟩ = some (.string so) := by
 have hx := (hb.block w.heap.size (lt_of_block h.fb_x)).trans h.fb_x
 exact ⟨⟨h.fb_b.trans (hb.mono h.fb_b.size), hx⟩, obj_cell hx 0, obj_cell hx 1, obj_cell hx 2, obj_cell hx 3, obj_cell hx 4, obj_cell hx 5, obj_cell hx 6⟩
set_option maxHeartbeats 40000000 in
theorem rfcheck_core (w : World) (sn sr so : ByteArray) (num ty : Int) (rep loose bn bo rb re oe fb nb : Bool) (C : Int)
 (hN : ∀ u, Calls Tryz.prog 75 #[.string sn] u fun e w' => e = .returned (.bool bn) ∧ Below u.heap.size u w')
 (hO : ∀ u, Calls Tryz.prog 75 #[.string so] u fun e w' => e = .returned (.bool bo) ∧ Below u.heap.size u w')
 (hR : ∀ u, Calls Tryz.prog 75 #[.string sr] u fun e w' => e = .returned (.bool rb) ∧ Below u.heap.size u w')
 (hF : ∀ u, Calls Tryz.prog 149 #[.int .i64 num] u fun e w' => e = .returned (.bool fb) ∧ u = w')
 (hM : ∀ u, Calls Tryz.prog 150 #[.int .i64 ty] u fun e w' => e = .returned (.bool nb) ∧ u = w')
 (hre : (sr.toList == []) = re) (hoe : (so.toList == []) = oe)
 (hC : C = if (!bn || (!oe && !bo)) = true then 2 else if (if ty = 14 ∨ ty = 15 then !rb else !re) = true then 2 else if (!fb || (decide (ty < 1) || (decide (15 < ty) || (rep && !oe)))) = true then 1 else if (loose && (!rep || !nb)) = true then 1 else 0) :
 Calls Tryz.prog 76 #[.agg #[.string sn, .int .i64 num, .int .i64 ty, .string sr, .bool rep, .bool loose, .string so]] w fun e w' => e = .returned (.int .i64 C) ∧ Below w.heap.size w w' := by
 have HN := Lib.hid hN
 have HO := Lib.hid hO
 have HR := Lib.hid hR
 have HF := Lib.hid hF
 have HM := Lib.hid hM
 have HC := Lib.hid hC
 have HB : Hid (FBx w sn sr so num ty rep loose (w.alloc (.cells #[.string sn, .int .i64 num, .int .i64 ty, .string sr, .bool rep, .bool loose, .string so] 70))) := Lib.hid ⟨(Below.refl _ w).alloc (Nat.le_refl _) _, heap_alloc_new w _⟩
 clear hN hO hR hF hM hC
 have hr3 : (re = true ∧ sr.toList = [] ∧ sr.toList.isEmpty = true) ∨ (re = false ∧ ¬ sr.toList = [] ∧ sr.toList.isEmpty = false) := by
  cases re with
  | true => exact .inl ⟨rfl, beq_iff_eq.1 hre, by rw [beq_iff_eq.1 hre]; rfl⟩
  | false => exact .inr ⟨rfl, (fun e => by rw [e] at hre; cases hre), (by rw [List.isEmpty_eq_false_iff]; intro e; rw [e] at hre; cases hre)⟩
 cases bn with
 | true =>
   cases oe with
   | true =>
     have o3 : so.toList = [] := by exact beq_iff_eq.1 hoe
     have o2 : so.toList.isEmpty = true := by rw [o3]; rfl
     by_cases h14 : ty = 14
     ·skip
      subst h14
      cases rb with
      | true =>
        cases fb with
        | true =>
          cases loose with
          | true =>
            cases rep with
            | true =>
              cases nb with
              | true =>
                have HV : Hid (C = 0) := Lib.hid (by rw [HC.out]; simp [*])
                clear HC
                go_enter Tryz.func76, Tryz.ntmps76
                go_wp2_with (first
                 | (go_at_call 75; with_reducible refine (HN.out _).mono ?_; rintro e w1 ⟨rfl, hb⟩; obtain ⟨h, r0, r1, r2, r3, r4, r5, r6⟩ := fbx_step HB.out hb; replace HB := Lib.hid h; clear h hb)
                 | (go_at_call 75; with_reducible refine (HO.out _).mono ?_; rintro e w1 ⟨rfl, hb⟩; obtain ⟨h, r0, r1, r2, r3, r4, r5, r6⟩ := fbx_step HB.out hb; replace HB := Lib.hid h; clear h hb)
                 | (go_at_call 75; with_reducible refine (HR.out _).mono ?_; rintro e w1 ⟨rfl, hb⟩; obtain ⟨h, r0, r1, r2, r3, r4, r5, r6⟩ := fbx_step HB.out hb; replace HB := Lib.hid h; clear h hb)
                 | (go_at_call 149; refine (HF.out _).mono ?_; rintro e w2 ⟨rfl, rfl⟩)
                 | (go_at_call 150; refine (HM.out _).mono ?_; rintro e w2 ⟨rfl, rfl⟩))
                all_goals (go_ret; exact ⟨by rw [HV.out]; rfl, HB.out.fb_b⟩)
              | false =>
                have HV : Hid (C = 1) := Lib.hid (by rw [HC.out]; simp [*])
                clear HC
                go_enter Tryz.func76, Tryz.ntmps76
                go_wp2_with (first
                 | (go_at_call 75; with_reducible refine (HN.out _).mono ?_; rintro e w1 ⟨rfl, hb⟩; obtain ⟨h, r0, r1, r2, r3, r4, r5, r6⟩ := fbx_step HB.out hb; replace HB := Lib.hid h; clear h hb)
                 | (go_at_call 75; with_reducible refine (HO.out _).mono ?_; rintro e w1 ⟨rfl, hb⟩; obtain ⟨h, r0, r1, r2, r3, r4, r5, r6⟩ := fbx_step HB.out hb; replace HB := Lib.hid h; clear h hb)
                 | (go_at_call 75; with_reducible refine (HR.out _).mono ?_; rintro e w1 ⟨rfl, hb⟩; obtain ⟨h, r0, r1, r2, r3, r4, r5, r6⟩ := fbx_step HB.out hb; replace HB := Lib.hid h; clear h hb)
                 | (go_at_call 149; refine (HF.out _).mono ?_; rintro e w2 ⟨rfl, rfl⟩)
                 | (go_at_call 150; refine (HM.out _).mono ?_; rintro e w2 ⟨rfl, rfl⟩))
                all_goals (go_ret; exact ⟨by rw [HV.out]; rfl, HB.out.fb_b⟩)
            | false =>
              have HV : Hid (C = 1) := Lib.hid (by rw [HC.out]; simp [*])
              clear HC
              go_enter Tryz.func76, Tryz.ntmps76
              go_wp2_with (first
               | (go_at_call 75; with_reducible refine (HN.out _).mono ?_; rintro e w1 ⟨rfl, hb⟩; obtain ⟨h, r0, r1, r2, r3, r4, r5, r6⟩ := fbx_step HB.out hb; replace HB := Lib.hid h; clear h hb)
               | (go_at_call 75; with_reducible refine (HO.out _).mono ?_; rintro e w1 ⟨rfl, hb⟩; obtain ⟨h, r0, r1, r2, r3, r4, r5, r6⟩ := fbx_step HB.out hb; replace HB := Lib.hid h; clear h hb)
               | (go_at_call 75; with_reducible refine (HR.out _).mono ?_; rintro e w1 ⟨rfl, hb⟩; obtain ⟨h, r0, r1, r2, r3, r4, r5, r6⟩ := fbx_step HB.out hb; replace HB := Lib.hid h; clear h hb)
               | (go_at_call 149; refine (HF.out _).mono ?_; rintro e w2 ⟨rfl, rfl⟩)
               | (go_at_call 150; refine (HM.out _).mono ?_; rintro e w2 ⟨rfl, rfl⟩))
              all_goals (go_ret; exact ⟨by rw [HV.out]; rfl, HB.out.fb_b⟩)
          | false =>
            have HV : Hid (C = 0) := Lib.hid (by rw [HC.out]; simp [*])
            clear HC
            go_enter Tryz.func76, Tryz.ntmps76
            go_wp2_with (first
             | (go_at_call 75; with_reducible refine (HN.out _).mono ?_; rintro e w1 ⟨rfl, hb⟩; obtain ⟨h, r0, r1, r2, r3, r4, r5, r6⟩ := fbx_step HB.out hb; replace HB := Lib.hid h; clear h hb)
             | (go_at_call 75; with_reducible refine (HO.out _).mono ?_; rintro e w1 ⟨rfl, hb⟩; obtain ⟨h, r0, r1, r2, r3, r4, r5, r6⟩ := fbx_step HB.out hb; replace HB := Lib.hid h; clear h hb)
             | (go_at_call 75; with_reducible refine (HR.out _).mono ?_; rintro e w1 ⟨rfl, hb⟩; obtain ⟨h, r0, r1, r2, r3, r4, r5, r6⟩ := fbx_step HB.out hb; replace HB := Lib.hid h; clear h hb)
             | (go_at_call 149; refine (HF.out _).mono ?_; rintro e w2 ⟨rfl, rfl⟩)
             | (go_at_call 150; refine (HM.out _).mono ?_; rintro e w2 ⟨rfl, rfl⟩))
            all_goals (go_ret; exact ⟨by rw [HV.out]; rfl, HB.out.fb_b⟩)
        | false =>
          have HV : Hid (C = 1) := Lib.hid (by rw [HC.out]; simp [*])
          clear HC
          go_enter Tryz.func76, Tryz.ntmps76
          go_wp2_with (first
           | (go_at_call 75; with_reducible refine (HN.out _).mono ?_; rintro e w1 ⟨rfl, hb⟩; obtain ⟨h, r0, r1, r2, r3, r4, r5, r6⟩ := fbx_step HB.out hb; replace HB := Lib.hid h; clear h hb)
           | (go_at_call 75; with_reducible refine (HO.out _).mono ?_; rintro e w1 ⟨rfl, hb⟩; obtain ⟨h, r0, r1, r2, r3, r4, r5, r6⟩ := fbx_step HB.out hb; replace HB := Lib.hid h; clear h hb)
           | (go_at_call 75; with_reducible refine (HR.out _).mono ?_; rintro e w1 ⟨rfl, hb⟩; obtain ⟨h, r0, r1, r2, r3, r4, r5, r6⟩ := fbx_step HB.out hb; replace HB := Lib.hid h; clear h hb)
           | (go_at_call 149; refine (HF.out _).mono ?_; rintro e w2 ⟨rfl, rfl⟩)
           | (go_at_call 150; refine (HM.out _).mono ?_; rintro e w2 ⟨rfl, rfl⟩))
          all_goals (go_ret; exact ⟨by rw [HV.out]; rfl, HB.out.fb_b⟩)
      | false =>
        have HV : Hid (C = 2) := Lib.hid (by rw [HC.out]; simp [*])
        clear HC
        go_enter Tryz.func76, Tryz.ntmps76
        go_wp2_with (first
         | (go_at_call 75; with_reducible refine (HN.out _).mono ?_; rintro e w1 ⟨rfl, hb⟩; obtain ⟨h, r0, r1, r2, r3, r4, r5, r6⟩ := fbx_step HB.out hb; replace HB := Lib.hid h; clear h hb)
         | (go_at_call 75; with_reducible refine (HO.out _).mono ?_; rintro e w1 ⟨rfl, hb⟩; obtain ⟨h, r0, r1, r2, r3, r4, r5, r6⟩ := fbx_step HB.out hb; replace HB := Lib.hid h; clear h hb)
         | (go_at_call 75; with_reducible refine (HR.out _).mono ?_; rintro e w1 ⟨rfl, hb⟩; obtain ⟨h, r0, r1, r2, r3, r4, r5, r6⟩ := fbx_step HB.out hb; replace HB := Lib.hid h; clear h hb)
         | (go_at_call 149; refine (HF.out _).mono ?_; rintro e w2 ⟨rfl, rfl⟩)
         | (go_at_call 150; refine (HM.out _).mono ?_; rintro e w2 ⟨rfl, rfl⟩))
        all_goals (go_ret; exact ⟨by rw [HV.out]; rfl, HB.out.fb_b⟩)
     ·skip
      by_cases h15x : ty = 15
      ·skip
       subst h15x
       cases rb with
       | true =>
         cases fb with
         | true =>
           cases loose with
           | true =>
             cases rep with
             | true =>
               cases nb with
               | true =>
                 have HV : Hid (C = 0) := Lib.hid (by rw [HC.out]; simp [*])
                 clear HC
                 go_enter Tryz.func76, Tryz.ntmps76
                 go_wp2_with (first
                  | (go_at_call 75; with_reducible refine (HN.out _).mono ?_; rintro e w1 ⟨rfl, hb⟩; obtain ⟨h, r0, r1, r2, r3, r4, r5, r6⟩ := fbx_step HB.out hb; replace HB := Lib.hid h; clear h hb)
                  | (go_at_call 75; with_reducible refine (HO.out _).mono ?_; rintro e w1 ⟨rfl, hb⟩; obtain ⟨h, r0, r1, r2, r3, r4, r5, r6⟩ := fbx_step HB.out hb; replace HB := Lib.hid h; clear h hb)
                  | (go_at_call 75; with_reducible refine (HR.out _).mono ?_; rintro e w1 ⟨rfl, hb⟩; obtain ⟨h, r0, r1, r2, r3, r4, r5, r6⟩ := fbx_step HB.out hb; replace HB := Lib.hid h; clear h hb)
                  | (go_at_call 149; refine (HF.out _).mono ?_; rintro e w2 ⟨rfl, rfl⟩)
                  | (go_at_call 150; refine (HM.out _).mono ?_; rintro e w2 ⟨rfl, rfl⟩))
                 all_goals (go_ret; exact ⟨by rw [HV.out]; rfl, HB.out.fb_b⟩)
               | false =>
                 have HV : Hid (C = 1) := Lib.hid (by rw [HC.out]; simp [*])
                 clear HC
                 go_enter Tryz.func76, Tryz.ntmps76
                 go_wp2_with (first
                  | (go_at_call 75; with_reducible refine (HN.out _).mono ?_; rintro e w1 ⟨rfl, hb⟩; obtain ⟨h, r0, r1, r2, r3, r4, r5, r6⟩ := fbx_step HB.out hb; replace HB := Lib.hid h; clear h hb)
                  | (go_at_call 75; with_reducible refine (HO.out _).mono ?_; rintro e w1 ⟨rfl, hb⟩; obtain ⟨h, r0, r1, r2, r3, r4, r5, r6⟩ := fbx_step HB.out hb; replace HB := Lib.hid h; clear h hb)
                  | (go_at_call 75; with_reducible refine (HR.out _).mono ?_; rintro e w1 ⟨rfl, hb⟩; obtain ⟨h, r0, r1, r2, r3, r4, r5, r6⟩ := fbx_step HB.out hb; replace HB := Lib.hid h; clear h hb)
                  | (go_at_call 149; refine (HF.out _).mono ?_; rintro e w2 ⟨rfl, rfl⟩)
                  | (go_at_call 150; refine (HM.out _).mono ?_; rintro e w2 ⟨rfl, rfl⟩))
                 all_goals (go_ret; exact ⟨by rw [HV.out]; rfl, HB.out.fb_b⟩)
             | false =>
               have HV : Hid (C = 1) := Lib.hid (by rw [HC.out]; simp [*])
               clear HC
               go_enter Tryz.func76, Tryz.ntmps76
               go_wp2_with (first
                | (go_at_call 75; with_reducible refine (HN.out _).mono ?_; rintro e w1 ⟨rfl, hb⟩; obtain ⟨h, r0, r1, r2, r3, r4, r5, r6⟩ := fbx_step HB.out hb; replace HB := Lib.hid h; clear h hb)
                | (go_at_call 75; with_reducible refine (HO.out _).mono ?_; rintro e w1 ⟨rfl, hb⟩; obtain ⟨h, r0, r1, r2, r3, r4, r5, r6⟩ := fbx_step HB.out hb; replace HB := Lib.hid h; clear h hb)
                | (go_at_call 75; with_reducible refine (HR.out _).mono ?_; rintro e w1 ⟨rfl, hb⟩; obtain ⟨h, r0, r1, r2, r3, r4, r5, r6⟩ := fbx_step HB.out hb; replace HB := Lib.hid h; clear h hb)
                | (go_at_call 149; refine (HF.out _).mono ?_; rintro e w2 ⟨rfl, rfl⟩)
                | (go_at_call 150; refine (HM.out _).mono ?_; rintro e w2 ⟨rfl, rfl⟩))
               all_goals (go_ret; exact ⟨by rw [HV.out]; rfl, HB.out.fb_b⟩)
           | false =>
             have HV : Hid (C = 0) := Lib.hid (by rw [HC.out]; simp [*])
             clear HC
             go_enter Tryz.func76, Tryz.ntmps76
             go_wp2_with (first
              | (go_at_call 75; with_reducible refine (HN.out _).mono ?_; rintro e w1 ⟨rfl, hb⟩; obtain ⟨h, r0, r1, r2, r3, r4, r5, r6⟩ := fbx_step HB.out hb; replace HB := Lib.hid h; clear h hb)
              | (go_at_call 75; with_reducible refine (HO.out _).mono ?_; rintro e w1 ⟨rfl, hb⟩; obtain ⟨h, r0, r1, r2, r3, r4, r5, r6⟩ := fbx_step HB.out hb; replace HB := Lib.hid h; clear h hb)
              | (go_at_call 75; with_reducible refine (HR.out _).mono ?_; rintro e w1 ⟨rfl, hb⟩; obtain ⟨h, r0, r1, r2, r3, r4, r5, r6⟩ := fbx_step HB.out hb; replace HB := Lib.hid h; clear h hb)
              | (go_at_call 149; refine (HF.out _).mono ?_; rintro e w2 ⟨rfl, rfl⟩)
              | (go_at_call 150; refine (HM.out _).mono ?_; rintro e w2 ⟨rfl, rfl⟩))
             all_goals (go_ret; exact ⟨by rw [HV.out]; rfl, HB.out.fb_b⟩)
         | false =>
           have HV : Hid (C = 1) := Lib.hid (by rw [HC.out]; simp [*])
           clear HC
           go_enter Tryz.func76, Tryz.ntmps76
           go_wp2_with (first
            | (go_at_call 75; with_reducible refine (HN.out _).mono ?_; rintro e w1 ⟨rfl, hb⟩; obtain ⟨h, r0, r1, r2, r3, r4, r5, r6⟩ := fbx_step HB.out hb; replace HB := Lib.hid h; clear h hb)
            | (go_at_call 75; with_reducible refine (HO.out _).mono ?_; rintro e w1 ⟨rfl, hb⟩; obtain ⟨h, r0, r1, r2, r3, r4, r5, r6⟩ := fbx_step HB.out hb; replace HB := Lib.hid h; clear h hb)
            | (go_at_call 75; with_reducible refine (HR.out _).mono ?_; rintro e w1 ⟨rfl, hb⟩; obtain ⟨h, r0, r1, r2, r3, r4, r5, r6⟩ := fbx_step HB.out hb; replace HB := Lib.hid h; clear h hb)
            | (go_at_call 149; refine (HF.out _).mono ?_; rintro e w2 ⟨rfl, rfl⟩)
            | (go_at_call 150; refine (HM.out _).mono ?_; rintro e w2 ⟨rfl, rfl⟩))
           all_goals (go_ret; exact ⟨by rw [HV.out]; rfl, HB.out.fb_b⟩)
       | false =>
         have HV : Hid (C = 2) := Lib.hid (by rw [HC.out]; simp [*])
         clear HC
         go_enter Tryz.func76, Tryz.ntmps76
         go_wp2_with (first
          | (go_at_call 75; with_reducible refine (HN.out _).mono ?_; rintro e w1 ⟨rfl, hb⟩; obtain ⟨h, r0, r1, r2, r3, r4, r5, r6⟩ := fbx_step HB.out hb; replace HB := Lib.hid h; clear h hb)
          | (go_at_call 75; with_reducible refine (HO.out _).mono ?_; rintro e w1 ⟨rfl, hb⟩; obtain ⟨h, r0, r1, r2, r3, r4, r5, r6⟩ := fbx_step HB.out hb; replace HB := Lib.hid h; clear h hb)
          | (go_at_call 75; with_reducible refine (HR.out _).mono ?_; rintro e w1 ⟨rfl, hb⟩; obtain ⟨h, r0, r1, r2, r3, r4, r5, r6⟩ := fbx_step HB.out hb; replace HB := Lib.hid h; clear h hb)
          | (go_at_call 149; refine (HF.out _).mono ?_; rintro e w2 ⟨rfl, rfl⟩)
          | (go_at_call 150; refine (HM.out _).mono ?_; rintro e w2 ⟨rfl, rfl⟩))
         all_goals (go_ret; exact ⟨by rw [HV.out]; rfl, HB.out.fb_b⟩)
      ·skip
       have e14 : (ty == 14) = false := beq_false_of_ne h14
       have e15 : (ty == 15) = false := beq_false_of_ne h15x
       rcases hr3 with ⟨rfl, a3, a2⟩ | ⟨rfl, a3, a2⟩
       ·skip
        cases fb with
        | true =>
          by_cases h1 : ty < 1
          ·skip
           have d1 : decide (ty < 1) = true := decide_eq_true h1
           have HV : Hid (C = 1) := Lib.hid (by rw [HC.out]; simp [*])
           clear HC
           go_enter Tryz.func76, Tryz.ntmps76
           go_wp2_with (first
            | (go_at_call 75; with_reducible refine (HN.out _).mono ?_; rintro e w1 ⟨rfl, hb⟩; obtain ⟨h, r0, r1, r2, r3, r4, r5, r6⟩ := fbx_step HB.out hb; replace HB := Lib.hid h; clear h hb)
            | (go_at_call 75; with_reducible refine (HO.out _).mono ?_; rintro e w1 ⟨rfl, hb⟩; obtain ⟨h, r0, r1, r2, r3, r4, r5, r6⟩ := fbx_step HB.out hb; replace HB := Lib.hid h; clear h hb)
            | (go_at_call 75; with_reducible refine (HR.out _).mono ?_; rintro e w1 ⟨rfl, hb⟩; obtain ⟨h, r0, r1, r2, r3, r4, r5, r6⟩ := fbx_step HB.out hb; replace HB := Lib.hid h; clear h hb)
            | (go_at_call 149; refine (HF.out _).mono ?_; rintro e w2 ⟨rfl, rfl⟩)
            | (go_at_call 150; refine (HM.out _).mono ?_; rintro e w2 ⟨rfl, rfl⟩))
           all_goals (go_ret; exact ⟨by rw [HV.out]; rfl, HB.out.fb_b⟩)
          ·skip
           have d1 : decide (ty < 1) = false := decide_eq_false h1
           by_cases h15 : 15 < ty
           ·skip
            have d15 : decide (ty > 15) = true := decide_eq_true h15
            have HV : Hid (C = 1) := Lib.hid (by rw [HC.out]; simp [*])
            clear HC
            go_enter Tryz.func76, Tryz.ntmps76
            go_wp2_with (first
             | (go_at_call 75; with_reducible refine (HN.out _).mono ?_; rintro e w1 ⟨rfl, hb⟩; obtain ⟨h, r0, r1, r2, r3, r4, r5, r6⟩ := fbx_step HB.out hb; replace HB := Lib.hid h; clear h hb)
             | (go_at_call 75; with_reducible refine (HO.out _).mono ?_; rintro e w1 ⟨rfl, hb⟩; obtain ⟨h, r0, r1, r2, r3, r4, r5, r6⟩ := fbx_step HB.out hb; replace HB := Lib.hid h; clear h hb)
             | (go_at_call 75; with_reducible refine (HR.out _).mono ?_; rintro e w1 ⟨rfl, hb⟩; obtain ⟨h, r0, r1, r2, r3, r4, r5, r6⟩ := fbx_step HB.out hb; replace HB := Lib.hid h; clear h hb)
             | (go_at_call 149; refine (HF.out _).mono ?_; rintro e w2 ⟨rfl, rfl⟩)
             | (go_at_call 150; refine (HM.out _).mono ?_; rintro e w2 ⟨rfl, rfl⟩))
            all_goals (go_ret; exact ⟨by rw [HV.out]; rfl, HB.out.fb_b⟩)
           ·skip
            have d15 : decide (ty > 15) = false := decide_eq_false h15
            cases loose with
            | true =>
              cases rep with
              | true =>
                cases nb with
                | true =>
                  have HV : Hid (C = 0) := Lib.hid (by rw [HC.out]; simp [*])
                  clear HC
                  go_enter Tryz.func76, Tryz.ntmps76
                  go_wp2_with (first
                   | (go_at_call 75; with_reducible refine (HN.out _).mono ?_; rintro e w1 ⟨rfl, hb⟩; obtain ⟨h, r0, r1, r2, r3, r4, r5, r6⟩ := fbx_step HB.out hb; replace HB := Lib.hid h; clear h hb)
                   | (go_at_call 75; with_reducible refine (HO.out _).mono ?_; rintro e w1 ⟨rfl, hb⟩; obtain ⟨h, r0, r1, r2, r3, r4, r5, r6⟩ := fbx_step HB.out hb; replace HB := Lib.hid h; clear h hb)
                   | (go_at_call 75; with_reducible refine (HR.out _).mono ?_; rintro e w1 ⟨rfl, hb⟩; obtain ⟨h, r0, r1, r2, r3, r4, r5, r6⟩ := fbx_step HB.out hb; replace HB := Lib.hid h; clear h hb)
                   | (go_at_call 149; refine (HF.out _).mono ?_; rintro e w2 ⟨rfl, rfl⟩)
                   | (go_at_call 150; refine (HM.out _).mono ?_; rintro e w2 ⟨rfl, rfl⟩))
                  all_goals (go_ret; exact ⟨by rw [HV.out]; rfl, HB.out.fb_b⟩)
                | false =>
                  have HV : Hid (C = 1) := Lib.hid (by rw [HC.out]; simp [*])
                  clear HC
                  go_enter Tryz.func76, Tryz.ntmps76
                  go_wp2_with (first
                   | (go_at_call 75; with_reducible refine (HN.out _).mono ?_; rintro e w1 ⟨rfl, hb⟩; obtain ⟨h, r0, r1, r2, r3, r4, r5, r6⟩ := fbx_step HB.out hb; replace HB := Lib.hid h; clear h hb)
                   | (go_at_call 75; with_reducible refine (HO.out _).mono ?_; rintro e w1 ⟨rfl, hb⟩; obtain ⟨h, r0, r1, r2, r3, r4, r5, r6⟩ := fbx_step HB.out hb; replace HB := Lib.hid h; clear h hb)
                   | (go_at_call 75; with_reducible refine (HR.out _).mono ?_; rintro e w1 ⟨rfl, hb⟩; obtain ⟨h, r0, r1, r2, r3, r4, r5, r6⟩ := fbx_step HB.out hb; replace HB := Lib.hid h; clear h hb)
                   | (go_at_call 149; refine (HF.out _).mono ?_; rintro e w2 ⟨rfl, rfl⟩)
                   | (go_at_call 150; refine (HM.out _).mono ?_; rintro e w2 ⟨rfl, rfl⟩))
                  all_goals (go_ret; exact ⟨by rw [HV.out]; rfl, HB.out.fb_b⟩)
              | false =>
                have HV : Hid (C = 1) := Lib.hid (by rw [HC.out]; simp [*])
                clear HC
                go_enter Tryz.func76, Tryz.ntmps76
                go_wp2_with (first
                 | (go_at_call 75; with_reducible refine (HN.out _).mono ?_; rintro e w1 ⟨rfl, hb⟩; obtain ⟨h, r0, r1, r2, r3, r4, r5, r6⟩ := fbx_step HB.out hb; replace HB := Lib.hid h; clear h hb)
                 | (go_at_call 75; with_reducible refine (HO.out _).mono ?_; rintro e w1 ⟨rfl, hb⟩; obtain ⟨h, r0, r1, r2, r3, r4, r5, r6⟩ := fbx_step HB.out hb; replace HB := Lib.hid h; clear h hb)
                 | (go_at_call 75; with_reducible refine (HR.out _).mono ?_; rintro e w1 ⟨rfl, hb⟩; obtain ⟨h, r0, r1, r2, r3, r4, r5, r6⟩ := fbx_step HB.out hb; replace HB := Lib.hid h; clear h hb)
                 | (go_at_call 149; refine (HF.out _).mono ?_; rintro e w2 ⟨rfl, rfl⟩)
                 | (go_at_call 150; refine (HM.out _).mono ?_; rintro e w2 ⟨rfl, rfl⟩))
                all_goals (go_ret; exact ⟨by rw [HV.out]; rfl, HB.out.fb_b⟩)
            | false =>
              have HV : Hid (C = 0) := Lib.hid (by rw [HC.out]; simp [*])
              clear HC
              go_enter Tryz.func76, Tryz.ntmps76
              go_wp2_with (first
               | (go_at_call 75; with_reducible refine (HN.out _).mono ?_; rintro e w1 ⟨rfl, hb⟩; obtain ⟨h, r0, r1, r2, r3, r4, r5, r6⟩ := fbx_step HB.out hb; replace HB := Lib.hid h; clear h hb)
               | (go_at_call 75; with_reducible refine (HO.out _).mono ?_; rintro e w1 ⟨rfl, hb⟩; obtain ⟨h, r0, r1, r2, r3, r4, r5, r6⟩ := fbx_step HB.out hb; replace HB := Lib.hid h; clear h hb)
               | (go_at_call 75; with_reducible refine (HR.out _).mono ?_; rintro e w1 ⟨rfl, hb⟩; obtain ⟨h, r0, r1, r2, r3, r4, r5, r6⟩ := fbx_step HB.out hb; replace HB := Lib.hid h; clear h hb)
               | (go_at_call 149; refine (HF.out _).mono ?_; rintro e w2 ⟨rfl, rfl⟩)
               | (go_at_call 150; refine (HM.out _).mono ?_; rintro e w2 ⟨rfl, rfl⟩))
              all_goals (go_ret; exact ⟨by rw [HV.out]; rfl, HB.out.fb_b⟩)
        | false =>
          have HV : Hid (C = 1) := Lib.hid (by rw [HC.out]; simp [*])
          clear HC
          go_enter Tryz.func76, Tryz.ntmps76
          go_wp2_with (first
           | (go_at_call 75; with_reducible refine (HN.out _).mono ?_; rintro e w1 ⟨rfl, hb⟩; obtain ⟨h, r0, r1, r2, r3, r4, r5, r6⟩ := fbx_step HB.out hb; replace HB := Lib.hid h; clear h hb)
           | (go_at_call 75; with_reducible refine (HO.out _).mono ?_; rintro e w1 ⟨rfl, hb⟩; obtain ⟨h, r0, r1, r2, r3, r4, r5, r6⟩ := fbx_step HB.out hb; replace HB := Lib.hid h; clear h hb)
           | (go_at_call 75; with_reducible refine (HR.out _).mono ?_; rintro e w1 ⟨rfl, hb⟩; obtain ⟨h, r0, r1, r2, r3, r4, r5, r6⟩ := fbx_step HB.out hb; replace HB := Lib.hid h; clear h hb)
           | (go_at_call 149; refine (HF.out _).mono ?_; rintro e w2 ⟨rfl, rfl⟩)
           | (go_at_call 150; refine (HM.out _).mono ?_; rintro e w2 ⟨rfl, rfl⟩))
          all_goals (go_ret; exact ⟨by rw [HV.out]; rfl, HB.out.fb_b⟩)
       ·skip
        have HV : Hid (C = 2) := Lib.hid (by rw [HC.out]; simp [*])
        clear HC
        go_enter Tryz.func76, Tryz.ntmps76
        go_wp2_with (first
         | (go_at_call 75; with_reducible refine (HN.out _).mono ?_; rintro e w1 ⟨rfl, hb⟩; obtain ⟨h, r0, r1, r2, r3, r4, r5, r6⟩ := fbx_step HB.out hb; replace HB := Lib.hid h; clear h hb)
         | (go_at_call 75; with_reducible refine (HO.out _).mono ?_; rintro e w1 ⟨rfl, hb⟩; obtain ⟨h, r0, r1, r2, r3, r4, r5, r6⟩ := fbx_step HB.out hb; replace HB := Lib.hid h; clear h hb)
         | (go_at_call 75; with_reducible refine (HR.out _).mono ?_; rintro e w1 ⟨rfl, hb⟩; obtain ⟨h, r0, r1, r2, r3, r4, r5, r6⟩ := fbx_step HB.out hb; replace HB := Lib.hid h; clear h hb)
         | (go_at_call 149; refine (HF.out _).mono ?_; rintro e w2 ⟨rfl, rfl⟩)
         | (go_at_call 150; refine (HM.out _).mono ?_; rintro e w2 ⟨rfl, rfl⟩))
        all_goals (go_ret; exact ⟨by rw [HV.out]; rfl, HB.out.fb_b⟩)
   | false =>
     have o3 : ¬ so.toList = [] := by intro e; rw [e] at hoe; cases hoe
     have o2 : so.toList.isEmpty = false := by rw [List.isEmpty_eq_false_iff]; exact o3
     cases bo with
     | true =>
       by_cases h14 : ty = 14
       ·skip
        subst h14
        cases rb with
        | true =>
          cases fb with
          | true =>
            cases rep with
            | true =>
              have HV : Hid (C = 1) := Lib.hid (by rw [HC.out]; simp [*])
              clear HC
              go_enter Tryz.func76, Tryz.ntmps76
              go_wp2_with (first
               | (go_at_call 75; with_reducible refine (HN.out _).mono ?_; rintro e w1 ⟨rfl, hb⟩; obtain ⟨h, r0, r1, r2, r3, r4, r5, r6⟩ := fbx_step HB.out hb; replace HB := Lib.hid h; clear h hb)
               | (go_at_call 75; with_reducible refine (HO.out _).mono ?_; rintro e w1 ⟨rfl, hb⟩; obtain ⟨h, r0, r1, r2, r3, r4, r5, r6⟩ := fbx_step HB.out hb; replace HB := Lib.hid h; clear h hb)
               | (go_at_call 75; with_reducible refine (HR.out _).mono ?_; rintro e w1 ⟨rfl, hb⟩; obtain ⟨h, r0, r1, r2, r3, r4, r5, r6⟩ := fbx_step HB.out hb; replace HB := Lib.hid h; clear h hb)
               | (go_at_call 149; refine (HF.out _).mono ?_; rintro e w2 ⟨rfl, rfl⟩)
               | (go_at_call 150; refine (HM.out _).mono ?_; rintro e w2 ⟨rfl, rfl⟩))
              all_goals (go_ret; exact ⟨by rw [HV.out]; rfl, HB.out.fb_b⟩)
            | false =>
              cases loose with
              | true =>
                have HV : Hid (C = 1) := Lib.hid (by rw [HC.out]; simp [*])
                clear HC
                go_enter Tryz.func76, Tryz.ntmps76
                go_wp2_with (first
                 | (go_at_call 75; with_reducible refine (HN.out _).mono ?_; rintro e w1 ⟨rfl, hb⟩; obtain ⟨h, r0, r1, r2, r3, r4, r5, r6⟩ := fbx_step HB.out hb; replace HB := Lib.hid h; clear h hb)
                 | (go_at_call 75; with_reducible refine (HO.out _).mono ?_; rintro e w1 ⟨rfl, hb⟩; obtain ⟨h, r0, r1, r2, r3, r4, r5, r6⟩ := fbx_step HB.out hb; replace HB := Lib.hid h; clear h hb)
                 | (go_at_call 75; with_reducible refine (HR.out _).mono ?_; rintro e w1 ⟨rfl, hb⟩; obtain ⟨h, r0, r1, r2, r3, r4, r5, r6⟩ := fbx_step HB.out hb; replace HB := Lib.hid h; clear h hb)
                 | (go_at_call 149; refine (HF.out _).mono ?_; rintro e w2 ⟨rfl, rfl⟩)
                 | (go_at_call 150; refine (HM.out _).mono ?_; rintro e w2 ⟨rfl, rfl⟩))
                all_goals (go_ret; exact ⟨by rw [HV.out]; rfl, HB.out.fb_b⟩)
              | false =>
                have HV : Hid (C = 0) := Lib.hid (by rw [HC.out]; simp [*])
                clear HC
                go_enter Tryz.func76, Tryz.ntmps76
                go_wp2_with (first
                 | (go_at_call 75; with_reducible refine (HN.out _).mono ?_; rintro e w1 ⟨rfl, hb⟩; obtain ⟨h, r0, r1, r2, r3, r4, r5, r6⟩ := fbx_step HB.out hb; replace HB := Lib.hid h; clear h hb)
                 | (go_at_call 75; with_reducible refine (HO.out _).mono ?_; rintro e w1 ⟨rfl, hb⟩; obtain ⟨h, r0, r1, r2, r3, r4, r5, r6⟩ := fbx_step HB.out hb; replace HB := Lib.hid h; clear h hb)
                 | (go_at_call 75; with_reducible refine (HR.out _).mono ?_; rintro e w1 ⟨rfl, hb⟩; obtain ⟨h, r0, r1, r2, r3, r4, r5, r6⟩ := fbx_step HB.out hb; replace HB := Lib.hid h; clear h hb)
                 | (go_at_call 149; refine (HF.out _).mono ?_; rintro e w2 ⟨rfl, rfl⟩)
                 | (go_at_call 150; refine (HM.out _).mono ?_; rintro e w2 ⟨rfl, rfl⟩))
                all_goals (go_ret; exact ⟨by rw [HV.out]; rfl, HB.out.fb_b⟩)
          | false =>
            have HV : Hid (C = 1) := Lib.hid (by rw [HC.out]; simp [*])
            clear HC
            go_enter Tryz.func76, Tryz.ntmps76
            go_wp2_with (first
             | (go_at_call 75; with_reducible refine (HN.out _).mono ?_; rintro e w1 ⟨rfl, hb⟩; obtain ⟨h, r0, r1, r2, r3, r4, r5, r6⟩ := fbx_step HB.out hb; replace HB := Lib.hid h; clear h hb)
             | (go_at_call 75; with_reducible refine (HO.out _).mono ?_; rintro e w1 ⟨rfl, hb⟩; obtain ⟨h, r0, r1, r2, r3, r4, r5, r6⟩ := fbx_step HB.out hb; replace HB := Lib.hid h; clear h hb)
             | (go_at_call 75; with_reducible refine (HR.out _).mono ?_; rintro e w1 ⟨rfl, hb⟩; obtain ⟨h, r0, r1, r2, r3, r4, r5, r6⟩ := fbx_step HB.out hb; replace HB := Lib.hid h; clear h hb)
             | (go_at_call 149; refine (HF.out _).mono ?_; rintro e w2 ⟨rfl, rfl⟩)
             | (go_at_call 150; refine (HM.out _).mono ?_; rintro e w2 ⟨rfl, rfl⟩))
            all_goals (go_ret; exact ⟨by rw [HV.out]; rfl, HB.out.fb_b⟩)
        | false =>
          have HV : Hid (C = 2) := Lib.hid (by rw [HC.out]; simp [*])
          clear HC
          go_enter Tryz.func76, Tryz.ntmps76
          go_wp2_with (first
           | (go_at_call 75; with_reducible refine (HN.out _).mono ?_; rintro e w1 ⟨rfl, hb⟩; obtain ⟨h, r0, r1, r2, r3, r4, r5, r6⟩ := fbx_step HB.out hb; replace HB := Lib.hid h; clear h hb)
           | (go_at_call 75; with_reducible refine (HO.out _).mono ?_; rintro e w1 ⟨rfl, hb⟩; obtain ⟨h, r0, r1, r2, r3, r4, r5, r6⟩ := fbx_step HB.out hb; replace HB := Lib.hid h; clear h hb)
           | (go_at_call 75; with_reducible refine (HR.out _).mono ?_; rintro e w1 ⟨rfl, hb⟩; obtain ⟨h, r0, r1, r2, r3, r4, r5, r6⟩ := fbx_step HB.out hb; replace HB := Lib.hid h; clear h hb)
           | (go_at_call 149; refine (HF.out _).mono ?_; rintro e w2 ⟨rfl, rfl⟩)
           | (go_at_call 150; refine (HM.out _).mono ?_; rintro e w2 ⟨rfl, rfl⟩))
          all_goals (go_ret; exact ⟨by rw [HV.out]; rfl, HB.out.fb_b⟩)
       ·skip
        by_cases h15x : ty = 15
        ·skip
         subst h15x
         cases rb with
         | true =>
           cases fb with
           | true =>
             cases rep with
             | true =>
               have HV : Hid (C = 1) := Lib.hid (by rw [HC.out]; simp [*])
               clear HC
               go_enter Tryz.func76, Tryz.ntmps76
               go_wp2_with (first
                | (go_at_call 75; with_reducible refine (HN.out _).mono ?_; rintro e w1 ⟨rfl, hb⟩; obtain ⟨h, r0, r1, r2, r3, r4, r5, r6⟩ := fbx_step HB.out hb; replace HB := Lib.hid h; clear h hb)
                | (go_at_call 75; with_reducible refine (HO.out _).mono ?_; rintro e w1 ⟨rfl, hb⟩; obtain ⟨h, r0, r1, r2, r3, r4, r5, r6⟩ := fbx_step HB.out hb; replace HB := Lib.hid h; clear h hb)
                | (go_at_call 75; with_reducible refine (HR.out _).mono ?_; rintro e w1 ⟨rfl, hb⟩; obtain ⟨h, r0, r1, r2, r3, r4, r5, r6⟩ := fbx_step HB.out hb; replace HB := Lib.hid h; clear h hb)
                | (go_at_call 149; refine (HF.out _).mono ?_; rintro e w2 ⟨rfl, rfl⟩)
                | (go_at_call 150; refine (HM.out _).mono ?_; rintro e w2 ⟨rfl, rfl⟩))
               all_goals (go_ret; exact ⟨by rw [HV.out]; rfl, HB.out.fb_b⟩)
             | false =>
               cases loose with
               | true =>
                 have HV : Hid (C = 1) := Lib.hid (by rw [HC.out]; simp [*])
                 clear HC
                 go_enter Tryz.func76, Tryz.ntmps76
                 go_wp2_with (first
                  | (go_at_call 75; with_reducible refine (HN.out _).mono ?_; rintro e w1 ⟨rfl, hb⟩; obtain ⟨h, r0, r1, r2, r3, r4, r5, r6⟩ := fbx_step HB.out hb; replace HB := Lib.hid h; clear h hb)
                  | (go_at_call 75; with_reducible refine (HO.out _).mono ?_; rintro e w1 ⟨rfl, hb⟩; obtain ⟨h, r0, r1, r2, r3, r4, r5, r6⟩ := fbx_step HB.out hb; replace HB := Lib.hid h; clear h hb)
                  | (go_at_call 75; with_reducible refine (HR.out _).mono ?_; rintro e w1 ⟨rfl, hb⟩; obtain ⟨h, r0, r1, r2, r3, r4, r5, r6⟩ := fbx_step HB.out hb; replace HB := Lib.hid h; clear h hb)
                  | (go_at_call 149; refine (HF.out _).mono ?_; rintro e w2 ⟨rfl, rfl⟩)
                  | (go_at_call 150; refine (HM.out _).mono ?_; rintro e w2 ⟨rfl, rfl⟩))
                 all_goals (go_ret; exact ⟨by rw [HV.out]; rfl, HB.out.fb_b⟩)
               | false =>
                 have HV : Hid (C = 0) := Lib.hid (by rw [HC.out]; simp [*])
                 clear HC
                 go_enter Tryz.func76, Tryz.ntmps76
                 go_wp2_with (first
                  | (go_at_call 75; with_reducible refine (HN.out _).mono ?_; rintro e w1 ⟨rfl, hb⟩; obtain ⟨h, r0, r1, r2, r3, r4, r5, r6⟩ := fbx_step HB.out hb; replace HB := Lib.hid h; clear h hb)
                  | (go_at_call 75; with_reducible refine (HO.out _).mono ?_; rintro e w1 ⟨rfl, hb⟩; obtain ⟨h, r0, r1, r2, r3, r4, r5, r6⟩ := fbx_step HB.out hb; replace HB := Lib.hid h; clear h hb)
                  | (go_at_call 75; with_reducible refine (HR.out _).mono ?_; rintro e w1 ⟨rfl, hb⟩; obtain ⟨h, r0, r1, r2, r3, r4, r5, r6⟩ := fbx_step HB.out hb; replace HB := Lib.hid h; clear h hb)
                  | (go_at_call 149; refine (HF.out _).mono ?_; rintro e w2 ⟨rfl, rfl⟩)
                  | (go_at_call 150; refine (HM.out _).mono ?_; rintro e w2 ⟨rfl, rfl⟩))
                 all_goals (go_ret; exact ⟨by rw [HV.out]; rfl, HB.out.fb_b⟩)
           | false =>
             have HV : Hid (C = 1) := Lib.hid (by rw [HC.out]; simp [*])
             clear HC
             go_enter Tryz.func76, Tryz.ntmps76
             go_wp2_with (first
              | (go_at_call 75; with_reducible refine (HN.out _).mono ?_; rintro e w1 ⟨rfl, hb⟩; obtain ⟨h, r0, r1, r2, r3, r4, r5, r6⟩ := fbx_step HB.out hb; replace HB := Lib.hid h; clear h hb)
              | (go_at_call 75; with_reducible refine (HO.out _).mono ?_; rintro e w1 ⟨rfl, hb⟩; obtain ⟨h, r0, r1, r2, r3, r4, r5, r6⟩ := fbx_step HB.out hb; replace HB := Lib.hid h; clear h hb)
              | (go_at_call 75; with_reducible refine (HR.out _).mono ?_; rintro e w1 ⟨rfl, hb⟩; obtain ⟨h, r0, r1, r2, r3, r4, r5, r6⟩ := fbx_step HB.out hb; replace HB := Lib.hid h; clear h hb)
              | (go_at_call 149; refine (HF.out _).mono ?_; rintro e w2 ⟨rfl, rfl⟩)
              | (go_at_call 150; refine (HM.out _).mono ?_; rintro e w2 ⟨rfl, rfl⟩))
             all_goals (go_ret; exact ⟨by rw [HV.out]; rfl, HB.out.fb_b⟩)
         | false =>
           have HV : Hid (C = 2) := Lib.hid (by rw [HC.out]; simp [*])
           clear HC
           go_enter Tryz.func76, Tryz.ntmps76
           go_wp2_with (first
            | (go_at_call 75; with_reducible refine (HN.out _).mono ?_; rintro e w1 ⟨rfl, hb⟩; obtain ⟨h, r0, r1, r2, r3, r4, r5, r6⟩ := fbx_step HB.out hb; replace HB := Lib.hid h; clear h hb)
            | (go_at_call 75; with_reducible refine (HO.out _).mono ?_; rintro e w1 ⟨rfl, hb⟩; obtain ⟨h, r0, r1, r2, r3, r4, r5, r6⟩ := fbx_step HB.out hb; replace HB := Lib.hid h; clear h hb)
            | (go_at_call 75; with_reducible refine (HR.out _).mono ?_; rintro e w1 ⟨rfl, hb⟩; obtain ⟨h, r0, r1, r2, r3, r4, r5, r6⟩ := fbx_step HB.out hb; replace HB := Lib.hid h; clear h hb)
            | (go_at_call 149; refine (HF.out _).mono ?_; rintro e w2 ⟨rfl, rfl⟩)
            | (go_at_call 150; refine (HM.out _).mono ?_; rintro e w2 ⟨rfl, rfl⟩))
           all_goals (go_ret; exact ⟨by rw [HV.out]; rfl, HB.out.fb_b⟩)
        ·skip
         have e14 : (ty == 14) = false := beq_false_of_ne h14
         have e15 : (ty == 15) = false := beq_false_of_ne h15x
         rcases hr3 with ⟨rfl, a3, a2⟩ | ⟨rfl, a3, a2⟩
         ·skip
          cases fb with
          | true =>
            by_cases h1 : ty < 1
            ·skip
             have d1 : decide (ty < 1) = true := decide_eq_true h1
             have HV : Hid (C = 1) := Lib.hid (by rw [HC.out]; simp [*])
             clear HC
             go_enter Tryz.func76, Tryz.ntmps76
             go_wp2_with (first
              | (go_at_call 75; with_reducible refine (HN.out _).mono ?_; rintro e w1 ⟨rfl, hb⟩; obtain ⟨h, r0, r1, r2, r3, r4, r5, r6⟩ := fbx_step HB.out hb; replace HB := Lib.hid h; clear h hb)
              | (go_at_call 75; with_reducible refine (HO.out _).mono ?_; rintro e w1 ⟨rfl, hb⟩; obtain ⟨h, r0, r1, r2, r3, r4, r5, r6⟩ := fbx_step HB.out hb; replace HB := Lib.hid h; clear h hb)
              | (go_at_call 75; with_reducible refine (HR.out _).mono ?_; rintro e w1 ⟨rfl, hb⟩; obtain ⟨h, r0, r1, r2, r3, r4, r5, r6⟩ := fbx_step HB.out hb; replace HB := Lib.hid h; clear h hb)
              | (go_at_call 149; refine (HF.out _).mono ?_; rintro e w2 ⟨rfl, rfl⟩)
              | (go_at_call 150; refine (HM.out _).mono ?_; rintro e w2 ⟨rfl, rfl⟩))
             all_goals (go_ret; exact ⟨by rw [HV.out]; rfl, HB.out.fb_b⟩)
            ·skip
             have d1 : decide (ty < 1) = false := decide_eq_false h1
             by_cases h15 : 15 < ty
             ·skip
              have d15 : decide (ty > 15) = true := decide_eq_true h15
              have HV : Hid (C = 1) := Lib.hid (by rw [HC.out]; simp [*])
              clear HC
              go_enter Tryz.func76, Tryz.ntmps76
              go_wp2_with (first
               | (go_at_call 75; with_reducible refine (HN.out _).mono ?_; rintro e w1 ⟨rfl, hb⟩; obtain ⟨h, r0, r1, r2, r3, r4, r5, r6⟩ := fbx_step HB.out hb; replace HB := Lib.hid h; clear h hb)
               | (go_at_call 75; with_reducible refine (HO.out _).mono ?_; rintro e w1 ⟨rfl, hb⟩; obtain ⟨h, r0, r1, r2, r3, r4, r5, r6⟩ := fbx_step HB.out hb; replace HB := Lib.hid h; clear h hb)
               | (go_at_call 75; with_reducible refine (HR.out _).mono ?_; rintro e w1 ⟨rfl, hb⟩; obtain ⟨h, r0, r1, r2, r3, r4, r5, r6⟩ := fbx_step HB.out hb; replace HB := Lib.hid h; clear h hb)
               | (go_at_call 149; refine (HF.out _).mono ?_; rintro e w2 ⟨rfl, rfl⟩)
               | (go_at_call 150; refine (HM.out _).mono ?_; rintro e w2 ⟨rfl, rfl⟩))
              all_goals (go_ret; exact ⟨by rw [HV.out]; rfl, HB.out.fb_b⟩)
             ·skip
              have d15 : decide (ty > 15) = false := decide_eq_false h15
              cases rep with
              | true =>
                have HV : Hid (C = 1) := Lib.hid (by rw [HC.out]; simp [*])
                clear HC
                go_enter Tryz.func76, Tryz.ntmps76
                go_wp2_with (first
                 | (go_at_call 75; with_reducible refine (HN.out _).mono ?_; rintro e w1 ⟨rfl, hb⟩; obtain ⟨h, r0, r1, r2, r3, r4, r5, r6⟩ := fbx_step HB.out hb; replace HB := Lib.hid h; clear h hb)
                 | (go_at_call 75; with_reducible refine (HO.out _).mono ?_; rintro e w1 ⟨rfl, hb⟩; obtain ⟨h, r0, r1, r2, r3, r4, r5, r6⟩ := fbx_step HB.out hb; replace HB := Lib.hid h; clear h hb)
                 | (go_at_call 75; with_reducible refine (HR.out _).mono ?_; rintro e w1 ⟨rfl, hb⟩; obtain ⟨h, r0, r1, r2, r3, r4, r5, r6⟩ := fbx_step HB.out hb; replace HB := Lib.hid h; clear h hb)
                 | (go_at_call 149; refine (HF.out _).mono ?_; rintro e w2 ⟨rfl, rfl⟩)
                 | (go_at_call 150; refine (HM.out _).mono ?_; rintro e w2 ⟨rfl, rfl⟩))
                all_goals (go_ret; exact ⟨by rw [HV.out]; rfl, HB.out.fb_b⟩)
              | false =>
                cases loose with
                | true =>
                  have HV : Hid (C = 1) := Lib.hid (by rw [HC.out]; simp [*])
                  clear HC
                  go_enter Tryz.func76, Tryz.ntmps76
                  go_wp2_with (first
                   | (go_at_call 75; with_reducible refine (HN.out _).mono ?_; rintro e w1 ⟨rfl, hb⟩; obtain ⟨h, r0, r1, r2, r3, r4, r5, r6⟩ := fbx_step HB.out hb; replace HB := Lib.hid h; clear h hb)
                   | (go_at_call 75; with_reducible refine (HO.out _).mono ?_; rintro e w1 ⟨rfl, hb⟩; obtain ⟨h, r0, r1, r2, r3, r4, r5, r6⟩ := fbx_step HB.out hb; replace HB := Lib.hid h; clear h hb)
                   | (go_at_call 75; with_reducible refine (HR.out _).mono ?_; rintro e w1 ⟨rfl, hb⟩; obtain ⟨h, r0, r1, r2, r3, r4, r5, r6⟩ := fbx_step HB.out hb; replace HB := Lib.hid h; clear h hb)
                   | (go_at_call 149; refine (HF.out _).mono ?_; rintro e w2 ⟨rfl, rfl⟩)
                   | (go_at_call 150; refine (HM.out _).mono ?_; rintro e w2 ⟨rfl, rfl⟩))
                  all_goals (go_ret; exact ⟨by rw [HV.out]; rfl, HB.out.fb_b⟩)
                | false =>
                  have HV : Hid (C = 0) := Lib.hid (by rw [HC.out]; simp [*])
                  clear HC
                  go_enter Tryz.func76, Tryz.ntmps76
                  go_wp2_with (first
                   | (go_at_call 75; with_reducible refine (HN.out _).mono ?_; rintro e w1 ⟨rfl, hb⟩; obtain ⟨h, r0, r1, r2, r3, r4, r5, r6⟩ := fbx_step HB.out hb; replace HB := Lib.hid h; clear h hb)
                   | (go_at_call 75; with_reducible refine (HO.out _).mono ?_; rintro e w1 ⟨rfl, hb⟩; obtain ⟨h, r0, r1, r2, r3, r4, r5, r6⟩ := fbx_step HB.out hb; replace HB := Lib.hid h; clear h hb)
                   | (go_at_call 75; with_reducible refine (HR.out _).mono ?_; rintro e w1 ⟨rfl, hb⟩; obtain ⟨h, r0, r1, r2, r3, r4, r5, r6⟩ := fbx_step HB.out hb; replace HB := Lib.hid h; clear h hb)
                   | (go_at_call 149; refine (HF.out _).mono ?_; rintro e w2 ⟨rfl, rfl⟩)
                   | (go_at_call 150; refine (HM.out _).mono ?_; rintro e w2 ⟨rfl, rfl⟩))
                  all_goals (go_ret; exact ⟨by rw [HV.out]; rfl, HB.out.fb_b⟩)
          | false =>
            have HV : Hid (C = 1) := Lib.hid (by rw [HC.out]; simp [*])
            clear HC
            go_enter Tryz.func76, Tryz.ntmps76
            go_wp2_with (first
             | (go_at_call 75; with_reducible refine (HN.out _).mono ?_; rintro e w1 ⟨rfl, hb⟩; obtain ⟨h, r0, r1, r2, r3, r4, r5, r6⟩ := fbx_step HB.out hb; replace HB := Lib.hid h; clear h hb)
             | (go_at_call 75; with_reducible refine (HO.out _).mono ?_; rintro e w1 ⟨rfl, hb⟩; obtain ⟨h, r0, r1, r2, r3, r4, r5, r6⟩ := fbx_step HB.out hb; replace HB := Lib.hid h; clear h hb)
             | (go_at_call 75; with_reducible refine (HR.out _).mono ?_; rintro e w1 ⟨rfl, hb⟩; obtain ⟨h, r0, r1, r2, r3, r4, r5, r6⟩ := fbx_step HB.out hb; replace HB := Lib.hid h; clear h hb)
             | (go_at_call 149; refine (HF.out _).mono ?_; rintro e w2 ⟨rfl, rfl⟩)
             | (go_at_call 150; refine (HM.out _).mono ?_; rintro e w2 ⟨rfl, rfl⟩))
            all_goals (go_ret; exact ⟨by rw [HV.out]; rfl, HB.out.fb_b⟩)
         ·skip
          have HV : Hid (C = 2) := Lib.hid (by rw [HC.out]; simp [*])
          clear HC
          go_enter Tryz.func76, Tryz.ntmps76
          go_wp2_with (first
           | (go_at_call 75; with_reducible refine (HN.out _).mono ?_; rintro e w1 ⟨rfl, hb⟩; obtain ⟨h, r0, r1, r2, r3, r4, r5, r6⟩ := fbx_step HB.out hb; replace HB := Lib.hid h; clear h hb)
           | (go_at_call 75; with_reducible refine (HO.out _).mono ?_; rintro e w1 ⟨rfl, hb⟩; obtain ⟨h, r0, r1, r2, r3, r4, r5, r6⟩ := fbx_step HB.out hb; replace HB := Lib.hid h; clear h hb)
           | (go_at_call 75; with_reducible refine (HR.out _).mono ?_; rintro e w1 ⟨rfl, hb⟩; obtain ⟨h, r0, r1, r2, r3, r4, r5, r6⟩ := fbx_step HB.out hb; replace HB := Lib.hid h; clear h hb)
           | (go_at_call 149; refine (HF.out _).mono ?_; rintro e w2 ⟨rfl, rfl⟩)
           | (go_at_call 150; refine (HM.out _).mono ?_; rintro e w2 ⟨rfl, rfl⟩))
          all_goals (go_ret; exact ⟨by rw [HV.out]; rfl, HB.out.fb_b⟩)
     | false =>
       have HV : Hid (C = 2) := Lib.hid (by rw [HC.out]; simp [*])
       clear HC
       go_enter Tryz.func76, Tryz.ntmps76
       go_wp2_with (first
        | (go_at_call 75; with_reducible refine (HN.out _).mono ?_; rintro e w1 ⟨rfl, hb⟩; obtain ⟨h, r0, r1, r2, r3, r4, r5, r6⟩ := fbx_step HB.out hb; replace HB := Lib.hid h; clear h hb)
        | (go_at_call 75; with_reducible refine (HO.out _).mono ?_; rintro e w1 ⟨rfl, hb⟩; obtain ⟨h, r0, r1, r2, r3, r4, r5, r6⟩ := fbx_step HB.out hb; replace HB := Lib.hid h; clear h hb)
        | (go_at_call 75; with_reducible refine (HR.out _).mono ?_; rintro e w1 ⟨rfl, hb⟩; obtain ⟨h, r0, r1, r2, r3, r4, r5, r6⟩ := fbx_step HB.out hb; replace HB := Lib.hid h; clear h hb)
        | (go_at_call 149; refine (HF.out _).mono ?_; rintro e w2 ⟨rfl, rfl⟩)
        | (go_at_call 150; refine (HM.out _).mono ?_; rintro e w2 ⟨rfl, rfl⟩))
       all_goals (go_ret; exact ⟨by rw [HV.out]; rfl, HB.out.fb_b⟩)
 | false =>
   have HV : Hid (C = 2) := Lib.hid (by rw [HC.out]; simp [*])
   clear HC
   go_enter Tryz.func76, Tryz.ntmps76
   go_wp2_with (first
    | (go_at_call 75; with_reducible refine (HN.out _).mono ?_; rintro e w1 ⟨rfl, hb⟩; obtain ⟨h, r0, r1, r2, r3, r4, r5, r6⟩ := fbx_step HB.out hb; replace HB := Lib.hid h; clear h hb)
    | (go_at_call 75; with_reducible refine (HO.out _).mono ?_; rintro e w1 ⟨rfl, hb⟩; obtain ⟨h, r0, r1, r2, r3, r4, r5, r6⟩ := fbx_step HB.out hb; replace HB := Lib.hid h; clear h hb)
    | (go_at_call 75; with_reducible refine (HR.out _).mono ?_; rintro e w1 ⟨rfl, hb⟩; obtain ⟨h, r0, r1, r2, r3, r4, r5, r6⟩ := fbx_step HB.out hb; replace HB := Lib.hid h; clear h hb)
    | (go_at_call 149; refine (HF.out _).mono ?_; rintro e w2 ⟨rfl, rfl⟩)
    | (go_at_call 150; refine (HM.out _).mono ?_; rintro e w2 ⟨rfl, rfl⟩))
   all_goals (go_ret; exact ⟨by rw [HV.out]; rfl, HB.out.fb_b⟩)
end Go.Proofs.YtcjjphioeneiiaaGreatDoor

/- The document's layer 14: Check, Packed, Hidden, Text of a field. Conditions: those that each theorem names. -/
namespace Go.Proofs.YtcjjphioeneiiaaGreatDoor
open Go.RowKit
set_option linter.unusedVariables false
set_option maxRecDepth 100000

theorem ne_not (t : List UInt8) : decide (t ≠ []) = !decide (t = []) := by by_cases h : t = [] <;> simp [h]
theorem rfcheck_any (f : Fd) (w : World) : Calls Tryz.prog 76 #[fdV f] w fun e w' => e = .returned (.int .i64 (fcheckT f)) ∧ Below w.heap.size w w' :=
 rfcheck_core w (strOf f.name) (strOf f.ref) (strOf f.one) f.num f.ty f.rep f.loose (nameB f.name) (nameB f.one) (nameB f.ref) (decide (f.ref = [])) (decide (f.one = [])) (fieldB f.num) (numberT f.ty) (fcheckT f)
  (fun u => rname_any u f.name) (fun u => rname_any u f.one) (fun u => rname_any u f.ref) (fun u => rtagfield_any f.num u) (fun u => rsnumber_any f.ty u) (empty_facts f.ref) (empty_facts f.one)
  (by unfold fcheckT fc1 fc2 fc3 fc4; rw [ne_not f.one, ne_not f.ref])
theorem nameB_len {t : List UInt8} (h : nameB t = true) : t.length ≤ 12 := by
 unfold nameB at h
 simp only [Bool.and_eq_true, decide_eq_true_eq] at h
 exact h.1.1.1.2
theorem fieldB_in {n : Int} (h : fieldB n = true) : 1 ≤ n ∧ n ≤ 536870911 := by
 unfold fieldB at h
 simp only [Bool.and_eq_true] at h
 exact (numOk_iff n).1 h.1
theorem wordT_short (ty : Int) : (wordT ty).length ≤ 8 := by
 unfold wordT
 split
 ·rename_i h
  have hc : ty = 1 ∨ ty = 2 ∨ ty = 3 ∨ ty = 4 ∨ ty = 5 ∨ ty = 6 ∨ ty = 7 ∨ ty = 8 ∨ ty = 9 ∨ ty = 10 ∨ ty = 11 ∨ ty = 12 ∨ ty = 13 := by omega
  rcases hc with rfl | rfl | rfl | rfl | rfl | rfl | rfl | rfl | rfl | rfl | rfl | rfl | rfl <;> decide
 ·exact Nat.zero_le _
set_option maxHeartbeats 8000000 in
theorem rftext_any (f : Fd) (w : World) : Calls Tryz.prog 49 #[fdV f] w fun e w' => e = .returned (.string (strOf (ftextT f))) ∧ Below w.heap.size w w' := by
 have HC := Lib.hid (fun u => rfcheck_any f u)
 have HO : Hid (ftextT f = if fcheckT f = 0 then (if f.loose = true then [108, 111, 111, 115, 101, 32] ++ ftextB f else if f.rep = true then [114, 101, 112, 101, 97, 116, 101, 100, 32] ++ ftextB f else ftextB f) else []) := Lib.hid rfl
 by_cases h0 : fcheckT f = 0
 ·obtain ⟨h1, h2, h3, h4, h5, h6, h7, h8⟩ := fcheck_ok h0
  have hn := fieldB_in h4
  have HW := Lib.hid (fun u => rsword_any f.ty u)
  obtain ⟨m, hm⟩ : ∃ m : Nat, f.num = (m : Int) := ⟨f.num.toNat, by omega⟩
  have HD := Lib.hid (fun u => rldigits_any m false u (by omega))
  have hln := nameB_len h1
  have hlr : f.ref.length ≤ 12 := by
   rcases h3 with ⟨_, e⟩ | ⟨_, e⟩
   ·exact nameB_len e
   ·rw [e]; simp
  have hlw := wordT_short f.ty
  have hld : (digitsT m false).length ≤ 21 := by
   have := decOf_len64 (n := m) (by omega)
   unfold digitsT
   split
   ·simp
   ·rw [if_neg (by decide)]; omega
  rw [if_pos h0] at HO
  rw [h0] at HC
  have hB : ftextB f = wordT f.ty ++ f.ref ++ [32] ++ f.name ++ [32, 61, 32] ++ digitsT m false ++ [59] := by unfold ftextB; rw [hm]; rfl
  rw [hB] at HO
  obtain ⟨name, num, ty, ref, rep, loose, one⟩ := f
  dsimp only at hm hn hln hlr hlw HO HW
  unfold fdV at HC ⊢
  dsimp only at HC ⊢
  obtain ⟨sn, hsn⟩ : ∃ s, s = strOf name := ⟨_, rfl⟩
  obtain ⟨sr, hsr⟩ : ∃ s, s = strOf ref := ⟨_, rfl⟩
  obtain ⟨so, hso⟩ : ∃ s, s = strOf one := ⟨_, rfl⟩
  obtain ⟨sw, hsw⟩ : ∃ s, s = strOf (wordT ty) := ⟨_, rfl⟩
  obtain ⟨sd, hsd⟩ : ∃ s, s = strOf (digitsT m false) := ⟨_, rfl⟩
  rw [← hsn, ← hsr, ← hso] at HC ⊢
  rw [← hsw] at HW
  rw [← hsd] at HD
  have z1 : sn.size ≤ 12 := by rw [hsn, str_size]; exact hln
  have z2 : sr.size ≤ 12 := by rw [hsr, str_size]; exact hlr
  have z3 : sw.size ≤ 8 := by rw [hsw, str_size]; exact hlw
  have z4 : sd.size ≤ 21 := by rw [hsd, str_size]; exact hld
  have HT : Hid (strOf (wordT ty ++ ref ++ [32] ++ name ++ [32, 61, 32] ++ digitsT m false ++ [59]) = sw ++ sr ++ ⟨#[32]⟩ ++ sn ++ ⟨#[32, 61, 32]⟩ ++ sd ++ ⟨#[59]⟩) := Lib.hid (by
   rw [hsw, hsr, hsn, hsd, show (⟨#[32]⟩ : ByteArray) = strOf [32] from rfl, show (⟨#[32, 61, 32]⟩ : ByteArray) = strOf [32, 61, 32] from rfl, show (⟨#[59]⟩ : ByteArray) = strOf [59] from rfl]
   simp only [strOf_append])
  have c1 : ¬ 9223372036854775807 < sw.size + sr.size := by omega
  have c2 : ¬ 9223372036854775807 < sw.size + sr.size + 1 := by omega
  have c3 : ¬ 9223372036854775807 < sw.size + sr.size + 1 + sn.size := by omega
  have c4 : ¬ 9223372036854775807 < sw.size + sr.size + 1 + sn.size + 3 := by omega
  have c5 : ¬ 9223372036854775807 < sw.size + sr.size + 1 + sn.size + 3 + sd.size := by omega
  have c6 : ¬ 9223372036854775807 < sw.size + sr.size + 1 + sn.size + 3 + sd.size + 1 := by omega
  have c7 : ¬ 9223372036854775807 < 6 + (sw.size + sr.size + 1 + sn.size + 3 + sd.size + 1) := by omega
  have c8 : ¬ 9223372036854775807 < 9 + (sw.size + sr.size + 1 + sn.size + 3 + sd.size + 1) := by omega
  have hwm : IntKind.u64.wrap (m : Int) = (m : Int) := by rw [IntKind.wrap_u64]; omega
  have HB : Hid (Below w.heap.size w (w.alloc (.cells #[.string sn, .int .i64 num, .int .i64 ty, .string sr, .bool rep, .bool loose, .string so] 70))) := Lib.hid ((Below.refl _ w).alloc (Nat.le_refl _) _)
  have HX : Hid ((w.alloc (.cells #[.string sn, .int .i64 num, .int .i64 ty, .string sr, .bool rep, .bool loose, .string so] 70)).heap[w.heap.size]? = some (.cells #[.string sn, .int .i64 num, .int .i64 ty, .string sr, .bool rep, .bool loose, .string so] 70 (0, 0))) := Lib.hid (heap_alloc_new w _)
  clear h0 h1 h2 h3 h4 h5 h6 h7 h8 hn hln hlr hlw hld hB hsn hsr hso hsw hsd
  subst hm
  cases loose with
  | true =>
    rw [if_pos rfl] at HO
    have HV : Hid (strOf (ftextT ⟨name, m, ty, ref, rep, true, one⟩) = ⟨#[108, 111, 111, 115, 101, 32]⟩ ++ (sw ++ sr ++ ⟨#[32]⟩ ++ sn ++ ⟨#[32, 61, 32]⟩ ++ sd ++ ⟨#[59]⟩)) := Lib.hid (by rw [HO.out, ← HT.out, ← strOf_append]; rfl)
    go_enter Tryz.func49, Tryz.ntmps49
    go_wp2_with (go_at_call 76; refine (HC.out _).mono ?_; rintro e w1 ⟨rfl, hb⟩; have hx := (hb.block w.heap.size (lt_of_block HX.out)).trans HX.out; have r0 := obj_cell hx 0; have r1 := obj_cell hx 1; have r2 := obj_cell hx 2; have r3 := obj_cell hx 3; have r4 := obj_cell hx 4; have r5 := obj_cell hx 5; have r6 := obj_cell hx 6; have HX1 := Lib.hid hx; have HB1 := Lib.hid (HB.out.trans (hb.mono HB.out.size)); clear hb hx)
    go_region_held3 (fun w' => w'.cell? ⟨w.heap.size, 0, none⟩ = some (.string sn) ∧ w'.cell? ⟨w.heap.size, 1, none⟩ = some (.int .i64 (m : Int)) ∧ w'.cell? ⟨w.heap.size, 2, none⟩ = some (.int .i64 ty) ∧ w'.cell? ⟨w.heap.size, 3, none⟩ = some (.string sr))
     (first | exact ⟨r0, r1, r2, r3⟩ | go_keep)
     (first
     | (go_at_call 100; refine (HW.out _).mono ?_; rintro e w2 ⟨rfl, hb⟩; have hx := (hb.block w.heap.size (lt_of_block HX1.out)).trans HX1.out; have r0 := obj_cell hx 0; have r1 := obj_cell hx 1; have r2 := obj_cell hx 2; have r3 := obj_cell hx 3; have r4 := obj_cell hx 4; have r5 := obj_cell hx 5; have r6 := obj_cell hx 6; have HX2 := Lib.hid hx; have hb' : Below w1.heap.size w1 w2 := ⟨hb.os, hb.tape, hb.output, hb.size, hb.block⟩; have HB2 := Lib.hid (HB1.out.trans (hb'.mono HB1.out.size)); clear hb hx hb')
     | (go_at_call 99; refine (HD.out _).mono ?_; rintro e w3 ⟨rfl, hb⟩; have hx := (hb.block w.heap.size (lt_of_block HX2.out)).trans HX2.out; have r0 := obj_cell hx 0; have r1 := obj_cell hx 1; have r2 := obj_cell hx 2; have r3 := obj_cell hx 3; have r4 := obj_cell hx 4; have r5 := obj_cell hx 5; have r6 := obj_cell hx 6; have hb' : Below w2.heap.size w2 w3 := ⟨hb.os, hb.tape, hb.output, hb.size, hb.block⟩; have HB3 := Lib.hid (HB2.out.trans (hb'.mono HB2.out.size)); clear hb hx hb'))
    go_wp2
    go_ret
    exact ⟨by rw [HV.out]; rfl, HB3.out⟩
  | false =>
    rw [if_neg (by decide)] at HO
    cases rep with
    | true =>
      rw [if_pos rfl] at HO
      have HV : Hid (strOf (ftextT ⟨name, m, ty, ref, true, false, one⟩) = ⟨#[114, 101, 112, 101, 97, 116, 101, 100, 32]⟩ ++ (sw ++ sr ++ ⟨#[32]⟩ ++ sn ++ ⟨#[32, 61, 32]⟩ ++ sd ++ ⟨#[59]⟩)) := Lib.hid (by rw [HO.out, ← HT.out, ← strOf_append]; rfl)
      go_enter Tryz.func49, Tryz.ntmps49
      go_wp2_with (go_at_call 76; refine (HC.out _).mono ?_; rintro e w1 ⟨rfl, hb⟩; have hx := (hb.block w.heap.size (lt_of_block HX.out)).trans HX.out; have r0 := obj_cell hx 0; have r1 := obj_cell hx 1; have r2 := obj_cell hx 2; have r3 := obj_cell hx 3; have r4 := obj_cell hx 4; have r5 := obj_cell hx 5; have r6 := obj_cell hx 6; have HX1 := Lib.hid hx; have HB1 := Lib.hid (HB.out.trans (hb.mono HB.out.size)); clear hb hx)
      go_region_held3 (fun w' => w'.cell? ⟨w.heap.size, 0, none⟩ = some (.string sn) ∧ w'.cell? ⟨w.heap.size, 1, none⟩ = some (.int .i64 (m : Int)) ∧ w'.cell? ⟨w.heap.size, 2, none⟩ = some (.int .i64 ty) ∧ w'.cell? ⟨w.heap.size, 3, none⟩ = some (.string sr))
       (first | exact ⟨r0, r1, r2, r3⟩ | go_keep)
       (first
       | (go_at_call 100; refine (HW.out _).mono ?_; rintro e w2 ⟨rfl, hb⟩; have hx := (hb.block w.heap.size (lt_of_block HX1.out)).trans HX1.out; have r0 := obj_cell hx 0; have r1 := obj_cell hx 1; have r2 := obj_cell hx 2; have r3 := obj_cell hx 3; have r4 := obj_cell hx 4; have r5 := obj_cell hx 5; have r6 := obj_cell hx 6; have HX2 := Lib.hid hx; have hb' : Below w1.heap.size w1 w2 := ⟨hb.os, hb.tape, hb.output, hb.size, hb.block⟩; have HB2 := Lib.hid (HB1.out.trans (hb'.mono HB1.out.size)); clear hb hx hb')
       | (go_at_call 99; refine (HD.out _).mono ?_; rintro e w3 ⟨rfl, hb⟩; have hx := (hb.block w.heap.size (lt_of_block HX2.out)).trans HX2.out; have r0 := obj_cell hx 0; have r1 := obj_cell hx 1; have r2 := obj_cell hx 2; have r3 := obj_cell hx 3; have r4 := obj_cell hx 4; have r5 := obj_cell hx 5; have r6 := obj_cell hx 6; have hb' : Below w2.heap.size w2 w3 := ⟨hb.os, hb.tape, hb.output, hb.size, hb.block⟩; have HB3 := Lib.hid (HB2.out.trans (hb'.mono HB2.out.size)); clear hb hx hb'))
      go_wp2
      go_ret
      exact ⟨by rw [HV.out]; rfl, HB3.out⟩
    | false =>
      rw [if_neg (by decide)] at HO
      have HV : Hid (strOf (ftextT ⟨name, m, ty, ref, false, false, one⟩) = sw ++ sr ++ ⟨#[32]⟩ ++ sn ++ ⟨#[32, 61, 32]⟩ ++ sd ++ ⟨#[59]⟩) := Lib.hid (by rw [HO.out, ← HT.out])
      go_enter Tryz.func49, Tryz.ntmps49
      go_wp2_with (go_at_call 76; refine (HC.out _).mono ?_; rintro e w1 ⟨rfl, hb⟩; have hx := (hb.block w.heap.size (lt_of_block HX.out)).trans HX.out; have r0 := obj_cell hx 0; have r1 := obj_cell hx 1; have r2 := obj_cell hx 2; have r3 := obj_cell hx 3; have r4 := obj_cell hx 4; have r5 := obj_cell hx 5; have r6 := obj_cell hx 6; have HX1 := Lib.hid hx; have HB1 := Lib.hid (HB.out.trans (hb.mono HB.out.size)); clear hb hx)
      go_region_held3 (fun w' => w'.cell? ⟨w.heap.size, 0, none⟩ = some (.string sn) ∧ w'.cell? ⟨w.heap.size, 1, none⟩ = some (.int .i64 (m : Int)) ∧ w'.cell? ⟨w.heap.size, 2, none⟩ = some (.int .i64 ty) ∧ w'.cell? ⟨w.heap.size, 3, none⟩ = some (.string sr))
       (first | exact ⟨r0, r1, r2, r3⟩ | go_keep)
       (first
       | (go_at_call 100; refine (HW.out _).mono ?_; rintro e w2 ⟨rfl, hb⟩; have hx := (hb.block w.heap.size (lt_of_block HX1.out)).trans HX1.out; have r0 := obj_cell hx 0; have r1 := obj_cell hx 1; have r2 := obj_cell hx 2; have r3 := obj_cell hx 3; have r4 := obj_cell hx 4; have r5 := obj_cell hx 5; have r6 := obj_cell hx 6; have HX2 := Lib.hid hx; have hb' : Below w1.heap.size w1 w2 := ⟨hb.os, hb.tape, hb.output, hb.size, hb.block⟩; have HB2 := Lib.hid (HB1.out.trans (hb'.mono HB1.out.size)); clear hb hx hb')
       | (go_at_call 99; refine (HD.out _).mono ?_; rintro e w3 ⟨rfl, hb⟩; have hx := (hb.block w.heap.size (lt_of_block HX2.out)).trans HX2.out; have r0 := obj_cell hx 0; have r1 := obj_cell hx 1; have r2 := obj_cell hx 2; have r3 := obj_cell hx 3; have r4 := obj_cell hx 4; have r5 := obj_cell hx 5; have r6 := obj_cell hx 6; have hb' : Below w2.heap.size w2 w3 := ⟨hb.os, hb.tape, hb.output, hb.size, hb.block⟩; have HB3 := Lib.hid (HB2.out.trans (hb'.mono HB2.out.size)); clear hb hx hb'))
      go_wp2
      go_ret
      exact ⟨by rw [HV.out]; rfl, HB3.out⟩
 ·rw [if_neg h0] at HO
  have e0 : (fcheckT f == 0) = false := beq_false_of_ne h0
  have HB : Hid (∀ o, Below w.heap.size w (w.alloc o)) := Lib.hid (fun o => (Below.refl _ w).alloc (Nat.le_refl _) o)
  obtain ⟨c, hc⟩ : ∃ c, c = fcheckT f := ⟨_, rfl⟩
  rw [← hc] at HC e0 h0
  obtain ⟨name, num, ty, ref, rep, loose, one⟩ := f
  unfold fdV at HC ⊢
  dsimp only at HC ⊢
  clear hc
  go_enter Tryz.func49, Tryz.ntmps49
  go_wp2_with (go_at_call 76; refine (HC.out _).mono ?_; rintro e w1 ⟨rfl, hb⟩; have HB1 := Lib.hid ((HB.out _).trans (hb.mono (HB.out _).size)); clear hb)
  go_ret
  exact ⟨by rw [HO.out]; rfl, HB1.out⟩
end Go.Proofs.YtcjjphioeneiiaaGreatDoor
