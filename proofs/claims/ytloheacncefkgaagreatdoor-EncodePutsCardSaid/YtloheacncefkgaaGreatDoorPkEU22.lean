/- Several texts in one: RfA, RfB, RvB, RvD, RvJ, RxA. What each proves, and its conditions, stands at its own head. -/
import Derived.Test.YtloheacncefkgaaGreatDoorPkEU20
import Derived.Test.YtloheacncefkgaaGreatDoorPkEU4
import Derived.Test.YtloheacncefkgaaGreatDoorPkEU0
import Derived.Test.YtloheacncefkgaaGreatDoorPkEU2
import Derived.Lib.Strings
import Derived.Test.YtloheacncefkgaaGreatDoorPkEU17
import Derived.IntWalk
import Derived.Deep.RegionHeld3
/- The document's layer 14: which fields may be. Conditions: those that each theorem names. -/
namespace Go.Proofs.YtloheacncefkgaaGreatDoor
open Go.RowKit
set_option linter.unusedVariables false
set_option maxRecDepth 100000

/-- An empty text or not, as the walk asks for it. -/
theorem empty_facts (t : List UInt8) : ((strOf t).toList == []) = decide (t = []) := by
 have h := strOf_beq t []
 rw [show (strOf []).toList = [] by rw [Lib.toList_data]; rfl] at h
 exact h
/-- The field's box, beside. -/
structure FBx (w : World) (sn sr so : ByteArray) (num ty : Int) (rep loose : Bool) (u : World) : Prop where
 fb_b : Below w.heap.size w u
 fb_x : u.heap[w.heap.size]? = some (.cells #[.string sn, .int .i64 num, .int .i64 ty, .string sr, .bool rep, .bool loose, .string so] 44 (0, 0))
theorem fbx_step {w u v : World} {sn sr so : ByteArray} {num ty : Int} {rep loose : Bool} (h : FBx w sn sr so num ty rep loose u) (hb : Below u.heap.size u v) : FBx w sn sr so num ty rep loose v ∧ v.cell? ⟨w.heap.size, 0, none⟩ = some (.string sn) ∧ v.cell? ⟨w.heap.size, 1, none⟩ = some (.int .i64 num) ∧ v.cell? ⟨w.heap.size, 2, none⟩ = some (.int .i64 ty) ∧ v.cell? ⟨w.heap.size, 3, none⟩ = some (.string sr) ∧ v.cell? ⟨w.heap.size, 4, none⟩ = some (.bool rep) ∧ v.cell? ⟨w.heap.size, 5, none⟩ = some (.bool loose) ∧ v.cell? ⟨w.heap.size, 6, none⟩ = some (.string so) := by
 have hx := (hb.block w.heap.size (lt_of_block h.fb_x)).trans h.fb_x
 exact ⟨⟨h.fb_b.trans (hb.mono h.fb_b.size), hx⟩, obj_cell hx 0, obj_cell hx 1, obj_cell hx 2, obj_cell hx 3, obj_cell hx 4, obj_cell hx 5, obj_cell hx 6⟩
set_option maxHeartbeats 40000000 in
theorem rfcheck_core (w : World) (sn sr so : ByteArray) (num ty : Int) (rep loose bn bo rb re oe fb nb : Bool) (C : Int)
 (hN : ∀ u, Calls Tryz.prog 47 #[.string sn] u fun e w' => e = .returned (.bool bn) ∧ Below u.heap.size u w')
 (hO : ∀ u, Calls Tryz.prog 47 #[.string so] u fun e w' => e = .returned (.bool bo) ∧ Below u.heap.size u w')
 (hR : ∀ u, Calls Tryz.prog 47 #[.string sr] u fun e w' => e = .returned (.bool rb) ∧ Below u.heap.size u w')
 (hF : ∀ u, Calls Tryz.prog 99 #[.int .i64 num] u fun e w' => e = .returned (.bool fb) ∧ u = w')
 (hM : ∀ u, Calls Tryz.prog 40 #[.int .i64 ty] u fun e w' => e = .returned (.bool nb) ∧ u = w')
 (hre : (sr.toList == []) = re) (hoe : (so.toList == []) = oe)
 (hC : C = if (!bn || (!oe && !bo)) = true then 2 else if (if ty = 14 ∨ ty = 15 then !rb else !re) = true then 2 else if (!fb || (decide (ty < 1) || (decide (15 < ty) || (rep && !oe)))) = true then 1 else if (loose && (!rep || !nb)) = true then 1 else 0) :
 Calls Tryz.prog 48 #[.agg #[.string sn, .int .i64 num, .int .i64 ty, .string sr, .bool rep, .bool loose, .string so]] w fun e w' => e = .returned (.int .i64 C) ∧ Below w.heap.size w w' := by
 have HN := Lib.hid hN
 have HO := Lib.hid hO
 have HR := Lib.hid hR
 have HF := Lib.hid hF
 have HM := Lib.hid hM
 have HC := Lib.hid hC
 have HB : Hid (FBx w sn sr so num ty rep loose (w.alloc (.cells #[.string sn, .int .i64 num, .int .i64 ty, .string sr, .bool rep, .bool loose, .string so] 44))) := Lib.hid ⟨(Below.refl _ w).alloc (Nat.le_refl _) _, heap_alloc_new w _⟩
 clear hN hO hR hF hM hC
 have hr3 : (re = true ∧ sr.toList = [] ∧ sr.toList.isEmpty = true) ∨ (re = false ∧ ¬ sr.toList = [] ∧ sr.toList.isEmpty = false) := by
  cases re with
  | true => exact .inl ⟨rfl, beq_iff_eq.1 hre, by rw [beq_iff_eq.1 hre]; rfl⟩
  | false => exact .inr ⟨rfl, (fun e => by rw [e] at hre; cases hre), (by rw [List.isEmpty_eq_false_iff]; intro e; rw [e] at hre; cases hre)⟩
 cases bn with
 | true =>
   cases oe with
   | true =>
     have o3 : so.toList = [] := by exact beq_iff_eq.1 hoe
     have o2 : so.toList.isEmpty = true := by rw [o3]; rfl
     by_cases h14 : ty = 14
     ·skip
      subst h14
      cases rb with
      | true =>
        cases fb with
        | true =>
          cases loose with
          | true =>
            cases rep with
            | true =>
              cases nb with
              | true =>
                have HV : Hid (C = 0) := Lib.hid (by rw [HC.out]; simp [*])
                clear HC
                go_enter Tryz.func48, Tryz.ntmps48
                go_wp2_with (first
                 | (go_at_call 47; with_reducible refine (HN.out _).mono ?_; rintro e w1 ⟨rfl, hb⟩; obtain ⟨h, r0, r1, r2, r3, r4, r5, r6⟩ := fbx_step HB.out hb; replace HB := Lib.hid h; clear h hb)
                 | (go_at_call 47; with_reducible refine (HO.out _).mono ?_; rintro e w1 ⟨rfl, hb⟩; obtain ⟨h, r0, r1, r2, r3, r4, r5, r6⟩ := fbx_step HB.out hb; replace HB := Lib.hid h; clear h hb)
                 | (go_at_call 47; with_reducible refine (HR.out _).mono ?_; rintro e w1 ⟨rfl, hb⟩; obtain ⟨h, r0, r1, r2, r3, r4, r5, r6⟩ := fbx_step HB.out hb; replace HB := Lib.hid h; clear h hb)
                 | (go_at_call 99; refine (HF.out _).mono ?_; rintro e w2 ⟨rfl, rfl⟩)
                 | (go_at_call 40; refine (HM.out _).mono ?_; rintro e w2 ⟨rfl, rfl⟩))
                all_goals (go_ret; exact ⟨by rw [HV.out]; rfl, HB.out.fb_b⟩)
              | false =>
                have HV : Hid (C = 1) := Lib.hid (by rw [HC.out]; simp [*])
                clear HC
                go_enter Tryz.func48, Tryz.ntmps48
                go_wp2_with (first
                 | (go_at_call 47; with_reducible refine (HN.out _).mono ?_; rintro e w1 ⟨rfl, hb⟩; obtain ⟨h, r0, r1, r2, r3, r4, r5, r6⟩ := fbx_step HB.out hb; replace HB := Lib.hid h; clear h hb)
                 | (go_at_call 47; with_reducible refine (HO.out _).mono ?_; rintro e w1 ⟨rfl, hb⟩; obtain ⟨h, r0, r1, r2, r3, r4, r5, r6⟩ := fbx_step HB.out hb; replace HB := Lib.hid h; clear h hb)
                 | (go_at_call 47; with_reducible refine (HR.out _).mono ?_; rintro e w1 ⟨rfl, hb⟩; obtain ⟨h, r0, r1, r2, r3, r4, r5, r6⟩ := fbx_step HB.out hb; replace HB := Lib.hid h; clear h hb)
                 | (go_at_call 99; refine (HF.out _).mono ?_; rintro e w2 ⟨rfl, rfl⟩)
                 | (go_at_call 40; refine (HM.out _).mono ?_; rintro e w2 ⟨rfl, rfl⟩))
                all_goals (go_ret; exact ⟨by rw [HV.out]; rfl, HB.out.fb_b⟩)
            | false =>
              have HV : Hid (C = 1) := Lib.hid (by rw [HC.out]; simp [*])
              clear HC
              go_enter Tryz.func48, Tryz.ntmps48
              go_wp2_with (first
               | (go_at_call 47; with_reducible refine (HN.out _).mono ?_; rintro e w1 ⟨rfl, hb⟩; obtain ⟨h, r0, r1, r2, r3, r4, r5, r6⟩ := fbx_step HB.out hb; replace HB := Lib.hid h; clear h hb)
               | (go_at_call 47; with_reducible refine (HO.out _).mono ?_; rintro e w1 ⟨rfl, hb⟩; obtain ⟨h, r0, r1, r2, r3, r4, r5, r6⟩ := fbx_step HB.out hb; replace HB := Lib.hid h; clear h hb)
               | (go_at_call 47; with_reducible refine (HR.out _).mono ?_; rintro e w1 ⟨rfl, hb⟩; obtain ⟨h, r0, r1, r2, r3, r4, r5, r6⟩ := fbx_step HB.out hb; replace HB := Lib.hid h; clear h hb)
               | (go_at_call 99; refine (HF.out _).mono ?_; rintro e w2 ⟨rfl, rfl⟩)
               | (go_at_call 40; refine (HM.out _).mono ?_; rintro e w2 ⟨rfl, rfl⟩))
              all_goals (go_ret; exact ⟨by rw [HV.out]; rfl, HB.out.fb_b⟩)
          | false =>
            have HV : Hid (C = 0) := Lib.hid (by rw [HC.out]; simp [*])
            clear HC
            go_enter Tryz.func48, Tryz.ntmps48
            go_wp2_with (first
             | (go_at_call 47; with_reducible refine (HN.out _).mono ?_; rintro e w1 ⟨rfl, hb⟩; obtain ⟨h, r0, r1, r2, r3, r4, r5, r6⟩ := fbx_step HB.out hb; replace HB := Lib.hid h; clear h hb)
             | (go_at_call 47; with_reducible refine (HO.out _).mono ?_; rintro e w1 ⟨rfl, hb⟩; obtain ⟨h, r0, r1, r2, r3, r4, r5, r6⟩ := fbx_step HB.out hb; replace HB := Lib.hid h; clear h hb)
             | (go_at_call 47; with_reducible refine (HR.out _).mono ?_; rintro e w1 ⟨rfl, hb⟩; obtain ⟨h, r0, r1, r2, r3, r4, r5, r6⟩ := fbx_step HB.out hb; replace HB := Lib.hid h; clear h hb)
             | (go_at_call 99; refine (HF.out _).mono ?_; rintro e w2 ⟨rfl, rfl⟩)
             | (go_at_call 40; refine (HM.out _).mono ?_; rintro e w2 ⟨rfl, rfl⟩))
            all_goals (go_ret; exact ⟨by rw [HV.out]; rfl, HB.out.fb_b⟩)
        | false =>
          have HV : Hid (C = 1) := Lib.hid (by rw [HC.out]; simp [*])
          clear HC
          go_enter Tryz.func48, Tryz.ntmps48
          go_wp2_with (first
           | (go_at_call 47; with_reducible refine (HN.out _).mono ?_; rintro e w1 ⟨rfl, hb⟩; obtain ⟨h, r0, r1, r2, r3, r4, r5, r6⟩ := fbx_step HB.out hb; replace HB := Lib.hid h; clear h hb)
           | (go_at_call 47; with_reducible refine (HO.out _).mono ?_; rintro e w1 ⟨rfl, hb⟩; obtain ⟨h, r0, r1, r2, r3, r4, r5, r6⟩ := fbx_step HB.out hb; replace HB := Lib.hid h; clear h hb)
           | (go_at_call 47; with_reducible refine (HR.out _).mono ?_; rintro e w1 ⟨rfl, hb⟩; obtain ⟨h, r0, r1, r2, r3, r4, r5, r6⟩ := fbx_step HB.out hb; replace HB := Lib.hid h; clear h hb)
           | (go_at_call 99; refine (HF.out _).mono ?_; rintro e w2 ⟨rfl, rfl⟩)
           | (go_at_call 40; refine (HM.out _).mono ?_; rintro e w2 ⟨rfl, rfl⟩))
          all_goals (go_ret; exact ⟨by rw [HV.out]; rfl, HB.out.fb_b⟩)
      | false =>
        have HV : Hid (C = 2) := Lib.hid (by rw [HC.out]; simp [*])
        clear HC
        go_enter Tryz.func48, Tryz.ntmps48
        go_wp2_with (first
         | (go_at_call 47; with_reducible refine (HN.out _).mono ?_; rintro e w1 ⟨rfl, hb⟩; obtain ⟨h, r0, r1, r2, r3, r4, r5, r6⟩ := fbx_step HB.out hb; replace HB := Lib.hid h; clear h hb)
         | (go_at_call 47; with_reducible refine (HO.out _).mono ?_; rintro e w1 ⟨rfl, hb⟩; obtain ⟨h, r0, r1, r2, r3, r4, r5, r6⟩ := fbx_step HB.out hb; replace HB := Lib.hid h; clear h hb)
         | (go_at_call 47; with_reducible refine (HR.out _).mono ?_; rintro e w1 ⟨rfl, hb⟩; obtain ⟨h, r0, r1, r2, r3, r4, r5, r6⟩ := fbx_step HB.out hb; replace HB := Lib.hid h; clear h hb)
         | (go_at_call 99; refine (HF.out _).mono ?_; rintro e w2 ⟨rfl, rfl⟩)
         | (go_at_call 40; refine (HM.out _).mono ?_; rintro e w2 ⟨rfl, rfl⟩))
        all_goals (go_ret; exact ⟨by rw [HV.out]; rfl, HB.out.fb_b⟩)
     ·skip
      by_cases h15x : ty = 15
      ·skip
       subst h15x
       cases rb with
       | true =>
         cases fb with
         | true =>
           cases loose with
           | true =>
             cases rep with
             | true =>
               cases nb with
               | true =>
                 have HV : Hid (C = 0) := Lib.hid (by rw [HC.out]; simp [*])
                 clear HC
                 go_enter Tryz.func48, Tryz.ntmps48
                 go_wp2_with (first
                  | (go_at_call 47; with_reducible refine (HN.out _).mono ?_; rintro e w1 ⟨rfl, hb⟩; obtain ⟨h, r0, r1, r2, r3, r4, r5, r6⟩ := fbx_step HB.out hb; replace HB := Lib.hid h; clear h hb)
                  | (go_at_call 47; with_reducible refine (HO.out _).mono ?_; rintro e w1 ⟨rfl, hb⟩; obtain ⟨h, r0, r1, r2, r3, r4, r5, r6⟩ := fbx_step HB.out hb; replace HB := Lib.hid h; clear h hb)
                  | (go_at_call 47; with_reducible refine (HR.out _).mono ?_; rintro e w1 ⟨rfl, hb⟩; obtain ⟨h, r0, r1, r2, r3, r4, r5, r6⟩ := fbx_step HB.out hb; replace HB := Lib.hid h; clear h hb)
                  | (go_at_call 99; refine (HF.out _).mono ?_; rintro e w2 ⟨rfl, rfl⟩)
                  | (go_at_call 40; refine (HM.out _).mono ?_; rintro e w2 ⟨rfl, rfl⟩))
                 all_goals (go_ret; exact ⟨by rw [HV.out]; rfl, HB.out.fb_b⟩)
               | false =>
                 have HV : Hid (C = 1) := Lib.hid (by rw [HC.out]; simp [*])
                 clear HC
                 go_enter Tryz.func48, Tryz.ntmps48
                 go_wp2_with (first
                  | (go_at_call 47; with_reducible refine (HN.out _).mono ?_; rintro e w1 ⟨rfl, hb⟩; obtain ⟨h, r0, r1, r2, r3, r4, r5, r6⟩ := fbx_step HB.out hb; replace HB := Lib.hid h; clear h hb)
                  | (go_at_call 47; with_reducible refine (HO.out _).mono ?_; rintro e w1 ⟨rfl, hb⟩; obtain ⟨h, r0, r1, r2, r3, r4, r5, r6⟩ := fbx_step HB.out hb; replace HB := Lib.hid h; clear h hb)
                  | (go_at_call 47; with_reducible refine (HR.out _).mono ?_; rintro e w1 ⟨rfl, hb⟩; obtain ⟨h, r0, r1, r2, r3, r4, r5, r6⟩ := fbx_step HB.out hb; replace HB := Lib.hid h; clear h hb)
                  | (go_at_call 99; refine (HF.out _).mono ?_; rintro e w2 ⟨rfl, rfl⟩)
                  | (go_at_call 40; refine (HM.out _).mono ?_; rintro e w2 ⟨rfl, rfl⟩))
                 all_goals (go_ret; exact ⟨by rw [HV.out]; rfl, HB.out.fb_b⟩)
             | false =>
               have HV : Hid (C = 1) := Lib.hid (by rw [HC.out]; simp [*])
               clear HC
               go_enter Tryz.func48, Tryz.ntmps48
               go_wp2_with (first
                | (go_at_call 47; with_reducible refine (HN.out _).mono ?_; rintro e w1 ⟨rfl, hb⟩; obtain ⟨h, r0, r1, r2, r3, r4, r5, r6⟩ := fbx_step HB.out hb; replace HB := Lib.hid h; clear h hb)
                | (go_at_call 47; with_reducible refine (HO.out _).mono ?_; rintro e w1 ⟨rfl, hb⟩; obtain ⟨h, r0, r1, r2, r3, r4, r5, r6⟩ := fbx_step HB.out hb; replace HB := Lib.hid h; clear h hb)
                | (go_at_call 47; with_reducible refine (HR.out _).mono ?_; rintro e w1 ⟨rfl, hb⟩; obtain ⟨h, r0, r1, r2, r3, r4, r5, r6⟩ := fbx_step HB.out hb; replace HB := Lib.hid h; clear h hb)
                | (go_at_call 99; refine (HF.out _).mono ?_; rintro e w2 ⟨rfl, rfl⟩)
                | (go_at_call 40; refine (HM.out _).mono ?_; rintro e w2 ⟨rfl, rfl⟩))
               all_goals (go_ret; exact ⟨by rw [HV.out]; rfl, HB.out.fb_b⟩)
           | false =>
             have HV : Hid (C = 0) := Lib.hid (by rw [HC.out]; simp [*])
             clear HC
             go_enter Tryz.func48, Tryz.ntmps48
             go_wp2_with (first
              | (go_at_call 47; with_reducible refine (HN.out _).mono ?_; rintro e w1 ⟨rfl, hb⟩; obtain ⟨h, r0, r1, r2, r3, r4, r5, r6⟩ := fbx_step HB.out hb; replace HB := Lib.hid h; clear h hb)
              | (go_at_call 47; with_reducible refine (HO.out _).mono ?_; rintro e w1 ⟨rfl, hb⟩; obtain ⟨h, r0, r1, r2, r3, r4, r5, r6⟩ := fbx_step HB.out hb; replace HB := Lib.hid h; clear h hb)
              | (go_at_call 47; with_reducible refine (HR.out _).mono ?_; rintro e w1 ⟨rfl, hb⟩; obtain ⟨h, r0, r1, r2, r3, r4, r5, r6⟩ := fbx_step HB.out hb; replace HB := Lib.hid h; clear h hb)
              | (go_at_call 99; refine (HF.out _).mono ?_; rintro e w2 ⟨rfl, rfl⟩)
              | (go_at_call 40; refine (HM.out _).mono ?_; rintro e w2 ⟨rfl, rfl⟩))
             all_goals (go_ret; exact ⟨by rw [HV.out]; rfl, HB.out.fb_b⟩)
         | false =>
           have HV : Hid (C = 1) := Lib.hid (by rw [HC.out]; simp [*])
           clear HC
           go_enter Tryz.func48, Tryz.ntmps48
           go_wp2_with (first
            | (go_at_call 47; with_reducible refine (HN.out _).mono ?_; rintro e w1 ⟨rfl, hb⟩; obtain ⟨h, r0, r1, r2, r3, r4, r5, r6⟩ := fbx_step HB.out hb; replace HB := Lib.hid h; clear h hb)
            | (go_at_call 47; with_reducible refine (HO.out _).mono ?_; rintro e w1 ⟨rfl, hb⟩; obtain ⟨h, r0, r1, r2, r3, r4, r5, r6⟩ := fbx_step HB.out hb; replace HB := Lib.hid h; clear h hb)
            | (go_at_call 47; with_reducible refine (HR.out _).mono ?_; rintro e w1 ⟨rfl, hb⟩; obtain ⟨h, r0, r1, r2, r3, r4, r5, r6⟩ := fbx_step HB.out hb; replace HB := Lib.hid h; clear h hb)
            | (go_at_call 99; refine (HF.out _).mono ?_; rintro e w2 ⟨rfl, rfl⟩)
            | (go_at_call 40; refine (HM.out _).mono ?_; rintro e w2 ⟨rfl, rfl⟩))
           all_goals (go_ret; exact ⟨by rw [HV.out]; rfl, HB.out.fb_b⟩)
       | false =>
         have HV : Hid (C = 2) := Lib.hid (by rw [HC.out]; simp [*])
         clear HC
         go_enter Tryz.func48, Tryz.ntmps48
         go_wp2_with (first
          | (go_at_call 47; with_reducible refine (HN.out _).mono ?_; rintro e w1 ⟨rfl, hb⟩; obtain ⟨h, r0, r1, r2, r3, r4, r5, r6⟩ := fbx_step HB.out hb; replace HB := Lib.hid h; clear h hb)
          | (go_at_call 47; with_reducible refine (HO.out _).mono ?_; rintro e w1 ⟨rfl, hb⟩; obtain ⟨h, r0, r1, r2, r3, r4, r5, r6⟩ := fbx_step HB.out hb; replace HB := Lib.hid h; clear h hb)
          | (go_at_call 47; with_reducible refine (HR.out _).mono ?_; rintro e w1 ⟨rfl, hb⟩; obtain ⟨h, r0, r1, r2, r3, r4, r5, r6⟩ := fbx_step HB.out hb; replace HB := Lib.hid h; clear h hb)
          | (go_at_call 99; refine (HF.out _).mono ?_; rintro e w2 ⟨rfl, rfl⟩)
          | (go_at_call 40; refine (HM.out _).mono ?_; rintro e w2 ⟨rfl, rfl⟩))
         all_goals (go_ret; exact ⟨by rw [HV.out]; rfl, HB.out.fb_b⟩)
      ·skip
       have e14 : (ty == 14) = false := beq_false_of_ne h14
       have e15 : (ty == 15) = false := beq_false_of_ne h15x
       rcases hr3 with ⟨rfl, a3, a2⟩ | ⟨rfl, a3, a2⟩
       ·skip
        cases fb with
        | true =>
          by_cases h1 : ty < 1
          ·skip
           have d1 : decide (ty < 1) = true := decide_eq_true h1
           have HV : Hid (C = 1) := Lib.hid (by rw [HC.out]; simp [*])
           clear HC
           go_enter Tryz.func48, Tryz.ntmps48
           go_wp2_with (first
            | (go_at_call 47; with_reducible refine (HN.out _).mono ?_; rintro e w1 ⟨rfl, hb⟩; obtain ⟨h, r0, r1, r2, r3, r4, r5, r6⟩ := fbx_step HB.out hb; replace HB := Lib.hid h; clear h hb)
            | (go_at_call 47; with_reducible refine (HO.out _).mono ?_; rintro e w1 ⟨rfl, hb⟩; obtain ⟨h, r0, r1, r2, r3, r4, r5, r6⟩ := fbx_step HB.out hb; replace HB := Lib.hid h; clear h hb)
            | (go_at_call 47; with_reducible refine (HR.out _).mono ?_; rintro e w1 ⟨rfl, hb⟩; obtain ⟨h, r0, r1, r2, r3, r4, r5, r6⟩ := fbx_step HB.out hb; replace HB := Lib.hid h; clear h hb)
            | (go_at_call 99; refine (HF.out _).mono ?_; rintro e w2 ⟨rfl, rfl⟩)
            | (go_at_call 40; refine (HM.out _).mono ?_; rintro e w2 ⟨rfl, rfl⟩))
           all_goals (go_ret; exact ⟨by rw [HV.out]; rfl, HB.out.fb_b⟩)
          ·skip
           have d1 : decide (ty < 1) = false := decide_eq_false h1
           by_cases h15 : 15 < ty
           ·skip
            have d15 : decide (ty > 15) = true := decide_eq_true h15
            have HV : Hid (C = 1) := Lib.hid (by rw [HC.out]; simp [*])
            clear HC
            go_enter Tryz.func48, Tryz.ntmps48
            go_wp2_with (first
             | (go_at_call 47; with_reducible refine (HN.out _).mono ?_; rintro e w1 ⟨rfl, hb⟩; obtain ⟨h, r0, r1, r2, r3, r4, r5, r6⟩ := fbx_step HB.out hb; replace HB := Lib.hid h; clear h hb)
             | (go_at_call 47; with_reducible refine (HO.out _).mono ?_; rintro e w1 ⟨rfl, hb⟩; obtain ⟨h, r0, r1, r2, r3, r4, r5, r6⟩ := fbx_step HB.out hb; replace HB := Lib.hid h; clear h hb)
             | (go_at_call 47; with_reducible refine (HR.out _).mono ?_; rintro e w1 ⟨rfl, hb⟩; obtain ⟨h, r0, r1, r2, r3, r4, r5, r6⟩ := fbx_step HB.out hb; replace HB := Lib.hid h; clear h hb)
             | (go_at_call 99; refine (HF.out _).mono ?_; rintro e w2 ⟨rfl, rfl⟩)
             | (go_at_call 40; refine (HM.out _).mono ?_; rintro e w2 ⟨rfl, rfl⟩))
            all_goals (go_ret; exact ⟨by rw [HV.out]; rfl, HB.out.fb_b⟩)
           ·skip
            have d15 : decide (ty > 15) = false := decide_eq_false h15
            cases loose with
            | true =>
              cases rep with
              | true =>
                cases nb with
                | true =>
                  have HV : Hid (C = 0) := Lib.hid (by rw [HC.out]; simp [*])
                  clear HC
                  go_enter Tryz.func48, Tryz.ntmps48
                  go_wp2_with (first
                   | (go_at_call 47; with_reducible refine (HN.out _).mono ?_; rintro e w1 ⟨rfl, hb⟩; obtain ⟨h, r0, r1, r2, r3, r4, r5, r6⟩ := fbx_step HB.out hb; replace HB := Lib.hid h; clear h hb)
                   | (go_at_call 47; with_reducible refine (HO.out _).mono ?_; rintro e w1 ⟨rfl, hb⟩; obtain ⟨h, r0, r1, r2, r3, r4, r5, r6⟩ := fbx_step HB.out hb; replace HB := Lib.hid h; clear h hb)
                   | (go_at_call 47; with_reducible refine (HR.out _).mono ?_; rintro e w1 ⟨rfl, hb⟩; obtain ⟨h, r0, r1, r2, r3, r4, r5, r6⟩ := fbx_step HB.out hb; replace HB := Lib.hid h; clear h hb)
                   | (go_at_call 99; refine (HF.out _).mono ?_; rintro e w2 ⟨rfl, rfl⟩)
                   | (go_at_call 40; refine (HM.out _).mono ?_; rintro e w2 ⟨rfl, rfl⟩))
                  all_goals (go_ret; exact ⟨by rw [HV.out]; rfl, HB.out.fb_b⟩)
                | false =>
                  have HV : Hid (C = 1) := Lib.hid (by rw [HC.out]; simp [*])
                  clear HC
                  go_enter Tryz.func48, Tryz.ntmps48
                  go_wp2_with (first
                   | (go_at_call 47; with_reducible refine (HN.out _).mono ?_; rintro e w1 ⟨rfl, hb⟩; obtain ⟨h, r0, r1, r2, r3, r4, r5, r6⟩ := fbx_step HB.out hb; replace HB := Lib.hid h; clear h hb)
                   | (go_at_call 47; with_reducible refine (HO.out _).mono ?_; rintro e w1 ⟨rfl, hb⟩; obtain ⟨h, r0, r1, r2, r3, r4, r5, r6⟩ := fbx_step HB.out hb; replace HB := Lib.hid h; clear h hb)
                   | (go_at_call 47; with_reducible refine (HR.out _).mono ?_; rintro e w1 ⟨rfl, hb⟩; obtain ⟨h, r0, r1, r2, r3, r4, r5, r6⟩ := fbx_step HB.out hb; replace HB := Lib.hid h; clear h hb)
                   | (go_at_call 99; refine (HF.out _).mono ?_; rintro e w2 ⟨rfl, rfl⟩)
                   | (go_at_call 40; refine (HM.out _).mono ?_; rintro e w2 ⟨rfl, rfl⟩))
                  all_goals (go_ret; exact ⟨by rw [HV.out]; rfl, HB.out.fb_b⟩)
              | false =>
                have HV : Hid (C = 1) := Lib.hid (by rw [HC.out]; simp [*])
                clear HC
                go_enter Tryz.func48, Tryz.ntmps48
                go_wp2_with (first
                 | (go_at_call 47; with_reducible refine (HN.out _).mono ?_; rintro e w1 ⟨rfl, hb⟩; obtain ⟨h, r0, r1, r2, r3, r4, r5, r6⟩ := fbx_step HB.out hb; replace HB := Lib.hid h; clear h hb)
                 | (go_at_call 47; with_reducible refine (HO.out _).mono ?_; rintro e w1 ⟨rfl, hb⟩; obtain ⟨h, r0, r1, r2, r3, r4, r5, r6⟩ := fbx_step HB.out hb; replace HB := Lib.hid h; clear h hb)
                 | (go_at_call 47; with_reducible refine (HR.out _).mono ?_; rintro e w1 ⟨rfl, hb⟩; obtain ⟨h, r0, r1, r2, r3, r4, r5, r6⟩ := fbx_step HB.out hb; replace HB := Lib.hid h; clear h hb)
                 | (go_at_call 99; refine (HF.out _).mono ?_; rintro e w2 ⟨rfl, rfl⟩)
                 | (go_at_call 40; refine (HM.out _).mono ?_; rintro e w2 ⟨rfl, rfl⟩))
                all_goals (go_ret; exact ⟨by rw [HV.out]; rfl, HB.out.fb_b⟩)
            | false =>
              have HV : Hid (C = 0) := Lib.hid (by rw [HC.out]; simp [*])
              clear HC
              go_enter Tryz.func48, Tryz.ntmps48
              go_wp2_with (first
               | (go_at_call 47; with_reducible refine (HN.out _).mono ?_; rintro e w1 ⟨rfl, hb⟩; obtain ⟨h, r0, r1, r2, r3, r4, r5, r6⟩ := fbx_step HB.out hb; replace HB := Lib.hid h; clear h hb)
               | (go_at_call 47; with_reducible refine (HO.out _).mono ?_; rintro e w1 ⟨rfl, hb⟩; obtain ⟨h, r0, r1, r2, r3, r4, r5, r6⟩ := fbx_step HB.out hb; replace HB := Lib.hid h; clear h hb)
               | (go_at_call 47; with_reducible refine (HR.out _).mono ?_; rintro e w1 ⟨rfl, hb⟩; obtain ⟨h, r0, r1, r2, r3, r4, r5, r6⟩ := fbx_step HB.out hb; replace HB := Lib.hid h; clear h hb)
               | (go_at_call 99; refine (HF.out _).mono ?_; rintro e w2 ⟨rfl, rfl⟩)
               | (go_at_call 40; refine (HM.out _).mono ?_; rintro e w2 ⟨rfl, rfl⟩))
              all_goals (go_ret; exact ⟨by rw [HV.out]; rfl, HB.out.fb_b⟩)
        | false =>
          have HV : Hid (C = 1) := Lib.hid (by rw [HC.out]; simp [*])
          clear HC
          go_enter Tryz.func48, Tryz.ntmps48
          go_wp2_with (first
           | (go_at_call 47; with_reducible refine (HN.out _).mono ?_; rintro e w1 ⟨rfl, hb⟩; obtain ⟨h, r0, r1, r2, r3, r4, r5, r6⟩ := fbx_step HB.out hb; replace HB := Lib.hid h; clear h hb)
           | (go_at_call 47; with_reducible refine (HO.out _).mono ?_; rintro e w1 ⟨rfl, hb⟩; obtain ⟨h, r0, r1, r2, r3, r4, r5, r6⟩ := fbx_step HB.out hb; replace HB := Lib.hid h; clear h hb)
           | (go_at_call 47; with_reducible refine (HR.out _).mono ?_; rintro e w1 ⟨rfl, hb⟩; obtain ⟨h, r0, r1, r2, r3, r4, r5, r6⟩ := fbx_step HB.out hb; replace HB := Lib.hid h; clear h hb)
           | (go_at_call 99; refine (HF.out _).mono ?_; rintro e w2 ⟨rfl, rfl⟩)
           | (go_at_call 40; refine (HM.out _).mono ?_; rintro e w2 ⟨rfl, rfl⟩))
          all_goals (go_ret; exact ⟨by rw [HV.out]; rfl, HB.out.fb_b⟩)
       ·skip
        have HV : Hid (C = 2) := Lib.hid (by rw [HC.out]; simp [*])
        clear HC
        go_enter Tryz.func48, Tryz.ntmps48
        go_wp2_with (first
         | (go_at_call 47; with_reducible refine (HN.out _).mono ?_; rintro e w1 ⟨rfl, hb⟩; obtain ⟨h, r0, r1, r2, r3, r4, r5, r6⟩ := fbx_step HB.out hb; replace HB := Lib.hid h; clear h hb)
         | (go_at_call 47; with_reducible refine (HO.out _).mono ?_; rintro e w1 ⟨rfl, hb⟩; obtain ⟨h, r0, r1, r2, r3, r4, r5, r6⟩ := fbx_step HB.out hb; replace HB := Lib.hid h; clear h hb)
         | (go_at_call 47; with_reducible refine (HR.out _).mono ?_; rintro e w1 ⟨rfl, hb⟩; obtain ⟨h, r0, r1, r2, r3, r4, r5, r6⟩ := fbx_step HB.out hb; replace HB := Lib.hid h; clear h hb)
         | (go_at_call 99; refine (HF.out _).mono ?_; rintro e w2 ⟨rfl, rfl⟩)
         | (go_at_call 40; refine (HM.out _).mono ?_; rintro e w2 ⟨rfl, rfl⟩))
        all_goals (go_ret; exact ⟨by rw [HV.out]; rfl, HB.out.fb_b⟩)
   | false =>
     have o3 : ¬ so.toList = [] := by intro e; rw [e] at hoe; cases hoe
     have o2 : so.toList.isEmpty = false := by rw [List.isEmpty_eq_false_iff]; exact o3
     cases bo with
     | true =>
       by_cases h14 : ty = 14
       ·skip
        subst h14
        cases rb with
        | true =>
          cases fb with
          | true =>
            cases rep with
            | true =>
              have HV : Hid (C = 1) := Lib.hid (by rw [HC.out]; simp [*])
              clear HC
              go_enter Tryz.func48, Tryz.ntmps48
              go_wp2_with (first
               | (go_at_call 47; with_reducible refine (HN.out _).mono ?_; rintro e w1 ⟨rfl, hb⟩; obtain ⟨h, r0, r1, r2, r3, r4, r5, r6⟩ := fbx_step HB.out hb; replace HB := Lib.hid h; clear h hb)
               | (go_at_call 47; with_reducible refine (HO.out _).mono ?_; rintro e w1 ⟨rfl, hb⟩; obtain ⟨h, r0, r1, r2, r3, r4, r5, r6⟩ := fbx_step HB.out hb; replace HB := Lib.hid h; clear h hb)
               | (go_at_call 47; with_reducible refine (HR.out _).mono ?_; rintro e w1 ⟨rfl, hb⟩; obtain ⟨h, r0, r1, r2, r3, r4, r5, r6⟩ := fbx_step HB.out hb; replace HB := Lib.hid h; clear h hb)
               | (go_at_call 99; refine (HF.out _).mono ?_; rintro e w2 ⟨rfl, rfl⟩)
               | (go_at_call 40; refine (HM.out _).mono ?_; rintro e w2 ⟨rfl, rfl⟩))
              all_goals (go_ret; exact ⟨by rw [HV.out]; rfl, HB.out.fb_b⟩)
            | false =>
              cases loose with
              | true =>
                have HV : Hid (C = 1) := Lib.hid (by rw [HC.out]; simp [*])
                clear HC
                go_enter Tryz.func48, Tryz.ntmps48
                go_wp2_with (first
                 | (go_at_call 47; with_reducible refine (HN.out _).mono ?_; rintro e w1 ⟨rfl, hb⟩; obtain ⟨h, r0, r1, r2, r3, r4, r5, r6⟩ := fbx_step HB.out hb; replace HB := Lib.hid h; clear h hb)
                 | (go_at_call 47; with_reducible refine (HO.out _).mono ?_; rintro e w1 ⟨rfl, hb⟩; obtain ⟨h, r0, r1, r2, r3, r4, r5, r6⟩ := fbx_step HB.out hb; replace HB := Lib.hid h; clear h hb)
                 | (go_at_call 47; with_reducible refine (HR.out _).mono ?_; rintro e w1 ⟨rfl, hb⟩; obtain ⟨h, r0, r1, r2, r3, r4, r5, r6⟩ := fbx_step HB.out hb; replace HB := Lib.hid h; clear h hb)
                 | (go_at_call 99; refine (HF.out _).mono ?_; rintro e w2 ⟨rfl, rfl⟩)
                 | (go_at_call 40; refine (HM.out _).mono ?_; rintro e w2 ⟨rfl, rfl⟩))
                all_goals (go_ret; exact ⟨by rw [HV.out]; rfl, HB.out.fb_b⟩)
              | false =>
                have HV : Hid (C = 0) := Lib.hid (by rw [HC.out]; simp [*])
                clear HC
                go_enter Tryz.func48, Tryz.ntmps48
                go_wp2_with (first
                 | (go_at_call 47; with_reducible refine (HN.out _).mono ?_; rintro e w1 ⟨rfl, hb⟩; obtain ⟨h, r0, r1, r2, r3, r4, r5, r6⟩ := fbx_step HB.out hb; replace HB := Lib.hid h; clear h hb)
                 | (go_at_call 47; with_reducible refine (HO.out _).mono ?_; rintro e w1 ⟨rfl, hb⟩; obtain ⟨h, r0, r1, r2, r3, r4, r5, r6⟩ := fbx_step HB.out hb; replace HB := Lib.hid h; clear h hb)
                 | (go_at_call 47; with_reducible refine (HR.out _).mono ?_; rintro e w1 ⟨rfl, hb⟩; obtain ⟨h, r0, r1, r2, r3, r4, r5, r6⟩ := fbx_step HB.out hb; replace HB := Lib.hid h; clear h hb)
                 | (go_at_call 99; refine (HF.out _).mono ?_; rintro e w2 ⟨rfl, rfl⟩)
                 | (go_at_call 40; refine (HM.out _).mono ?_; rintro e w2 ⟨rfl, rfl⟩))
                all_goals (go_ret; exact ⟨by rw [HV.out]; rfl, HB.out.fb_b⟩)
          | false =>
            have HV : Hid (C = 1) := Lib.hid (by rw [HC.out]; simp [*])
            clear HC
            go_enter Tryz.func48, Tryz.ntmps48
            go_wp2_with (first
             | (go_at_call 47; with_reducible refine (HN.out _).mono ?_; rintro e w1 ⟨rfl, hb⟩; obtain ⟨h, r0, r1, r2, r3, r4, r5, r6⟩ := fbx_step HB.out hb; replace HB := Lib.hid h; clear h hb)
             | (go_at_call 47; with_reducible refine (HO.out _).mono ?_; rintro e w1 ⟨rfl, hb⟩; obtain ⟨h, r0, r1, r2, r3, r4, r5, r6⟩ := fbx_step HB.out hb; replace HB := Lib.hid h; clear h hb)
             | (go_at_call 47; with_reducible refine (HR.out _).mono ?_; rintro e w1 ⟨rfl, hb⟩; obtain ⟨h, r0, r1, r2, r3, r4, r5, r6⟩ := fbx_step HB.out hb; replace HB := Lib.hid h; clear h hb)
             | (go_at_call 99; refine (HF.out _).mono ?_; rintro e w2 ⟨rfl, rfl⟩)
             | (go_at_call 40; refine (HM.out _).mono ?_; rintro e w2 ⟨rfl, rfl⟩))
            all_goals (go_ret; exact ⟨by rw [HV.out]; rfl, HB.out.fb_b⟩)
        | false =>
          have HV : Hid (C = 2) := Lib.hid (by rw [HC.out]; simp [*])
          clear HC
          go_enter Tryz.func48, Tryz.ntmps48
          go_wp2_with (first
           | (go_at_call 47; with_reducible refine (HN.out _).mono ?_; rintro e w1 ⟨rfl, hb⟩; obtain ⟨h, r0, r1, r2, r3, r4, r5, r6⟩ := fbx_step HB.out hb; replace HB := Lib.hid h; clear h hb)
           | (go_at_call 47; with_reducible refine (HO.out _).mono ?_; rintro e w1 ⟨rfl, hb⟩; obtain ⟨h, r0, r1, r2, r3, r4, r5, r6⟩ := fbx_step HB.out hb; replace HB := Lib.hid h; clear h hb)
           | (go_at_call 47; with_reducible refine (HR.out _).mono ?_; rintro e w1 ⟨rfl, hb⟩; obtain ⟨h, r0, r1, r2, r3, r4, r5, r6⟩ := fbx_step HB.out hb; replace HB := Lib.hid h; clear h hb)
           | (go_at_call 99; refine (HF.out _).mono ?_; rintro e w2 ⟨rfl, rfl⟩)
           | (go_at_call 40; refine (HM.out _).mono ?_; rintro e w2 ⟨rfl, rfl⟩))
          all_goals (go_ret; exact ⟨by rw [HV.out]; rfl, HB.out.fb_b⟩)
       ·skip
        by_cases h15x : ty = 15
        ·skip
         subst h15x
         cases rb with
         | true =>
           cases fb with
           | true =>
             cases rep with
             | true =>
               have HV : Hid (C = 1) := Lib.hid (by rw [HC.out]; simp [*])
               clear HC
               go_enter Tryz.func48, Tryz.ntmps48
               go_wp2_with (first
                | (go_at_call 47; with_reducible refine (HN.out _).mono ?_; rintro e w1 ⟨rfl, hb⟩; obtain ⟨h, r0, r1, r2, r3, r4, r5, r6⟩ := fbx_step HB.out hb; replace HB := Lib.hid h; clear h hb)
                | (go_at_call 47; with_reducible refine (HO.out _).mono ?_; rintro e w1 ⟨rfl, hb⟩; obtain ⟨h, r0, r1, r2, r3, r4, r5, r6⟩ := fbx_step HB.out hb; replace HB := Lib.hid h; clear h hb)
                | (go_at_call 47; with_reducible refine (HR.out _).mono ?_; rintro e w1 ⟨rfl, hb⟩; obtain ⟨h, r0, r1, r2, r3, r4, r5, r6⟩ := fbx_step HB.out hb; replace HB := Lib.hid h; clear h hb)
                | (go_at_call 99; refine (HF.out _).mono ?_; rintro e w2 ⟨rfl, rfl⟩)
                | (go_at_call 40; refine (HM.out _).mono ?_; rintro e w2 ⟨rfl, rfl⟩))
               all_goals (go_ret; exact ⟨by rw [HV.out]; rfl, HB.out.fb_b⟩)
             | false =>
               cases loose with
               | true =>
                 have HV : Hid (C = 1) := Lib.hid (by rw [HC.out]; simp [*])
                 clear HC
                 go_enter Tryz.func48, Tryz.ntmps48
                 go_wp2_with (first
                  | (go_at_call 47; with_reducible refine (HN.out _).mono ?_; rintro e w1 ⟨rfl, hb⟩; obtain ⟨h, r0, r1, r2, r3, r4, r5, r6⟩ := fbx_step HB.out hb; replace HB := Lib.hid h; clear h hb)
                  | (go_at_call 47; with_reducible refine (HO.out _).mono ?_; rintro e w1 ⟨rfl, hb⟩; obtain ⟨h, r0, r1, r2, r3, r4, r5, r6⟩ := fbx_step HB.out hb; replace HB := Lib.hid h; clear h hb)
                  | (go_at_call 47; with_reducible refine (HR.out _).mono ?_; rintro e w1 ⟨rfl, hb⟩; obtain ⟨h, r0, r1, r2, r3, r4, r5, r6⟩ := fbx_step HB.out hb; replace HB := Lib.hid h; clear h hb)
                  | (go_at_call 99; refine (HF.out _).mono ?_; rintro e w2 ⟨rfl, rfl⟩)
                  | (go_at_call 40; refine (HM.out _).mono ?_; rintro e w2 ⟨rfl, rfl⟩))
                 all_goals (go_ret; exact ⟨by rw [HV.out]; rfl, HB.out.fb_b⟩)
               | false =>
                 have HV : Hid (C = 0) := Lib.hid (by rw [HC.out]; simp [*])
                 clear HC
                 go_enter Tryz.func48, Tryz.ntmps48
                 go_wp2_with (first
                  | (go_at_call 47; with_reducible refine (HN.out _).mono ?_; rintro e w1 ⟨rfl, hb⟩; obtain ⟨h, r0, r1, r2, r3, r4, r5, r6⟩ := fbx_step HB.out hb; replace HB := Lib.hid h; clear h hb)
                  | (go_at_call 47; with_reducible refine (HO.out _).mono ?_; rintro e w1 ⟨rfl, hb⟩; obtain ⟨h, r0, r1, r2, r3, r4, r5, r6⟩ := fbx_step HB.out hb; replace HB := Lib.hid h; clear h hb)
                  | (go_at_call 47; with_reducible refine (HR.out _).mono ?_; rintro e w1 ⟨rfl, hb⟩; obtain ⟨h, r0, r1, r2, r3, r4, r5, r6⟩ := fbx_step HB.out hb; replace HB := Lib.hid h; clear h hb)
                  | (go_at_call 99; refine (HF.out _).mono ?_; rintro e w2 ⟨rfl, rfl⟩)
                  | (go_at_call 40; refine (HM.out _).mono ?_; rintro e w2 ⟨rfl, rfl⟩))
                 all_goals (go_ret; exact ⟨by rw [HV.out]; rfl, HB.out.fb_b⟩)
           | false =>
             have HV : Hid (C = 1) := Lib.hid (by rw [HC.out]; simp [*])
             clear HC
             go_enter Tryz.func48, Tryz.ntmps48
             go_wp2_with (first
              | (go_at_call 47; with_reducible refine (HN.out _).mono ?_; rintro e w1 ⟨rfl, hb⟩; obtain ⟨h, r0, r1, r2, r3, r4, r5, r6⟩ := fbx_step HB.out hb; replace HB := Lib.hid h; clear h hb)
              | (go_at_call 47; with_reducible refine (HO.out _).mono ?_; rintro e w1 ⟨rfl, hb⟩; obtain ⟨h, r0, r1, r2, r3, r4, r5, r6⟩ := fbx_step HB.out hb; replace HB := Lib.hid h; clear h hb)
              | (go_at_call 47; with_reducible refine (HR.out _).mono ?_; rintro e w1 ⟨rfl, hb⟩; obtain ⟨h, r0, r1, r2, r3, r4, r5, r6⟩ := fbx_step HB.out hb; replace HB := Lib.hid h; clear h hb)
              | (go_at_call 99; refine (HF.out _).mono ?_; rintro e w2 ⟨rfl, rfl⟩)
              | (go_at_call 40; refine (HM.out _).mono ?_; rintro e w2 ⟨rfl, rfl⟩))
             all_goals (go_ret; exact ⟨by rw [HV.out]; rfl, HB.out.fb_b⟩)
         | false =>
           have HV : Hid (C = 2) := Lib.hid (by rw [HC.out]; simp [*])
           clear HC
           go_enter Tryz.func48, Tryz.ntmps48
           go_wp2_with (first
            | (go_at_call 47; with_reducible refine (HN.out _).mono ?_; rintro e w1 ⟨rfl, hb⟩; obtain ⟨h, r0, r1, r2, r3, r4, r5, r6⟩ := fbx_step HB.out hb; replace HB := Lib.hid h; clear h hb)
            | (go_at_call 47; with_reducible refine (HO.out _).mono ?_; rintro e w1 ⟨rfl, hb⟩; obtain ⟨h, r0, r1, r2, r3, r4, r5, r6⟩ := fbx_step HB.out hb; replace HB := Lib.hid h; clear h hb)
            | (go_at_call 47; with_reducible refine (HR.out _).mono ?_; rintro e w1 ⟨rfl, hb⟩; obtain ⟨h, r0, r1, r2, r3, r4, r5, r6⟩ := fbx_step HB.out hb; replace HB := Lib.hid h; clear h hb)
            | (go_at_call 99; refine (HF.out _).mono ?_; rintro e w2 ⟨rfl, rfl⟩)
            | (go_at_call 40; refine (HM.out _).mono ?_; rintro e w2 ⟨rfl, rfl⟩))
           all_goals (go_ret; exact ⟨by rw [HV.out]; rfl, HB.out.fb_b⟩)
        ·skip
         have e14 : (ty == 14) = false := beq_false_of_ne h14
         have e15 : (ty == 15) = false := beq_false_of_ne h15x
         rcases hr3 with ⟨rfl, a3, a2⟩ | ⟨rfl, a3, a2⟩
         ·skip
          cases fb with
          | true =>
            by_cases h1 : ty < 1
            ·skip
             have d1 : decide (ty < 1) = true := decide_eq_true h1
             have HV : Hid (C = 1) := Lib.hid (by rw [HC.out]; simp [*])
             clear HC
             go_enter Tryz.func48, Tryz.ntmps48
             go_wp2_with (first
              | (go_at_call 47; with_reducible refine (HN.out _).mono ?_; rintro e w1 ⟨rfl, hb⟩; obtain ⟨h, r0, r1, r2, r3, r4, r5, r6⟩ := fbx_step HB.out hb; replace HB := Lib.hid h; clear h hb)
              | (go_at_call 47; with_reducible refine (HO.out _).mono ?_; rintro e w1 ⟨rfl, hb⟩; obtain ⟨h, r0, r1, r2, r3, r4, r5, r6⟩ := fbx_step HB.out hb; replace HB := Lib.hid h; clear h hb)
              | (go_at_call 47; with_reducible refine (HR.out _).mono ?_; rintro e w1 ⟨rfl, hb⟩; obtain ⟨h, r0, r1, r2, r3, r4, r5, r6⟩ := fbx_step HB.out hb; replace HB := Lib.hid h; clear h hb)
              | (go_at_call 99; refine (HF.out _).mono ?_; rintro e w2 ⟨rfl, rfl⟩)
              | (go_at_call 40; refine (HM.out _).mono ?_; rintro e w2 ⟨rfl, rfl⟩))
             all_goals (go_ret; exact ⟨by rw [HV.out]; rfl, HB.out.fb_b⟩)
            ·skip
             have d1 : decide (ty < 1) = false := decide_eq_false h1
             by_cases h15 : 15 < ty
             ·skip
              have d15 : decide (ty > 15) = true := decide_eq_true h15
              have HV : Hid (C = 1) := Lib.hid (by rw [HC.out]; simp [*])
              clear HC
              go_enter Tryz.func48, Tryz.ntmps48
              go_wp2_with (first
               | (go_at_call 47; with_reducible refine (HN.out _).mono ?_; rintro e w1 ⟨rfl, hb⟩; obtain ⟨h, r0, r1, r2, r3, r4, r5, r6⟩ := fbx_step HB.out hb; replace HB := Lib.hid h; clear h hb)
               | (go_at_call 47; with_reducible refine (HO.out _).mono ?_; rintro e w1 ⟨rfl, hb⟩; obtain ⟨h, r0, r1, r2, r3, r4, r5, r6⟩ := fbx_step HB.out hb; replace HB := Lib.hid h; clear h hb)
               | (go_at_call 47; with_reducible refine (HR.out _).mono ?_; rintro e w1 ⟨rfl, hb⟩; obtain ⟨h, r0, r1, r2, r3, r4, r5, r6⟩ := fbx_step HB.out hb; replace HB := Lib.hid h; clear h hb)
               | (go_at_call 99; refine (HF.out _).mono ?_; rintro e w2 ⟨rfl, rfl⟩)
               | (go_at_call 40; refine (HM.out _).mono ?_; rintro e w2 ⟨rfl, rfl⟩))
              all_goals (go_ret; exact ⟨by rw [HV.out]; rfl, HB.out.fb_b⟩)
             ·skip
              have d15 : decide (ty > 15) = false := decide_eq_false h15
              cases rep with
              | true =>
                have HV : Hid (C = 1) := Lib.hid (by rw [HC.out]; simp [*])
                clear HC
                go_enter Tryz.func48, Tryz.ntmps48
                go_wp2_with (first
                 | (go_at_call 47; with_reducible refine (HN.out _).mono ?_; rintro e w1 ⟨rfl, hb⟩; obtain ⟨h, r0, r1, r2, r3, r4, r5, r6⟩ := fbx_step HB.out hb; replace HB := Lib.hid h; clear h hb)
                 | (go_at_call 47; with_reducible refine (HO.out _).mono ?_; rintro e w1 ⟨rfl, hb⟩; obtain ⟨h, r0, r1, r2, r3, r4, r5, r6⟩ := fbx_step HB.out hb; replace HB := Lib.hid h; clear h hb)
                 | (go_at_call 47; with_reducible refine (HR.out _).mono ?_; rintro e w1 ⟨rfl, hb⟩; obtain ⟨h, r0, r1, r2, r3, r4, r5, r6⟩ := fbx_step HB.out hb; replace HB := Lib.hid h; clear h hb)
                 | (go_at_call 99; refine (HF.out _).mono ?_; rintro e w2 ⟨rfl, rfl⟩)
                 | (go_at_call 40; refine (HM.out _).mono ?_; rintro e w2 ⟨rfl, rfl⟩))
                all_goals (go_ret; exact ⟨by rw [HV.out]; rfl, HB.out.fb_b⟩)
              | false =>
                cases loose with
                | true =>
                  have HV : Hid (C = 1) := Lib.hid (by rw [HC.out]; simp [*])
                  clear HC
                  go_enter Tryz.func48, Tryz.ntmps48
                  go_wp2_with (first
                   | (go_at_call 47; with_reducible refine (HN.out _).mono ?_; rintro e w1 ⟨rfl, hb⟩; obtain ⟨h, r0, r1, r2, r3, r4, r5, r6⟩ := fbx_step HB.out hb; replace HB := Lib.hid h; clear h hb)
                   | (go_at_call 47; with_reducible refine (HO.out _).mono ?_; rintro e w1 ⟨rfl, hb⟩; obtain ⟨h, r0, r1, r2, r3, r4, r5, r6⟩ := fbx_step HB.out hb; replace HB := Lib.hid h; clear h hb)
                   | (go_at_call 47; with_reducible refine (HR.out _).mono ?_; rintro e w1 ⟨rfl, hb⟩; obtain ⟨h, r0, r1, r2, r3, r4, r5, r6⟩ := fbx_step HB.out hb; replace HB := Lib.hid h; clear h hb)
                   | (go_at_call 99; refine (HF.out _).mono ?_; rintro e w2 ⟨rfl, rfl⟩)
                   | (go_at_call 40; refine (HM.out _).mono ?_; rintro e w2 ⟨rfl, rfl⟩))
                  all_goals (go_ret; exact ⟨by rw [HV.out]; rfl, HB.out.fb_b⟩)
                | false =>
                  have HV : Hid (C = 0) := Lib.hid (by rw [HC.out]; simp [*])
                  clear HC
                  go_enter Tryz.func48, Tryz.ntmps48
                  go_wp2_with (first
                   | (go_at_call 47; with_reducible refine (HN.out _).mono ?_; rintro e w1 ⟨rfl, hb⟩; obtain ⟨h, r0, r1, r2, r3, r4, r5, r6⟩ := fbx_step HB.out hb; replace HB := Lib.hid h; clear h hb)
                   | (go_at_call 47; with_reducible refine (HO.out _).mono ?_; rintro e w1 ⟨rfl, hb⟩; obtain ⟨h, r0, r1, r2, r3, r4, r5, r6⟩ := fbx_step HB.out hb; replace HB := Lib.hid h; clear h hb)
                   | (go_at_call 47; with_reducible refine (HR.out _).mono ?_; rintro e w1 ⟨rfl, hb⟩; obtain ⟨h, r0, r1, r2, r3, r4, r5, r6⟩ := fbx_step HB.out hb; replace HB := Lib.hid h; clear h hb)
                   | (go_at_call 99; refine (HF.out _).mono ?_; rintro e w2 ⟨rfl, rfl⟩)
                   | (go_at_call 40; refine (HM.out _).mono ?_; rintro e w2 ⟨rfl, rfl⟩))
                  all_goals (go_ret; exact ⟨by rw [HV.out]; rfl, HB.out.fb_b⟩)
          | false =>
            have HV : Hid (C = 1) := Lib.hid (by rw [HC.out]; simp [*])
            clear HC
            go_enter Tryz.func48, Tryz.ntmps48
            go_wp2_with (first
             | (go_at_call 47; with_reducible refine (HN.out _).mono ?_; rintro e w1 ⟨rfl, hb⟩; obtain ⟨h, r0, r1, r2, r3, r4, r5, r6⟩ := fbx_step HB.out hb; replace HB := Lib.hid h; clear h hb)
             | (go_at_call 47; with_reducible refine (HO.out _).mono ?_; rintro e w1 ⟨rfl, hb⟩; obtain ⟨h, r0, r1, r2, r3, r4, r5, r6⟩ := fbx_step HB.out hb; replace HB := Lib.hid h; clear h hb)
             | (go_at_call 47; with_reducible refine (HR.out _).mono ?_; rintro e w1 ⟨rfl, hb⟩; obtain ⟨h, r0, r1, r2, r3, r4, r5, r6⟩ := fbx_step HB.out hb; replace HB := Lib.hid h; clear h hb)
             | (go_at_call 99; refine (HF.out _).mono ?_; rintro e w2 ⟨rfl, rfl⟩)
             | (go_at_call 40; refine (HM.out _).mono ?_; rintro e w2 ⟨rfl, rfl⟩))
            all_goals (go_ret; exact ⟨by rw [HV.out]; rfl, HB.out.fb_b⟩)
         ·skip
          have HV : Hid (C = 2) := Lib.hid (by rw [HC.out]; simp [*])
          clear HC
          go_enter Tryz.func48, Tryz.ntmps48
          go_wp2_with (first
           | (go_at_call 47; with_reducible refine (HN.out _).mono ?_; rintro e w1 ⟨rfl, hb⟩; obtain ⟨h, r0, r1, r2, r3, r4, r5, r6⟩ := fbx_step HB.out hb; replace HB := Lib.hid h; clear h hb)
           | (go_at_call 47; with_reducible refine (HO.out _).mono ?_; rintro e w1 ⟨rfl, hb⟩; obtain ⟨h, r0, r1, r2, r3, r4, r5, r6⟩ := fbx_step HB.out hb; replace HB := Lib.hid h; clear h hb)
           | (go_at_call 47; with_reducible refine (HR.out _).mono ?_; rintro e w1 ⟨rfl, hb⟩; obtain ⟨h, r0, r1, r2, r3, r4, r5, r6⟩ := fbx_step HB.out hb; replace HB := Lib.hid h; clear h hb)
           | (go_at_call 99; refine (HF.out _).mono ?_; rintro e w2 ⟨rfl, rfl⟩)
           | (go_at_call 40; refine (HM.out _).mono ?_; rintro e w2 ⟨rfl, rfl⟩))
          all_goals (go_ret; exact ⟨by rw [HV.out]; rfl, HB.out.fb_b⟩)
     | false =>
       have HV : Hid (C = 2) := Lib.hid (by rw [HC.out]; simp [*])
       clear HC
       go_enter Tryz.func48, Tryz.ntmps48
       go_wp2_with (first
        | (go_at_call 47; with_reducible refine (HN.out _).mono ?_; rintro e w1 ⟨rfl, hb⟩; obtain ⟨h, r0, r1, r2, r3, r4, r5, r6⟩ := fbx_step HB.out hb; replace HB := Lib.hid h; clear h hb)
        | (go_at_call 47; with_reducible refine (HO.out _).mono ?_; rintro e w1 ⟨rfl, hb⟩; obtain ⟨h, r0, r1, r2, r3, r4, r5, r6⟩ := fbx_step HB.out hb; replace HB := Lib.hid h; clear h hb)
        | (go_at_call 47; with_reducible refine (HR.out _).mono ?_; rintro e w1 ⟨rfl, hb⟩; obtain ⟨h, r0, r1, r2, r3, r4, r5, r6⟩ := fbx_step HB.out hb; replace HB := Lib.hid h; clear h hb)
        | (go_at_call 99; refine (HF.out _).mono ?_; rintro e w2 ⟨rfl, rfl⟩)
        | (go_at_call 40; refine (HM.out _).mono ?_; rintro e w2 ⟨rfl, rfl⟩))
       all_goals (go_ret; exact ⟨by rw [HV.out]; rfl, HB.out.fb_b⟩)
 | false =>
   have HV : Hid (C = 2) := Lib.hid (by rw [HC.out]; simp [*])
   clear HC
   go_enter Tryz.func48, Tryz.ntmps48
   go_wp2_with (first
    | (go_at_call 47; with_reducible refine (HN.out _).mono ?_; rintro e w1 ⟨rfl, hb⟩; obtain ⟨h, r0, r1, r2, r3, r4, r5, r6⟩ := fbx_step HB.out hb; replace HB := Lib.hid h; clear h hb)
    | (go_at_call 47; with_reducible refine (HO.out _).mono ?_; rintro e w1 ⟨rfl, hb⟩; obtain ⟨h, r0, r1, r2, r3, r4, r5, r6⟩ := fbx_step HB.out hb; replace HB := Lib.hid h; clear h hb)
    | (go_at_call 47; with_reducible refine (HR.out _).mono ?_; rintro e w1 ⟨rfl, hb⟩; obtain ⟨h, r0, r1, r2, r3, r4, r5, r6⟩ := fbx_step HB.out hb; replace HB := Lib.hid h; clear h hb)
    | (go_at_call 99; refine (HF.out _).mono ?_; rintro e w2 ⟨rfl, rfl⟩)
    | (go_at_call 40; refine (HM.out _).mono ?_; rintro e w2 ⟨rfl, rfl⟩))
   all_goals (go_ret; exact ⟨by rw [HV.out]; rfl, HB.out.fb_b⟩)
end Go.Proofs.YtloheacncefkgaaGreatDoor

/- The document's layer 14: Check, Packed, Hidden, Text of a field. Conditions: those that each theorem names. -/
namespace Go.Proofs.YtloheacncefkgaaGreatDoor
open Go.RowKit
set_option linter.unusedVariables false
set_option maxRecDepth 100000

theorem ne_not (t : List UInt8) : decide (t ≠ []) = !decide (t = []) := by by_cases h : t = [] <;> simp [h]
theorem rfcheck_any (f : Fd) (w : World) : Calls Tryz.prog 48 #[fdV f] w fun e w' => e = .returned (.int .i64 (fcheckT f)) ∧ Below w.heap.size w w' :=
 rfcheck_core w (strOf f.name) (strOf f.ref) (strOf f.one) f.num f.ty f.rep f.loose (nameB f.name) (nameB f.one) (nameB f.ref) (decide (f.ref = [])) (decide (f.one = [])) (fieldB f.num) (numberT f.ty) (fcheckT f)
  (fun u => rname_any u f.name) (fun u => rname_any u f.one) (fun u => rname_any u f.ref) (fun u => rtagfield_any f.num u) (fun u => rsnumber_any f.ty u) (empty_facts f.ref) (empty_facts f.one)
  (by unfold fcheckT fc1 fc2 fc3 fc4; rw [ne_not f.one, ne_not f.ref])
theorem rfpacked_any (f : Fd) (w : World) : Calls Tryz.prog 125 #[fdV f] w fun e w' => e = .returned (.bool (packedT f)) ∧ Below w.heap.size w w' := by
 have HO : Hid (packedT f = (f.rep && (numberT f.ty && !f.loose))) := Lib.hid rfl
 have HM := Lib.hid (fun u => rsnumber_any f.ty u)
 have HB : Hid (∀ o, Below w.heap.size w (w.alloc o)) := Lib.hid (fun o => (Below.refl _ w).alloc (Nat.le_refl _) o)
 obtain ⟨name, num, ty, ref, rep, loose, one⟩ := f
 unfold fdV
 dsimp only at HO HM ⊢
 obtain ⟨nb, hnb⟩ : ∃ nb, nb = numberT ty := ⟨_, rfl⟩
 rw [← hnb] at HO HM
 clear hnb
 cases rep <;> cases nb <;> cases loose
 all_goals
  go_enter Tryz.func125, Tryz.ntmps125
  go_wp2_with (go_at_call 40; refine (HM.out _).mono ?_; rintro e w2 ⟨rfl, rfl⟩)
  go_ret
  exact ⟨by rw [HO.out]; rfl, HB.out _⟩
theorem rfhidden_any (f : Fd) (w : World) : Calls Tryz.prog 123 #[fdV f] w fun e w' => e = .returned (.bool (hiddenT f)) ∧ Below w.heap.size w w' := by
 have HO : Hid (hiddenT f = (!f.rep && (decide (f.one = []) && decide (f.ty ≠ 15)))) := Lib.hid rfl
 have HB : Hid (∀ o, Below w.heap.size w (w.alloc o)) := Lib.hid (fun o => (Below.refl _ w).alloc (Nat.le_refl _) o)
 have he := empty_facts f.one
 obtain ⟨name, num, ty, ref, rep, loose, one⟩ := f
 unfold fdV
 dsimp only at HO he ⊢
 obtain ⟨oe, hoe⟩ : ∃ oe, oe = decide (one = []) := ⟨_, rfl⟩
 obtain ⟨so, hso⟩ : ∃ so, so = strOf one := ⟨_, rfl⟩
 rw [← hoe] at HO he
 rw [← hso] at he ⊢
 clear hoe hso
 have ho : (oe = true ∧ so.toList = [] ∧ so.toList.isEmpty = true) ∨ (oe = false ∧ ¬ so.toList = [] ∧ so.toList.isEmpty = false) := by
  cases oe with
  | true => exact .inl ⟨rfl, beq_iff_eq.1 he, by rw [beq_iff_eq.1 he]; rfl⟩
  | false => exact .inr ⟨rfl, (fun e => by rw [e] at he; cases he), (by rw [List.isEmpty_eq_false_iff]; intro e; rw [e] at he; cases he)⟩
 by_cases h15 : ty = 15
 ·subst h15
  rcases ho with ⟨rfl, o3, o2⟩ | ⟨rfl, o3, o2⟩ <;> cases rep
  all_goals
   go_enter Tryz.func123, Tryz.ntmps123
   go_wp2
   go_ret
   exact ⟨by rw [HO.out]; rfl, HB.out _⟩
 ·have e15 : (ty == 15) = false := beq_false_of_ne h15
  have e15b : (ty != 15) = true := bne_iff_ne.2 h15
  rw [decide_eq_true h15] at HO
  rcases ho with ⟨rfl, o3, o2⟩ | ⟨rfl, o3, o2⟩ <;> cases rep
  all_goals
   go_enter Tryz.func123, Tryz.ntmps123
   go_wp2
   go_ret
   exact ⟨by rw [HO.out]; rfl, HB.out _⟩
end Go.Proofs.YtloheacncefkgaaGreatDoor

/- The document's layer 15: names, fields. Conditions: those that each theorem names. -/
namespace Go.Proofs.YtloheacncefkgaaGreatDoor
open Go.RowKit
set_option linter.unusedVariables false
set_option maxRecDepth 100000

set_option maxHeartbeats 4000000 in
theorem rvtext_any {S : Nat → Nat → Prop} (w : World) {A A2 : Option Addr} {n cap n2 cap2 : Nat} {s : Sc} (h : ScAt S w A n cap A2 n2 cap2 s) :
 Calls Tryz.prog 20 #[.agg #[.slice A n cap, .slice A2 n2 cap2]] w fun e w' => e = .returned (.bool (scTextT s)) ∧ Below w.heap.size w w' := by
 obtain ⟨m1, m2, m3, m4⟩ := scAt_max h
 have H := Lib.hid h
 have HBX := Lib.hid (bx_start w #[.slice A n cap, .slice A2 n2 cap2] 25)
 have HV : Hid (scTextT s = ((false || s.enums.any textE) || s.msgs.any textM)) := Lib.hid rfl
 clear h
 have r0 := obj_cell (HBX.out).b_blk 0
 have r1 := obj_cell (HBX.out).b_blk 1
 go_enter Tryz.func20, Tryz.ntmps20
 go_wp2
 clear r0 r1
 go_loopg [3, 4] n (fun gz x0 x1 wr => ∃ i : Nat, x1 = .int .i64 (i : Int) ∧ i + gz = n ∧ x0 = .bool (false || (s.enums.take i).any textE) ∧ Bx w wr (.cells #[.slice A n cap, .slice A2 n2 cap2] 25 (0, 0)))
 case atStart => exact ⟨0, rfl, by omega, by simp, HBX.out⟩
 case round =>
  obtain ⟨i, rfl, hi, rfl, hbx⟩ := hrel
  have HBX := Lib.hid hbx
  clear hbx
  have r0 := obj_cell (HBX.out).b_blk 0
  have r1 := obj_cell (HBX.out).b_blk 1
  obtain ⟨g0, hg0⟩ : ∃ g0, g0 = gk := ⟨_, rfl⟩
  subst hg0
  by_cases hlti : i < n
  ·have ti : decide ((i : Int) < (n : Int)) = true := decide_eq_true (by omega)
   obtain ⟨x, hx⟩ : ∃ x, s.enums[i]? = some x := ⟨_, List.getElem?_eq_getElem (by have := H.out.s_ne; omega)⟩
   have HXI := Lib.hid hx
   obtain ⟨ge, oe, A1, cap1, rfl, _, hc, hl⟩ := en_at H.out.s_e hx
   have q1 := hl.l_le
   have q2 := hl.l_max
   unfold maxLen at q2
   have HL := Lib.hid hl
   obtain ⟨nv, hnv⟩ : ∃ nv, nv = x.values.length := ⟨_, rfl⟩
   have HNV := Lib.hid hnv
   rw [← hnv] at hc q1
   obtain ⟨sn, hsn⟩ : ∃ sn, sn = strOf x.name := ⟨_, rfl⟩
   have HSN := Lib.hid hsn
   rw [← hsn] at hc
   have HC := Lib.hid hc
   clear hx hl hnv hsn hc
   obtain ⟨c0, c1⟩ := HC.out _ HBX.out.b_bel
   have HX := Lib.hid (any_snoc s.enums textE i x HXI.out)
   obtain ⟨r, hr⟩ : ∃ r, r = nameB x.name := ⟨_, rfl⟩
   have HR := Lib.hid (fun u => rname_any u x.name)
   rw [← hr, ← HSN.out] at HR
   have HD : Hid (textE x = (!r || x.values.any textV)) := Lib.hid (by unfold textE badName; rw [hr])
   clear hr
   obtain ⟨b0, hb0⟩ : ∃ b0, b0 = (false || (s.enums.take i).any textE || !r) := ⟨_, rfl⟩
   have HB0 := Lib.hid hb0
   clear hb0
   obtain ⟨b, hb⟩ : ∃ b, b = (false || (s.enums.take i).any textE) := ⟨_, rfl⟩
   have HBB := Lib.hid hb
   rw [← hb]
   clear hb
   cases b with
   | true =>
     go_wp2
     clear c0 c1
     clear r0 r1
     go_loopg [3, 5] nv (fun gz x0 x1 wr => ∃ k : Nat, x1 = .int .i64 (k : Int) ∧ k + gz = nv ∧ x0 = .bool (b0 || (x.values.take k).any textV) ∧ Bx w wr (.cells #[.slice (some ⟨ge, oe, none⟩) n cap, .slice A2 n2 cap2] 25 (0, 0)))
     case atStart => exact ⟨0, rfl, by omega, by rw [HB0.out, ← HBB.out]; simp, HBX.out⟩
     case round =>
      obtain ⟨k, rfl, hk, rfl, hbx⟩ := hrel
      have HBX := Lib.hid hbx
      clear hbx
      have r0 := obj_cell (HBX.out).b_blk 0
      have r1 := obj_cell (HBX.out).b_blk 1
      obtain ⟨g1, hg1⟩ : ∃ g1, g1 = gk := ⟨_, rfl⟩
      subst hg1
      by_cases hltk : k < nv
      ·have tk : decide ((k : Int) < (nv : Int)) = true := decide_eq_true (by omega)
       obtain ⟨v, hv⟩ : ∃ v, x.values[k]? = some v := ⟨_, List.getElem?_eq_getElem (by have := HNV.out; omega)⟩
       have HVI := Lib.hid hv
       obtain ⟨gv, ov, rfl, _, hcv⟩ := vl_at HL.out hv
       obtain ⟨c0, c1⟩ := HC.out _ HBX.out.b_bel
       obtain ⟨d0, d1⟩ := hcv _ HBX.out.b_bel
       obtain ⟨sv, hsv⟩ : ∃ sv, sv = strOf v.name := ⟨_, rfl⟩
       obtain ⟨rv, hrv⟩ : ∃ rv, rv = nameB v.name := ⟨_, rfl⟩
       have HRV := Lib.hid (fun u => rname_any u v.name)
       rw [← hrv, ← hsv] at HRV
       rw [← hsv] at d0
       have HDV : Hid (textV v = !rv) := Lib.hid (by unfold textV badName; rw [hrv])
       have HXV := Lib.hid (any_snoc x.values textV k v HVI.out)
       clear hv hsv hrv hcv
       obtain ⟨b, hb⟩ : ∃ b, b = (b0 || (x.values.take k).any textV) := ⟨_, rfl⟩
       have HBB := Lib.hid hb
       rw [← hb]
       clear hb
       cases b with
       | true =>
         go_wp2
         go_roundg (g1 - 1)
         case measure => omega
         case rel => exact ⟨k + 1, by go_num, by omega, by rw [HXV.out, ← Bool.or_assoc, ← HBB.out]; rfl, HBX.out⟩
       | false =>
         go_wp2_with (first
          | (go_at_call 47; refine (HRV.out _).mono ?_; rintro e w1 ⟨rfl, hb⟩; replace HBX := Lib.hid (bx_step HBX.out hb); clear hb; have r0 := obj_cell HBX.out.b_blk 0; have r1 := obj_cell HBX.out.b_blk 1))
         go_roundg (g1 - 1)
         case measure => omega
         case rel => exact ⟨k + 1, by go_num, by omega, by rw [HXV.out, ← Bool.or_assoc, ← HBB.out, HDV.out]; simp, HBX.out⟩
      ·have tk : decide ((k : Int) < (nv : Int)) = false := decide_eq_false (by omega)
       rw [any_whole x.values textV k (by have := HNV.out; omega)]
       obtain ⟨c0, c1⟩ := HC.out _ HBX.out.b_bel
       go_wp2
       go_roundg (g0 - 1)
       case measure => omega
       case rel => exact ⟨i + 1, by go_num, by omega, by rw [HX.out, HD.out, HB0.out]; simp only [Bool.or_assoc], HBX.out⟩
   | false =>
     go_wp2_with (first
      | (go_at_call 47; refine (HR.out _).mono ?_; rintro e w1 ⟨rfl, hb⟩; replace HBX := Lib.hid (bx_step HBX.out hb); clear hb; have r0 := obj_cell HBX.out.b_blk 0; have r1 := obj_cell HBX.out.b_blk 1))
     clear c0 c1
     clear r0 r1
     go_loopg [3, 5] nv (fun gz x0 x1 wr => ∃ k : Nat, x1 = .int .i64 (k : Int) ∧ k + gz = nv ∧ x0 = .bool (b0 || (x.values.take k).any textV) ∧ Bx w wr (.cells #[.slice (some ⟨ge, oe, none⟩) n cap, .slice A2 n2 cap2] 25 (0, 0)))
     case atStart => exact ⟨0, rfl, by omega, by rw [HB0.out, ← HBB.out]; simp, HBX.out⟩
     case round =>
      obtain ⟨k, rfl, hk, rfl, hbx⟩ := hrel
      have HBX := Lib.hid hbx
      clear hbx
      have r0 := obj_cell (HBX.out).b_blk 0
      have r1 := obj_cell (HBX.out).b_blk 1
      obtain ⟨g1, hg1⟩ : ∃ g1, g1 = gk := ⟨_, rfl⟩
      subst hg1
      by_cases hltk : k < nv
      ·have tk : decide ((k : Int) < (nv : Int)) = true := decide_eq_true (by omega)
       obtain ⟨v, hv⟩ : ∃ v, x.values[k]? = some v := ⟨_, List.getElem?_eq_getElem (by have := HNV.out; omega)⟩
       have HVI := Lib.hid hv
       obtain ⟨gv, ov, rfl, _, hcv⟩ := vl_at HL.out hv
       obtain ⟨c0, c1⟩ := HC.out _ HBX.out.b_bel
       obtain ⟨d0, d1⟩ := hcv _ HBX.out.b_bel
       obtain ⟨sv, hsv⟩ : ∃ sv, sv = strOf v.name := ⟨_, rfl⟩
       obtain ⟨rv, hrv⟩ : ∃ rv, rv = nameB v.name := ⟨_, rfl⟩
       have HRV := Lib.hid (fun u => rname_any u v.name)
       rw [← hrv, ← hsv] at HRV
       rw [← hsv] at d0
       have HDV : Hid (textV v = !rv) := Lib.hid (by unfold textV badName; rw [hrv])
       have HXV := Lib.hid (any_snoc x.values textV k v HVI.out)
       clear hv hsv hrv hcv
       obtain ⟨b, hb⟩ : ∃ b, b = (b0 || (x.values.take k).any textV) := ⟨_, rfl⟩
       have HBB := Lib.hid hb
       rw [← hb]
       clear hb
       cases b with
       | true =>
         go_wp2
         go_roundg (g1 - 1)
         case measure => omega
         case rel => exact ⟨k + 1, by go_num, by omega, by rw [HXV.out, ← Bool.or_assoc, ← HBB.out]; rfl, HBX.out⟩
       | false =>
         go_wp2_with (first
          | (go_at_call 47; refine (HRV.out _).mono ?_; rintro e w1 ⟨rfl, hb⟩; replace HBX := Lib.hid (bx_step HBX.out hb); clear hb; have r0 := obj_cell HBX.out.b_blk 0; have r1 := obj_cell HBX.out.b_blk 1))
         go_roundg (g1 - 1)
         case measure => omega
         case rel => exact ⟨k + 1, by go_num, by omega, by rw [HXV.out, ← Bool.or_assoc, ← HBB.out, HDV.out]; simp, HBX.out⟩
      ·have tk : decide ((k : Int) < (nv : Int)) = false := decide_eq_false (by omega)
       rw [any_whole x.values textV k (by have := HNV.out; omega)]
       obtain ⟨c0, c1⟩ := HC.out _ HBX.out.b_bel
       go_wp2
       go_roundg (g0 - 1)
       case measure => omega
       case rel => exact ⟨i + 1, by go_num, by omega, by rw [HX.out, HD.out, HB0.out]; simp only [Bool.or_assoc], HBX.out⟩
  ·have ti : decide ((i : Int) < (n : Int)) = false := decide_eq_false (by omega)
   rw [any_whole s.enums textE i (by have := H.out.s_ne; omega)]
   obtain ⟨h2, hh2⟩ : ∃ h2, h2 = (false || s.enums.any textE) := ⟨_, rfl⟩
   rw [← hh2] at HV ⊢
   clear hh2
   go_wp2
   clear r0 r1
   go_loopg [3, 6] n2 (fun gz x0 x1 wr => ∃ i : Nat, x1 = .int .i64 (i : Int) ∧ i + gz = n2 ∧ x0 = .bool (h2 || (s.msgs.take i).any textM) ∧ Bx w wr (.cells #[.slice A n cap, .slice A2 n2 cap2] 25 (0, 0)))
   case atStart => exact ⟨0, rfl, by omega, by simp, HBX.out⟩
   case round =>
    obtain ⟨i, rfl, hi, rfl, hbx⟩ := hrel
    have HBX := Lib.hid hbx
    clear hbx
    have r0 := obj_cell (HBX.out).b_blk 0
    have r1 := obj_cell (HBX.out).b_blk 1
    obtain ⟨g0, hg0⟩ : ∃ g0, g0 = gk := ⟨_, rfl⟩
    subst hg0
    by_cases hlti : i < n2
    ·have ti : decide ((i : Int) < (n2 : Int)) = true := decide_eq_true (by omega)
     obtain ⟨x, hx⟩ : ∃ x, s.msgs[i]? = some x := ⟨_, List.getElem?_eq_getElem (by have := H.out.s_nm; omega)⟩
     have HXI := Lib.hid hx
     obtain ⟨ge, oe, A1, cap1, A3, cap3, rfl, _, hc, hl, hl2⟩ := ms_at H.out.s_m hx
     have q1 := hl.l_le
     have q2 := hl.l_max
     have q3 := hl2.l_le
     have q4 := hl2.l_max
     unfold maxLen at q2 q4
     have HL := Lib.hid hl
     have HL2 := Lib.hid hl2
     obtain ⟨nf, hnf⟩ : ∃ nf, nf = x.fields.length := ⟨_, rfl⟩
     obtain ⟨nb, hnb⟩ : ∃ nb, nb = x.barred.length := ⟨_, rfl⟩
     have HNF := Lib.hid hnf
     have HNB := Lib.hid hnb
     rw [← hnf] at hc q1
     rw [← hnb] at hc q3
     obtain ⟨sn, hsn⟩ : ∃ sn, sn = strOf x.name := ⟨_, rfl⟩
     have HSN := Lib.hid hsn
     rw [← hsn] at hc
     have HC := Lib.hid hc
     clear hx hl hl2 hnf hnb hsn hc
     obtain ⟨c0, c1, c2⟩ := HC.out _ HBX.out.b_bel
     have HX := Lib.hid (any_snoc s.msgs textM i x HXI.out)
     obtain ⟨r, hr⟩ : ∃ r, r = nameB x.name := ⟨_, rfl⟩
     have HR := Lib.hid (fun u => rname_any u x.name)
     rw [← hr, ← HSN.out] at HR
     have HD : Hid (textM x = !r) := Lib.hid (by unfold textM badName; rw [hr])
     clear hr
     obtain ⟨b, hb⟩ : ∃ b, b = (h2 || (s.msgs.take i).any textM) := ⟨_, rfl⟩
     have HBB := Lib.hid hb
     rw [← hb]
     clear hb
     cases b with
     | true =>
       go_wp2
       go_roundg (g0 - 1)
       case measure => omega
       case rel => exact ⟨i + 1, by go_num, by omega, by rw [HX.out, ← Bool.or_assoc, ← HBB.out]; rfl, HBX.out⟩
     | false =>
       go_wp2_with (first
        | (go_at_call 47; refine (HR.out _).mono ?_; rintro e w1 ⟨rfl, hb⟩; replace HBX := Lib.hid (bx_step HBX.out hb); clear hb; have r0 := obj_cell HBX.out.b_blk 0; have r1 := obj_cell HBX.out.b_blk 1))
       go_roundg (g0 - 1)
       case measure => omega
       case rel => exact ⟨i + 1, by go_num, by omega, by rw [HX.out, ← Bool.or_assoc, ← HBB.out, HD.out]; simp, HBX.out⟩
    ·have ti : decide ((i : Int) < (n2 : Int)) = false := decide_eq_false (by omega)
     rw [any_whole s.msgs textM i (by have := H.out.s_nm; omega)]
     rw [← HV.out]
     go_wp2
     go_ret
     exact ⟨rfl, HBX.out.b_bel⟩
set_option maxHeartbeats 4000000 in
theorem rvfields_any {S : Nat → Nat → Prop} (w : World) {A A2 : Option Addr} {n cap n2 cap2 : Nat} {s : Sc} (h : ScAt S w A n cap A2 n2 cap2 s) :
 Calls Tryz.prog 21 #[.agg #[.slice A n cap, .slice A2 n2 cap2]] w fun e w' => e = .returned (.int .i64 (fieldsT s)) ∧ Below w.heap.size w w' := by
 obtain ⟨m1, m2, m3, m4⟩ := scAt_max h
 have H := Lib.hid h
 have HBX := Lib.hid (bx_start w #[.slice A n cap, .slice A2 n2 cap2] 25)
 clear h
 have r0 := obj_cell (HBX.out).b_blk 0
 have r1 := obj_cell (HBX.out).b_blk 1
 go_enter Tryz.func21, Tryz.ntmps21
 go_wp2
 clear r0 r1
 go_loopg [3] n2 (fun gz x0 wr => ∃ i : Nat, x0 = .int .i64 (i : Int) ∧ i + gz = n2 ∧ firstBad ((s.msgs.take i).flatMap Ms.fields) = 0 ∧ Bx w wr (.cells #[.slice A n cap, .slice A2 n2 cap2] 25 (0, 0)))
 case atStart => exact ⟨0, rfl, by omega, rfl, HBX.out⟩
 case round =>
  obtain ⟨i, rfl, hi, hfb, hbx⟩ := hrel
  have HBX := Lib.hid hbx
  clear hbx
  have r0 := obj_cell (HBX.out).b_blk 0
  have r1 := obj_cell (HBX.out).b_blk 1
  obtain ⟨g0, hg0⟩ : ∃ g0, g0 = gk := ⟨_, rfl⟩
  subst hg0
  by_cases hlti : i < n2
  ·have ti : decide ((i : Int) < (n2 : Int)) = true := decide_eq_true (by omega)
   obtain ⟨x, hx⟩ : ∃ x, s.msgs[i]? = some x := ⟨_, List.getElem?_eq_getElem (by have := H.out.s_nm; omega)⟩
   have HXI := Lib.hid hx
   obtain ⟨ge, oe, A1, cap1, A3, cap3, rfl, _, hc, hl, hl2⟩ := ms_at H.out.s_m hx
   have q1 := hl.l_le
   have q2 := hl.l_max
   have q3 := hl2.l_le
   have q4 := hl2.l_max
   unfold maxLen at q2 q4
   have HL := Lib.hid hl
   have HL2 := Lib.hid hl2
   obtain ⟨nf, hnf⟩ : ∃ nf, nf = x.fields.length := ⟨_, rfl⟩
   obtain ⟨nb, hnb⟩ : ∃ nb, nb = x.barred.length := ⟨_, rfl⟩
   have HNF := Lib.hid hnf
   have HNB := Lib.hid hnb
   rw [← hnf] at hc q1
   rw [← hnb] at hc q3
   obtain ⟨sn, hsn⟩ : ∃ sn, sn = strOf x.name := ⟨_, rfl⟩
   have HSN := Lib.hid hsn
   rw [← hsn] at hc
   have HC := Lib.hid hc
   clear hx hl hl2 hnf hnb hsn hc
   obtain ⟨c0, c1, c2⟩ := HC.out _ HBX.out.b_bel
   have HFB := Lib.hid hfb
   clear hfb
   go_wp2
   clear c0 c1 c2
   clear r0 r1
   go_loopg [4] nf (fun gz x0 wr => ∃ k : Nat, x0 = .int .i64 (k : Int) ∧ k + gz = nf ∧ firstBad ((s.msgs.take i).flatMap Ms.fields ++ x.fields.take k) = 0 ∧ Bx w wr (.cells #[.slice A n cap, .slice (some ⟨ge, oe, none⟩) n2 cap2] 25 (0, 0)))
   case atStart => exact ⟨0, rfl, by omega, by rw [List.take_zero, List.append_nil]; exact HFB.out, HBX.out⟩
   case round =>
    obtain ⟨k, rfl, hk, hfk, hbx⟩ := hrel
    have HBX := Lib.hid hbx
    clear hbx
    have r0 := obj_cell (HBX.out).b_blk 0
    have r1 := obj_cell (HBX.out).b_blk 1
    obtain ⟨g1, hg1⟩ : ∃ g1, g1 = gk := ⟨_, rfl⟩
    subst hg1
    by_cases hltk : k < nf
    ·have tk : decide ((k : Int) < (nf : Int)) = true := decide_eq_true (by omega)
     obtain ⟨f, hf⟩ : ∃ f, x.fields[k]? = some f := ⟨_, List.getElem?_eq_getElem (by have := HNF.out; omega)⟩
     have HFI := Lib.hid hf
     obtain ⟨gf, of, rfl, _, hcf⟩ := fd_at HL.out hf
     have HCF := Lib.hid hcf
     clear hf hcf
     have HFK := Lib.hid hfk
     clear hfk
     obtain ⟨c0, c1, c2⟩ := HC.out _ HBX.out.b_bel
     obtain ⟨d0, d1, d2, d3, d4, d5, d6⟩ := HCF.out _ HBX.out.b_bel
     have HK := Lib.hid (fun u => rfcheck_any f u)
     have HSP := Lib.hid (fields_split HXI.out HFI.out)
     have HTK := Lib.hid (split_take HFI.out)
     obtain ⟨C, hC⟩ : ∃ C, C = fcheckT f := ⟨_, rfl⟩
     have HCC := Lib.hid hC
     rw [← hC] at HK
     clear hC
     obtain ⟨name, num, ty, ref, rep, loose, one⟩ := f
     unfold fdV at HK
     dsimp only at HK d0 d1 d2 d3 d4 d5 d6
     obtain ⟨sn1, hsn1⟩ : ∃ z, z = strOf name := ⟨_, rfl⟩
     obtain ⟨sr1, hsr1⟩ : ∃ z, z = strOf ref := ⟨_, rfl⟩
     obtain ⟨so1, hso1⟩ : ∃ z, z = strOf one := ⟨_, rfl⟩
     rw [← hsn1, ← hsr1, ← hso1] at HK
     rw [← hsn1] at d0
     rw [← hsr1] at d3
     rw [← hso1] at d6
     clear hsn1 hsr1 hso1
     by_cases h0 : C = 0
     ·subst h0
      go_wp2_with (first
       | (go_at_call 48; refine (HK.out _).mono ?_; rintro e w1 ⟨rfl, hb⟩; replace HBX := Lib.hid (bx_step HBX.out hb); clear hb; have r0 := obj_cell HBX.out.b_blk 0; have r1 := obj_cell HBX.out.b_blk 1))
      go_roundg (g1 - 1)
      case measure => omega
      case rel => exact ⟨k + 1, by go_num, by omega, by rw [HTK.out, ← List.append_assoc]; exact firstBad_miss _ _ HFK.out HCC.out.symm, HBX.out⟩
     ·have e1 : (C == 0) = false := beq_false_of_ne h0
      have e2 : (C != 0) = true := by simp [h0]
      go_wp2_with (first
       | (go_at_call 48; refine (HK.out _).mono ?_; rintro e w1 ⟨rfl, hb⟩; replace HBX := Lib.hid (bx_step HBX.out hb); clear hb; have r0 := obj_cell HBX.out.b_blk 0; have r1 := obj_cell HBX.out.b_blk 1))
      go_ret
      exact ⟨ret_int' (by unfold fieldsT; rw [HSP.out, firstBad_hit _ _ _ HFK.out (by rw [← HCC.out]; exact h0), HCC.out]), HBX.out.b_bel⟩
    ·have tk : decide ((k : Int) < (nf : Int)) = false := decide_eq_false (by omega)
     obtain ⟨c0, c1, c2⟩ := HC.out _ HBX.out.b_bel
     have HFK := Lib.hid hfk
     clear hfk
     have HTW : Hid (x.fields.take k = x.fields) := Lib.hid (List.take_of_length_le (by have := HNF.out; omega))
     go_wp2
     go_roundg (g0 - 1)
     case measure => omega
     case rel => exact ⟨i + 1, by go_num, by omega, by rw [flat_snoc _ _ _ _ HXI.out, ← HTW.out]; exact HFK.out, HBX.out⟩
  ·have ti : decide ((i : Int) < (n2 : Int)) = false := decide_eq_false (by omega)
   have HFB : Hid (fieldsT s = 0) := Lib.hid (by unfold fieldsT fieldsOf; rw [show s.msgs.take i = s.msgs from List.take_of_length_le (by have := H.out.s_nm; omega)] at hfb; exact hfb)
   clear hfb
   go_wp2
   go_ret
   exact ⟨ret_int' HFB.out.symm, HBX.out.b_bel⟩
end Go.Proofs.YtloheacncefkgaaGreatDoor

/- The document's layer 15: barred numbers, names that fields refer to. Conditions: those that each theorem names. -/
namespace Go.Proofs.YtloheacncefkgaaGreatDoor
open Go.RowKit
set_option linter.unusedVariables false
set_option maxRecDepth 100000

set_option maxHeartbeats 4000000 in
theorem rvbarred_any {S : Nat → Nat → Prop} (w : World) {A A2 : Option Addr} {n cap n2 cap2 : Nat} {s : Sc} (h : ScAt S w A n cap A2 n2 cap2 s) :
 Calls Tryz.prog 24 #[.agg #[.slice A n cap, .slice A2 n2 cap2]] w fun e w' => e = .returned (.bool (barredT s)) ∧ Below w.heap.size w w' := by
 obtain ⟨m1, m2, m3, m4⟩ := scAt_max h
 have H := Lib.hid h
 have HBX := Lib.hid (bx_start w #[.slice A n cap, .slice A2 n2 cap2] 25)
 clear h
 have r0 := obj_cell (HBX.out).b_blk 0
 have r1 := obj_cell (HBX.out).b_blk 1
 go_enter Tryz.func24, Tryz.ntmps24
 go_wp2
 clear r0 r1
 go_loopg [3] n2 (fun gz x0 wr => ∃ i : Nat, x0 = .int .i64 (i : Int) ∧ i + gz = n2 ∧ (s.msgs.take i).any barredM = false ∧ Bx w wr (.cells #[.slice A n cap, .slice A2 n2 cap2] 25 (0, 0)))
 case atStart => exact ⟨0, rfl, by omega, rfl, HBX.out⟩
 case round =>
  obtain ⟨i, rfl, hi, hfb, hbx⟩ := hrel
  have HBX := Lib.hid hbx
  clear hbx
  have r0 := obj_cell (HBX.out).b_blk 0
  have r1 := obj_cell (HBX.out).b_blk 1
  obtain ⟨g0, hg0⟩ : ∃ g0, g0 = gk := ⟨_, rfl⟩
  subst hg0
  by_cases hlti : i < n2
  ·have ti : decide ((i : Int) < (n2 : Int)) = true := decide_eq_true (by omega)
   obtain ⟨x, hx⟩ : ∃ x, s.msgs[i]? = some x := ⟨_, List.getElem?_eq_getElem (by have := H.out.s_nm; omega)⟩
   have HXI := Lib.hid hx
   obtain ⟨ge, oe, A1, cap1, A3, cap3, rfl, _, hc, hl, hl2⟩ := ms_at H.out.s_m hx
   have q1 := hl.l_le
   have q2 := hl.l_max
   have q3 := hl2.l_le
   have q4 := hl2.l_max
   unfold maxLen at q2 q4
   have HL := Lib.hid hl
   have HL2 := Lib.hid hl2
   obtain ⟨nf, hnf⟩ : ∃ nf, nf = x.fields.length := ⟨_, rfl⟩
   obtain ⟨nb, hnb⟩ : ∃ nb, nb = x.barred.length := ⟨_, rfl⟩
   have HNF := Lib.hid hnf
   have HNB := Lib.hid hnb
   rw [← hnf] at hc q1
   rw [← hnb] at hc q3
   obtain ⟨sn, hsn⟩ : ∃ sn, sn = strOf x.name := ⟨_, rfl⟩
   have HSN := Lib.hid hsn
   rw [← hsn] at hc
   have HC := Lib.hid hc
   clear hx hl hl2 hnf hnb hsn hc
   obtain ⟨c0, c1, c2⟩ := HC.out _ HBX.out.b_bel
   have HFB := Lib.hid hfb
   clear hfb
   go_wp2
   clear c0 c1 c2
   clear r0 r1
   go_loopg [4] nf (fun gz x0 wr => ∃ k : Nat, x0 = .int .i64 (k : Int) ∧ k + gz = nf ∧ (x.fields.take k).any (fun f => isInB x.barred f.num) = false ∧ Bx w wr (.cells #[.slice A n cap, .slice (some ⟨ge, oe, none⟩) n2 cap2] 25 (0, 0)))
   case atStart => exact ⟨0, rfl, by omega, rfl, HBX.out⟩
   case round =>
    obtain ⟨k, rfl, hk, hfk, hbx⟩ := hrel
    have HBX := Lib.hid hbx
    clear hbx
    have r0 := obj_cell (HBX.out).b_blk 0
    have r1 := obj_cell (HBX.out).b_blk 1
    obtain ⟨g1, hg1⟩ : ∃ g1, g1 = gk := ⟨_, rfl⟩
    subst hg1
    by_cases hltk : k < nf
    ·have tk : decide ((k : Int) < (nf : Int)) = true := decide_eq_true (by omega)
     obtain ⟨f, hf⟩ : ∃ f, x.fields[k]? = some f := ⟨_, List.getElem?_eq_getElem (by have := HNF.out; omega)⟩
     have HFI := Lib.hid hf
     obtain ⟨gf, of, rfl, _, hcf⟩ := fd_at HL.out hf
     have HCF := Lib.hid hcf
     clear hf hcf
     have HFK := Lib.hid hfk
     clear hfk
     obtain ⟨c0, c1, c2⟩ := HC.out _ HBX.out.b_bel
     obtain ⟨d0, d1, d2, d3, d4, d5, d6⟩ := HCF.out _ HBX.out.b_bel
     have HH : Hid (∀ u, Below w.heap.size w u → Calls Tryz.prog 53 #[.slice A3 nb cap3, .int .i64 f.num] u fun e w' => e = .returned (.bool (isInB x.barred f.num)) ∧ w' = u) := Lib.hid (fun u hb => (rvhas_any u (lst_keep HL2.out inR_keep (fun _ h => h) (bel_keep hb)) HNB.out f.num).mono fun _ _ h => ⟨h.1, h.2.symm⟩)
     have HXF := Lib.hid (any_snoc x.fields (fun f => isInB x.barred f.num) k f HFI.out)
     have HO := Lib.hid (fun hp : isInB x.barred f.num = true => (any_off HXI.out (p := barredM) (any_off HFI.out (p := fun (f : Fd) => isInB x.barred f.num) hp) : barredT s = true))
     obtain ⟨r, hr⟩ : ∃ r, r = isInB x.barred f.num := ⟨_, rfl⟩
     have HR := Lib.hid hr
     rw [← hr] at HH HO
     clear hr
     cases r with
     | true =>
       have HOT : Hid (barredT s = true) := Lib.hid (HO.out rfl)
       go_wp2
       go_quiet (first | (go_at_call 53; refine Calls.quiet_of_same (HH.out _ (HBX.out.b_bel.trans ((drewN_under wr _).mono HBX.out.b_bel.size)))))
       go_wp2
       go_ret
       exact ⟨ret_bool' HOT.out.symm, (bx_drew HBX.out _).b_bel⟩
     | false =>
       go_wp2
       go_quiet (first | (go_at_call 53; refine Calls.quiet_of_same (HH.out _ (HBX.out.b_bel.trans ((drewN_under wr _).mono HBX.out.b_bel.size)))))
       go_wp2
       go_roundg (g1 - 1)
       case measure => omega
       case rel => exact ⟨k + 1, by go_num, by omega, by rw [HXF.out, HFK.out, ← HR.out]; rfl, bx_drew HBX.out _⟩
    ·have tk : decide ((k : Int) < (nf : Int)) = false := decide_eq_false (by omega)
     obtain ⟨c0, c1, c2⟩ := HC.out _ HBX.out.b_bel
     rw [any_whole x.fields _ k (by have := HNF.out; omega)] at hfk
     have HFK := Lib.hid hfk
     clear hfk
     go_wp2
     go_roundg (g0 - 1)
     case measure => omega
     case rel => exact ⟨i + 1, by go_num, by omega, by rw [any_snoc s.msgs barredM i x HXI.out, HFB.out]; exact HFK.out, HBX.out⟩
  ·have ti : decide ((i : Int) < (n2 : Int)) = false := decide_eq_false (by omega)
   rw [any_whole s.msgs _ i (by have := H.out.s_nm; omega)] at hfb
   have HFB : Hid (barredT s = false) := Lib.hid hfb
   clear hfb
   go_wp2
   go_ret
   exact ⟨ret_bool' HFB.out.symm, HBX.out.b_bel⟩
set_option maxHeartbeats 8000000 in
theorem rvrefs_any {S : Nat → Nat → Prop} (w : World) {A A2 : Option Addr} {n cap n2 cap2 : Nat} {s : Sc} (h : ScAt S w A n cap A2 n2 cap2 s) :
 Calls Tryz.prog 25 #[.agg #[.slice A n cap, .slice A2 n2 cap2]] w fun e w' => e = .returned (.bool (refsT s)) ∧ Below w.heap.size w w' := by
 obtain ⟨m1, m2, m3, m4⟩ := scAt_max h
 have H := Lib.hid h
 have HBX := Lib.hid (bx_start w #[.slice A n cap, .slice A2 n2 cap2] 25)
 clear h
 have r0 := obj_cell (HBX.out).b_blk 0
 have r1 := obj_cell (HBX.out).b_blk 1
 go_enter Tryz.func25, Tryz.ntmps25
 go_wp2
 clear r0 r1
 go_loopg [3] n2 (fun gz x0 wr => ∃ i : Nat, x0 = .int .i64 (i : Int) ∧ i + gz = n2 ∧ (s.msgs.take i).any (refsM s) = false ∧ Bx w wr (.cells #[.slice A n cap, .slice A2 n2 cap2] 25 (0, 0)))
 case atStart => exact ⟨0, rfl, by omega, rfl, HBX.out⟩
 case round =>
  obtain ⟨i, rfl, hi, hfb, hbx⟩ := hrel
  have HBX := Lib.hid hbx
  clear hbx
  have r0 := obj_cell (HBX.out).b_blk 0
  have r1 := obj_cell (HBX.out).b_blk 1
  obtain ⟨g0, hg0⟩ : ∃ g0, g0 = gk := ⟨_, rfl⟩
  subst hg0
  by_cases hlti : i < n2
  ·have ti : decide ((i : Int) < (n2 : Int)) = true := decide_eq_true (by omega)
   obtain ⟨x, hx⟩ : ∃ x, s.msgs[i]? = some x := ⟨_, List.getElem?_eq_getElem (by have := H.out.s_nm; omega)⟩
   have HXI := Lib.hid hx
   obtain ⟨ge, oe, A1, cap1, A3, cap3, rfl, _, hc, hl, hl2⟩ := ms_at H.out.s_m hx
   have q1 := hl.l_le
   have q2 := hl.l_max
   have q3 := hl2.l_le
   have q4 := hl2.l_max
   unfold maxLen at q2 q4
   have HL := Lib.hid hl
   have HL2 := Lib.hid hl2
   obtain ⟨nf, hnf⟩ : ∃ nf, nf = x.fields.length := ⟨_, rfl⟩
   obtain ⟨nb, hnb⟩ : ∃ nb, nb = x.barred.length := ⟨_, rfl⟩
   have HNF := Lib.hid hnf
   have HNB := Lib.hid hnb
   rw [← hnf] at hc q1
   rw [← hnb] at hc q3
   obtain ⟨sn, hsn⟩ : ∃ sn, sn = strOf x.name := ⟨_, rfl⟩
   have HSN := Lib.hid hsn
   rw [← hsn] at hc
   have HC := Lib.hid hc
   clear hx hl hl2 hnf hnb hsn hc
   obtain ⟨c0, c1, c2⟩ := HC.out _ HBX.out.b_bel
   have HFB := Lib.hid hfb
   clear hfb
   go_wp2
   clear c0 c1 c2
   clear r0 r1
   go_loopg [4] nf (fun gz x0 wr => ∃ k : Nat, x0 = .int .i64 (k : Int) ∧ k + gz = nf ∧ (x.fields.take k).any (refF s) = false ∧ Bx w wr (.cells #[.slice A n cap, .slice (some ⟨ge, oe, none⟩) n2 cap2] 25 (0, 0)))
   case atStart => exact ⟨0, rfl, by omega, rfl, HBX.out⟩
   case round =>
    obtain ⟨k, rfl, hk, hfk, hbx⟩ := hrel
    have HBX := Lib.hid hbx
    clear hbx
    have r0 := obj_cell (HBX.out).b_blk 0
    have r1 := obj_cell (HBX.out).b_blk 1
    obtain ⟨g1, hg1⟩ : ∃ g1, g1 = gk := ⟨_, rfl⟩
    subst hg1
    by_cases hltk : k < nf
    ·have tk : decide ((k : Int) < (nf : Int)) = true := decide_eq_true (by omega)
     obtain ⟨f, hf⟩ : ∃ f, x.fields[k]? = some f := ⟨_, List.getElem?_eq_getElem (by have := HNF.out; omega)⟩
     have HFI := Lib.hid hf
     obtain ⟨gf, of, rfl, _, hcf⟩ := fd_at HL.out hf
     have HCF := Lib.hid hcf
     clear hf hcf
     have HFK := Lib.hid hfk
     clear hfk
     obtain ⟨c0, c1, c2⟩ := HC.out _ HBX.out.b_bel
     obtain ⟨d0, d1, d2, d3, d4, d5, d6⟩ := HCF.out _ HBX.out.b_bel
     have HXF := Lib.hid (any_snoc x.fields (refF s) k f HFI.out)
     have HO := Lib.hid (fun hp : refF s f = true => (any_off HXI.out (p := refsM s) (any_off HFI.out (p := refF s) hp) : refsT s = true))
     obtain ⟨p, hp⟩ : ∃ p, p = refF s f := ⟨_, rfl⟩
     rw [← hp] at HXF HO
     have HE : Hid (∀ u, Below w.heap.size w u → Calls Tryz.prog 54 #[.agg #[.slice A n cap, .slice (some ⟨ge, oe, none⟩) n2 cap2], .string (strOf f.ref)] u fun e w' => e = .returned (.int .i64 (enumT s f.ref)) ∧ Below u.heap.size u w') := Lib.hid (fun u hb => rvenum_any u (scAt_bel H.out hb) f.ref)
     have HM : Hid (∀ u, Below w.heap.size w u → Calls Tryz.prog 34 #[.agg #[.slice A n cap, .slice (some ⟨ge, oe, none⟩) n2 cap2], .string (strOf f.ref)] u fun e w' => e = .returned (.int .i64 (messageT s f.ref)) ∧ Below u.heap.size u w') := Lib.hid (fun u hb => rvmessage_any u (scAt_bel H.out hb) f.ref)
     unfold refF at hp
     obtain ⟨ei, hei⟩ : ∃ z, z = enumT s f.ref := ⟨_, rfl⟩
     obtain ⟨mi, hmi⟩ : ∃ z, z = messageT s f.ref := ⟨_, rfl⟩
     rw [← hei] at HE hp
     rw [← hmi] at HM hp
     clear hei hmi
     obtain ⟨name, num, ty, ref, rep, loose, one⟩ := f
     dsimp only at HE HM hp d0 d1 d2 d3 d4 d5 d6
     obtain ⟨sn1, hsn1⟩ : ∃ z, z = strOf name := ⟨_, rfl⟩
     obtain ⟨sr1, hsr1⟩ : ∃ z, z = strOf ref := ⟨_, rfl⟩
     obtain ⟨so1, hso1⟩ : ∃ z, z = strOf one := ⟨_, rfl⟩
     rw [← hsr1] at HE HM
     rw [← hsn1] at d0
     rw [← hsr1] at d3
     rw [← hso1] at d6
     clear hsn1 hsr1 hso1
     have HBA : Hid (Bx w (wr.alloc (.cells #[.string sn1, .int .i64 num, .int .i64 ty, .string sr1, .bool rep, .bool loose, .string so1] 44)) (.cells #[.slice A n cap, .slice (some ⟨ge, oe, none⟩) n2 cap2] 25 (0, 0))) := Lib.hid (bx_step HBX.out ((Below.refl _ wr).alloc (Nat.le_refl _) _))
     have a0 := obj_cell HBA.out.b_blk 0
     have a1 := obj_cell HBA.out.b_blk 1
     have HFX : Hid ((wr.alloc (.cells #[.string sn1, .int .i64 num, .int .i64 ty, .string sr1, .bool rep, .bool loose, .string so1] 44)).heap[wr.heap.size]? = some (.cells #[.string sn1, .int .i64 num, .int .i64 ty, .string sr1, .bool rep, .bool loose, .string so1] 44 (0, 0))) := Lib.hid (heap_alloc_new wr _)
     have f2 := obj_cell HFX.out 2
     have f3 := obj_cell HFX.out 3
     by_cases h14 : ty = 14
     ·subst h14
      by_cases hn : ei < 0
      ·skip
       have dn : decide (ei < 0) = true := decide_eq_true hn
       replace hp : p = true := by rw [hp]; simp [*]
       go_wp2_with (first
        | (go_at_call 54; refine (HE.out _ HBA.out.b_bel).mono ?_; rintro e w1 ⟨rfl, hb⟩; replace HBA := Lib.hid (bx_step HBA.out hb); have hx := (hb.block _ (lt_of_block HFX.out)).trans HFX.out; have f2 := obj_cell hx 2; have f3 := obj_cell hx 3; clear hb hx))
       go_ret
       exact ⟨ret_bool' (HO.out hp).symm, HBA.out.b_bel⟩
      ·skip
       have dn : decide (ei < 0) = false := decide_eq_false hn
       replace hp : p = false := by rw [hp]; simp [*]
       go_wp2_with (first
        | (go_at_call 54; refine (HE.out _ HBA.out.b_bel).mono ?_; rintro e w1 ⟨rfl, hb⟩; replace HBA := Lib.hid (bx_step HBA.out hb); have hx := (hb.block _ (lt_of_block HFX.out)).trans HFX.out; have f2 := obj_cell hx 2; have f3 := obj_cell hx 3; clear hb hx))
       go_roundg (g1 - 1)
       case measure => omega
       case rel => exact ⟨k + 1, by go_num, by omega, by rw [HXF.out, HFK.out, hp]; rfl, HBA.out⟩
     ·have e14 : (ty == 14) = false := beq_false_of_ne h14
      by_cases h15 : ty = 15
      ·subst h15
       by_cases hn : mi < 0
       ·skip
        have dn : decide (mi < 0) = true := decide_eq_true hn
        replace hp : p = true := by rw [hp]; simp [*]
        go_wp2_with (first
         | (go_at_call 34; refine (HM.out _ HBA.out.b_bel).mono ?_; rintro e w1 ⟨rfl, hb⟩; replace HBA := Lib.hid (bx_step HBA.out hb); have hx := (hb.block _ (lt_of_block HFX.out)).trans HFX.out; have f2 := obj_cell hx 2; have f3 := obj_cell hx 3; clear hb hx))
        go_ret
        exact ⟨ret_bool' (HO.out hp).symm, HBA.out.b_bel⟩
       ·skip
        have dn : decide (mi < 0) = false := decide_eq_false hn
        replace hp : p = false := by rw [hp]; simp [*]
        go_wp2_with (first
         | (go_at_call 34; refine (HM.out _ HBA.out.b_bel).mono ?_; rintro e w1 ⟨rfl, hb⟩; replace HBA := Lib.hid (bx_step HBA.out hb); have hx := (hb.block _ (lt_of_block HFX.out)).trans HFX.out; have f2 := obj_cell hx 2; have f3 := obj_cell hx 3; clear hb hx))
        go_roundg (g1 - 1)
        case measure => omega
        case rel => exact ⟨k + 1, by go_num, by omega, by rw [HXF.out, HFK.out, hp]; rfl, HBA.out⟩
      ·have e15 : (ty == 15) = false := beq_false_of_ne h15
       replace hp : p = false := by rw [hp]; simp [*]
       go_wp2
       go_roundg (g1 - 1)
       case measure => omega
       case rel => exact ⟨k + 1, by go_num, by omega, by rw [HXF.out, HFK.out, hp]; rfl, HBA.out⟩
    ·have tk : decide ((k : Int) < (nf : Int)) = false := decide_eq_false (by omega)
     obtain ⟨c0, c1, c2⟩ := HC.out _ HBX.out.b_bel
     rw [any_whole x.fields _ k (by have := HNF.out; omega)] at hfk
     have HFK := Lib.hid hfk
     clear hfk
     go_wp2
     go_roundg (g0 - 1)
     case measure => omega
     case rel => exact ⟨i + 1, by go_num, by omega, by rw [any_snoc s.msgs (refsM s) i x HXI.out, HFB.out]; exact HFK.out, HBX.out⟩
  ·have ti : decide ((i : Int) < (n2 : Int)) = false := decide_eq_false (by omega)
   rw [any_whole s.msgs _ i (by have := H.out.s_nm; omega)] at hfb
   have HFB : Hid (refsT s = false) := Lib.hid hfb
   clear hfb
   go_wp2
   go_ret
   exact ⟨ret_bool' HFB.out.symm, HBX.out.b_bel⟩
end Go.Proofs.YtloheacncefkgaaGreatDoor

/- The document's layer 15: which are not too great. Conditions: those that each theorem names. -/
namespace Go.Proofs.YtloheacncefkgaaGreatDoor
open Go.RowKit
set_option linter.unusedVariables false
set_option maxRecDepth 100000

set_option maxHeartbeats 8000000 in
theorem rvsmall_any {S : Nat → Nat → Prop} (w : World) {A A2 : Option Addr} {n cap n2 cap2 : Nat} {s : Sc} (h : ScAt S w A n cap A2 n2 cap2 s) (hok : ScOk s) :
 Calls Tryz.prog 7 #[.agg #[.slice A n cap, .slice A2 n2 cap2]] w fun e w' => e = .returned (.bool (smallT s)) ∧ Below w.heap.size w w' := by
 obtain ⟨m1, m2, m3, m4⟩ := scAt_max h
 have H := Lib.hid h
 have HBX := Lib.hid (bx_start w #[.slice A n cap, .slice A2 n2 cap2] 25)
 have HOK := Lib.hid hok
 have HLN : Hid (n ≤ lenM ∧ n2 ≤ lenM) := Lib.hid (by have := hok.1; have := hok.2.1; have := h.s_ne; have := h.s_nm; omega)
 have HWG : Hid (weigh s = ((n + n2) + (s.enums.map weighE).sum) + (s.msgs.map weighM).sum) := Lib.hid (by unfold weigh; rw [h.s_ne, h.s_nm])
 have gw0 : IntKind.i64.wrap ((n : Int) + (n2 : Int)) = (n : Int) + (n2 : Int) := IntWalk.i64_in _ (by have := HLN.out; unfold lenM at this; omega)
 clear h hok
 have r0 := obj_cell (HBX.out).b_blk 0
 have r1 := obj_cell (HBX.out).b_blk 1
 go_enter Tryz.func7, Tryz.ntmps7
 go_wp2
 clear r0 r1
 go_loopg [3, 4] n (fun gz x0 x1 wr => ∃ i : Nat, x1 = .int .i64 (i : Int) ∧ i + gz = n ∧ ∃ N : Nat, x0 = .int .i64 (N : Int) ∧ N = (n + n2) + ((s.enums.take i).map weighE).sum ∧ Bx w wr (.cells #[.slice A n cap, .slice A2 n2 cap2] 25 (0, 0)))
 case atStart => exact ⟨0, rfl, by omega, n + n2, (by rw [Int.natCast_add]), (by simp), HBX.out⟩
 case round =>
  obtain ⟨i, rfl, hi, N, rfl, hns, hbx⟩ := hrel
  have HBX := Lib.hid hbx
  clear hbx
  have r0 := obj_cell (HBX.out).b_blk 0
  have r1 := obj_cell (HBX.out).b_blk 1
  obtain ⟨g0, hg0⟩ : ∃ g0, g0 = gk := ⟨_, rfl⟩
  subst hg0
  by_cases hlti : i < n
  ·have ti : decide ((i : Int) < (n : Int)) = true := decide_eq_true (by omega)
   have HNS := Lib.hid hns
   clear hns
   by_cases h200 : N < 200
   ·have t2 : decide ((N : Int) < 200) = true := decide_eq_true (by omega)
    have t3 : (N : Int) < 200 := by omega
    obtain ⟨x, hx⟩ : ∃ x, s.enums[i]? = some x := ⟨_, List.getElem?_eq_getElem (by have := H.out.s_ne; omega)⟩
    have HXI := Lib.hid hx
    obtain ⟨ge, oe, A1, cap1, rfl, _, hc, hl⟩ := en_at H.out.s_e hx
    have q1 := hl.l_le
    have q2 := hl.l_max
    unfold maxLen at q2
    have HL := Lib.hid hl
    obtain ⟨nv, hnv⟩ : ∃ nv, nv = x.values.length := ⟨_, rfl⟩
    have HNV := Lib.hid hnv
    rw [← hnv] at hc q1
    obtain ⟨sn, hsn⟩ : ∃ sn, sn = strOf x.name := ⟨_, rfl⟩
    have HSN := Lib.hid hsn
    rw [← hsn] at hc
    have HC := Lib.hid hc
    clear hx hl hnv hsn hc
    obtain ⟨c0, c1⟩ := HC.out _ HBX.out.b_bel
    have hxo := HOK.out.2.2.1 x (List.mem_of_getElem? HXI.out)
    obtain ⟨z, hz⟩ : ∃ z, z = sn.size := ⟨_, rfl⟩
    obtain ⟨q, hq⟩ : ∃ q, q = z / 10 := ⟨_, rfl⟩
    have hzl : z = x.name.length := by rw [hz, HSN.out, str_size]
    have HLX : Hid (nv ≤ lenM ∧ q ≤ lenM) := Lib.hid ⟨by rw [HNV.out]; exact hxo.2.1, by rw [hq, hzl]; have := hxo.1; omega⟩
    have HWX : Hid (weighE x = nv + q) := Lib.hid (by unfold weighE; rw [HNV.out, hq, hzl])
    have hsz : sn.size = z := hz.symm
    have hd1 : (z : Int).tdiv 10 = (q : Int) := by rw [Int.tdiv_eq_ediv_of_nonneg (by omega)]; omega
    have hd2 : (z : Int) / 10 = (q : Int) := by omega
    have hd3 : z / 10 = q := hq.symm
    have gq : IntKind.i64.wrap (q : Int) = (q : Int) := IntWalk.i64_in _ (by have := HLX.out; unfold lenM at this; omega)
    have gw1 : IntKind.i64.wrap ((N : Int) + (nv : Int)) = (N : Int) + (nv : Int) := IntWalk.i64_in _ (by have := HLX.out; unfold lenM at this; omega)
    have gw2 : IntKind.i64.wrap ((N : Int) + (nv : Int) + (q : Int)) = (N : Int) + (nv : Int) + (q : Int) := IntWalk.i64_in _ (by have := HLX.out; unfold lenM at this; omega)
    clear hxo hz hzl hq
    go_wp2
    go_quiet (fail)
    go_wp2
    go_roundg (g0 - 1)
    case measure => omega
    case rel => exact ⟨i + 1, by go_num, by omega, N + nv + q, (by rw [show ((N + nv + q : Nat) : Int) = (N : Int) + (nv : Int) + (q : Int) by omega]), (by rw [sum_snoc _ _ _ _ HXI.out, HWX.out, HNS.out]; omega), bx_drew HBX.out _⟩
   ·have t2 : decide ((N : Int) < 200) = false := decide_eq_false (by omega)
    have t3 : ¬ (N : Int) < 200 := by omega
    have HNO : Hid (smallT s = false) := Lib.hid (small_no (by have := HWG.out; have := HNS.out; have := sum_take s.enums weighE i; omega))
    have t4 : decide ((N : Int) ≥ 200) = true := decide_eq_true (by omega)
    have t5 : decide ((200 : Int) ≤ (N : Int)) = true := decide_eq_true (by omega)
    have HN200 : Hid (200 ≤ N) := Lib.hid (by omega)
    go_wp2
    go_loopg [3, 5] 1 (fun gz x0 x1 wr => x0 = .int .i64 (N : Int) ∧ x1 = .int .i64 0 ∧ Bx w wr (.cells #[.slice A n cap, .slice A2 n2 cap2] 25 (0, 0)))
    case atStart => exact ⟨rfl, rfl, HBX.out⟩
    case round =>
     obtain ⟨rfl, rfl, hbx⟩ := hrel
     have HBX := Lib.hid hbx
     clear hbx
     have r0 := obj_cell (HBX.out).b_blk 0
     have r1 := obj_cell (HBX.out).b_blk 1
     by_cases h0 : 0 < n2
     ·have t6 : decide ((0 : Int) < (n2 : Int)) = true := decide_eq_true (by omega)
      have t7 : decide (0 < n2) = true := decide_eq_true (by omega)
      go_wp2
      go_ret
      exact ⟨ret_bool' HNO.out.symm, HBX.out.b_bel⟩
     ·have t6 : decide ((0 : Int) < (n2 : Int)) = false := decide_eq_false (by omega)
      have t7 : decide (0 < n2) = false := decide_eq_false (by omega)
      go_wp2
      go_ret
      exact ⟨ret_bool' HNO.out.symm, HBX.out.b_bel⟩
  ·have ti : decide ((i : Int) < (n : Int)) = false := decide_eq_false (by omega)
   have HNS := Lib.hid hns
   clear hns
   have HTE : Hid (((s.enums.take i).map weighE).sum = (s.enums.map weighE).sum) := Lib.hid (by rw [List.take_of_length_le (by have := H.out.s_ne; omega)])
   rw [HTE.out] at HNS
   by_cases h200 : N < 200
   ·skip
    have HN2 : Hid (N < 200) := Lib.hid h200
    clear h200
    go_wp2
    clear r0 r1
    go_loopg [3, 5] n2 (fun gz x0 x1 wr => ∃ i : Nat, x1 = .int .i64 (i : Int) ∧ i + gz = n2 ∧ ∃ N : Nat, x0 = .int .i64 (N : Int) ∧ N = ((n + n2) + (s.enums.map weighE).sum) + ((s.msgs.take i).map weighM).sum ∧ Bx w wr (.cells #[.slice A n cap, .slice A2 n2 cap2] 25 (0, 0)))
    case atStart => exact ⟨0, rfl, by omega, N, rfl, (by rw [HNS.out]; simp), HBX.out⟩
    case round =>
     obtain ⟨i, rfl, hi, N, rfl, hnm, hbx⟩ := hrel
     have HBX := Lib.hid hbx
     clear hbx
     have r0 := obj_cell (HBX.out).b_blk 0
     have r1 := obj_cell (HBX.out).b_blk 1
     obtain ⟨g0, hg0⟩ : ∃ g0, g0 = gk := ⟨_, rfl⟩
     subst hg0
     by_cases hlti : i < n2
     ·have ti : decide ((i : Int) < (n2 : Int)) = true := decide_eq_true (by omega)
      have HNM := Lib.hid hnm
      clear hnm
      by_cases h200 : N < 200
      ·have t2 : decide ((N : Int) < 200) = true := decide_eq_true (by omega)
       have t3 : (N : Int) < 200 := by omega
       obtain ⟨x, hx⟩ : ∃ x, s.msgs[i]? = some x := ⟨_, List.getElem?_eq_getElem (by have := H.out.s_nm; omega)⟩
       have HXI := Lib.hid hx
       obtain ⟨ge, oe, A1, cap1, A3, cap3, rfl, _, hc, hl, hl2⟩ := ms_at H.out.s_m hx
       have q1 := hl.l_le
       have q2 := hl.l_max
       have q3 := hl2.l_le
       have q4 := hl2.l_max
       unfold maxLen at q2 q4
       have HL := Lib.hid hl
       have HL2 := Lib.hid hl2
       obtain ⟨nf, hnf⟩ : ∃ nf, nf = x.fields.length := ⟨_, rfl⟩
       obtain ⟨nb, hnb⟩ : ∃ nb, nb = x.barred.length := ⟨_, rfl⟩
       have HNF := Lib.hid hnf
       have HNB := Lib.hid hnb
       rw [← hnf] at hc q1
       rw [← hnb] at hc q3
       obtain ⟨sn, hsn⟩ : ∃ sn, sn = strOf x.name := ⟨_, rfl⟩
       have HSN := Lib.hid hsn
       rw [← hsn] at hc
       have HC := Lib.hid hc
       clear hx hl hl2 hnf hnb hsn hc
       obtain ⟨c0, c1, c2⟩ := HC.out _ HBX.out.b_bel
       have hxo := HOK.out.2.2.2 x (List.mem_of_getElem? HXI.out)
       obtain ⟨z, hz⟩ : ∃ z, z = sn.size := ⟨_, rfl⟩
       obtain ⟨q, hq⟩ : ∃ q, q = z / 10 := ⟨_, rfl⟩
       have hzl : z = x.name.length := by rw [hz, HSN.out, str_size]
       have HLX : Hid (nf ≤ lenM ∧ nb ≤ lenM ∧ q ≤ lenM) := Lib.hid ⟨by rw [HNF.out]; exact hxo.2.1, by rw [HNB.out]; exact hxo.2.2.1, by rw [hq, hzl]; have := hxo.1; omega⟩
       have HWX : Hid (weighM x = nf + nb + q) := Lib.hid (by unfold weighM; rw [HNF.out, HNB.out, hq, hzl])
       have hsz : sn.size = z := hz.symm
       have hd1 : (z : Int).tdiv 10 = (q : Int) := by rw [Int.tdiv_eq_ediv_of_nonneg (by omega)]; omega
       have hd2 : (z : Int) / 10 = (q : Int) := by omega
       have hd3 : z / 10 = q := hq.symm
       have gq : IntKind.i64.wrap (q : Int) = (q : Int) := IntWalk.i64_in _ (by have := HLX.out; unfold lenM at this; omega)
       have gw1 : IntKind.i64.wrap ((N : Int) + (nf : Int)) = (N : Int) + (nf : Int) := IntWalk.i64_in _ (by have := HLX.out; unfold lenM at this; omega)
       have gw2 : IntKind.i64.wrap ((N : Int) + (nf : Int) + (nb : Int)) = (N : Int) + (nf : Int) + (nb : Int) := IntWalk.i64_in _ (by have := HLX.out; unfold lenM at this; omega)
       have gw3 : IntKind.i64.wrap ((N : Int) + (nf : Int) + (nb : Int) + (q : Int)) = (N : Int) + (nf : Int) + (nb : Int) + (q : Int) := IntWalk.i64_in _ (by have := HLX.out; unfold lenM at this; omega)
       clear hxo hz hzl hq
       go_wp2
       go_quiet (fail)
       go_wp2
       go_roundg (g0 - 1)
       case measure => omega
       case rel => exact ⟨i + 1, by go_num, by omega, N + nf + nb + q, (by rw [show ((N + nf + nb + q : Nat) : Int) = (N : Int) + (nf : Int) + (nb : Int) + (q : Int) by omega]), (by rw [sum_snoc _ _ _ _ HXI.out, HWX.out, HNM.out]; omega), bx_drew HBX.out _⟩
      ·have t2 : decide ((N : Int) < 200) = false := decide_eq_false (by omega)
       have t3 : ¬ (N : Int) < 200 := by omega
       have HNO : Hid (smallT s = false) := Lib.hid (small_no (by have := HWG.out; have := HNM.out; have := sum_take s.msgs weighM i; omega))
       have t4 : decide ((N : Int) ≥ 200) = true := decide_eq_true (by omega)
       have t5 : decide ((200 : Int) ≤ (N : Int)) = true := decide_eq_true (by omega)
       go_wp2
       go_ret
       exact ⟨ret_bool' HNO.out.symm, HBX.out.b_bel⟩
     ·have ti : decide ((i : Int) < (n2 : Int)) = false := decide_eq_false (by omega)
      have HNM := Lib.hid hnm
      clear hnm
      have HTM : Hid (((s.msgs.take i).map weighM).sum = (s.msgs.map weighM).sum) := Lib.hid (by rw [List.take_of_length_le (by have := H.out.s_nm; omega)])
      rw [HTM.out] at HNM
      by_cases h200 : N < 200
      ·have t4 : decide ((N : Int) ≥ 200) = false := decide_eq_false (by omega)
       have t5 : decide ((200 : Int) ≤ (N : Int)) = false := decide_eq_false (by omega)
       have HWS : Hid (weigh s < 200) := Lib.hid (by have := HWG.out; have := HNM.out; omega)
       clear h200
       go_wp2
       clear r0 r1
       go_loopg [6] n (fun gz x0 wr => ∃ i : Nat, x0 = .int .i64 (i : Int) ∧ i + gz = n ∧ (s.enums.take i).any longE = false ∧ Bx w wr (.cells #[.slice A n cap, .slice A2 n2 cap2] 25 (0, 0)))
       case atStart => exact ⟨0, rfl, by omega, rfl, HBX.out⟩
       case round =>
        obtain ⟨i, rfl, hi, hfb, hbx⟩ := hrel
        have HBX := Lib.hid hbx
        clear hbx
        have r0 := obj_cell (HBX.out).b_blk 0
        have r1 := obj_cell (HBX.out).b_blk 1
        obtain ⟨g0, hg0⟩ : ∃ g0, g0 = gk := ⟨_, rfl⟩
        subst hg0
        by_cases hlti : i < n
        ·have ti : decide ((i : Int) < (n : Int)) = true := decide_eq_true (by omega)
         obtain ⟨x, hx⟩ : ∃ x, s.enums[i]? = some x := ⟨_, List.getElem?_eq_getElem (by have := H.out.s_ne; omega)⟩
         have HXI := Lib.hid hx
         obtain ⟨ge, oe, A1, cap1, rfl, _, hc, hl⟩ := en_at H.out.s_e hx
         have q1 := hl.l_le
         have q2 := hl.l_max
         unfold maxLen at q2
         have HL := Lib.hid hl
         obtain ⟨nv, hnv⟩ : ∃ nv, nv = x.values.length := ⟨_, rfl⟩
         have HNV := Lib.hid hnv
         rw [← hnv] at hc q1
         obtain ⟨sn, hsn⟩ : ∃ sn, sn = strOf x.name := ⟨_, rfl⟩
         have HSN := Lib.hid hsn
         rw [← hsn] at hc
         have HC := Lib.hid hc
         clear hx hl hnv hsn hc
         obtain ⟨c0, c1⟩ := HC.out _ HBX.out.b_bel
         have HFB := Lib.hid hfb
         clear hfb
         go_wp2
         clear c0 c1
         clear r0 r1
         go_loopg [7] nv (fun gz x0 wr => ∃ k : Nat, x0 = .int .i64 (k : Int) ∧ k + gz = nv ∧ (x.values.take k).any longV = false ∧ Bx w wr (.cells #[.slice (some ⟨ge, oe, none⟩) n cap, .slice A2 n2 cap2] 25 (0, 0)))
         case atStart => exact ⟨0, rfl, by omega, rfl, HBX.out⟩
         case round =>
          obtain ⟨k, rfl, hk, hfk, hbx⟩ := hrel
          have HBX := Lib.hid hbx
          clear hbx
          have r0 := obj_cell (HBX.out).b_blk 0
          have r1 := obj_cell (HBX.out).b_blk 1
          obtain ⟨g1, hg1⟩ : ∃ g1, g1 = gk := ⟨_, rfl⟩
          subst hg1
          by_cases hltk : k < nv
          ·have tk : decide ((k : Int) < (nv : Int)) = true := decide_eq_true (by omega)
           obtain ⟨v, hv⟩ : ∃ v, x.values[k]? = some v := ⟨_, List.getElem?_eq_getElem (by have := HNV.out; omega)⟩
           have HVI := Lib.hid hv
           obtain ⟨gv, ov, rfl, _, hcv⟩ := vl_at HL.out hv
           obtain ⟨c0, c1⟩ := HC.out _ HBX.out.b_bel
           obtain ⟨d0, d1⟩ := hcv _ HBX.out.b_bel
           have HFK := Lib.hid hfk
           clear hfk
           obtain ⟨sv, hsv⟩ : ∃ sv, sv = strOf v.name := ⟨_, rfl⟩
           obtain ⟨z, hz⟩ : ∃ z, z = v.name.length := ⟨_, rfl⟩
           have hsz : sv.size = z := by rw [hsv, str_size, hz]
           rw [← hsv] at d0
           by_cases hl : 1000 < z
           ·have dl : decide ((z : Int) > 1000) = true := decide_eq_true (by omega)
            have HNO : Hid (smallT s = false) := Lib.hid (small_noE (any_off HXI.out (p := longE) (any_off HVI.out (p := longV) (by unfold longV; rw [← hz]; exact decide_eq_true hl))))
            clear hv hcv hsv hz
            go_wp2
            go_ret
            exact ⟨ret_bool' HNO.out.symm, HBX.out.b_bel⟩
           ·have dl : decide ((z : Int) > 1000) = false := decide_eq_false (by omega)
            have HXV : Hid ((x.values.take (k + 1)).any longV = false) := Lib.hid (by rw [any_snoc _ _ _ _ HVI.out, HFK.out]; unfold longV; rw [← hz]; exact decide_eq_false hl)
            clear hv hcv hsv hz
            go_wp2
            go_roundg (g1 - 1)
            case measure => omega
            case rel => exact ⟨k + 1, by go_num, by omega, HXV.out, HBX.out⟩
          ·have tk : decide ((k : Int) < (nv : Int)) = false := decide_eq_false (by omega)
           obtain ⟨c0, c1⟩ := HC.out _ HBX.out.b_bel
           rw [any_whole x.values _ k (by have := HNV.out; omega)] at hfk
           have HFK := Lib.hid hfk
           clear hfk
           go_wp2
           go_roundg (g0 - 1)
           case measure => omega
           case rel => exact ⟨i + 1, by go_num, by omega, by rw [any_snoc s.enums longE i x HXI.out, HFB.out]; exact HFK.out, HBX.out⟩
        ·have ti : decide ((i : Int) < (n : Int)) = false := decide_eq_false (by omega)
         rw [any_whole s.enums _ i (by have := H.out.s_ne; omega)] at hfb
         have HSE := Lib.hid hfb
         clear hfb
         go_wp2
         clear r0 r1
         go_loopg [8] n2 (fun gz x0 wr => ∃ i : Nat, x0 = .int .i64 (i : Int) ∧ i + gz = n2 ∧ (s.msgs.take i).any longM = false ∧ Bx w wr (.cells #[.slice A n cap, .slice A2 n2 cap2] 25 (0, 0)))
         case atStart => exact ⟨0, rfl, by omega, rfl, HBX.out⟩
         case round =>
          obtain ⟨i, rfl, hi, hfb, hbx⟩ := hrel
          have HBX := Lib.hid hbx
          clear hbx
          have r0 := obj_cell (HBX.out).b_blk 0
          have r1 := obj_cell (HBX.out).b_blk 1
          obtain ⟨g0, hg0⟩ : ∃ g0, g0 = gk := ⟨_, rfl⟩
          subst hg0
          by_cases hlti : i < n2
          ·have ti : decide ((i : Int) < (n2 : Int)) = true := decide_eq_true (by omega)
           obtain ⟨x, hx⟩ : ∃ x, s.msgs[i]? = some x := ⟨_, List.getElem?_eq_getElem (by have := H.out.s_nm; omega)⟩
           have HXI := Lib.hid hx
           obtain ⟨ge, oe, A1, cap1, A3, cap3, rfl, _, hc, hl, hl2⟩ := ms_at H.out.s_m hx
           have q1 := hl.l_le
           have q2 := hl.l_max
           have q3 := hl2.l_le
           have q4 := hl2.l_max
           unfold maxLen at q2 q4
           have HL := Lib.hid hl
           have HL2 := Lib.hid hl2
           obtain ⟨nf, hnf⟩ : ∃ nf, nf = x.fields.length := ⟨_, rfl⟩
           obtain ⟨nb, hnb⟩ : ∃ nb, nb = x.barred.length := ⟨_, rfl⟩
           have HNF := Lib.hid hnf
           have HNB := Lib.hid hnb
           rw [← hnf] at hc q1
           rw [← hnb] at hc q3
           obtain ⟨sn, hsn⟩ : ∃ sn, sn = strOf x.name := ⟨_, rfl⟩
           have HSN := Lib.hid hsn
           rw [← hsn] at hc
           have HC := Lib.hid hc
           clear hx hl hl2 hnf hnb hsn hc
           obtain ⟨c0, c1, c2⟩ := HC.out _ HBX.out.b_bel
           have HFB := Lib.hid hfb
           clear hfb
           go_wp2
           clear c0 c1 c2
           clear r0 r1
           go_loopg [9] nf (fun gz x0 wr => ∃ k : Nat, x0 = .int .i64 (k : Int) ∧ k + gz = nf ∧ (x.fields.take k).any longF = false ∧ Bx w wr (.cells #[.slice A n cap, .slice (some ⟨ge, oe, none⟩) n2 cap2] 25 (0, 0)))
           case atStart => exact ⟨0, rfl, by omega, rfl, HBX.out⟩
           case round =>
            obtain ⟨k, rfl, hk, hfk, hbx⟩ := hrel
            have HBX := Lib.hid hbx
            clear hbx
            have r0 := obj_cell (HBX.out).b_blk 0
            have r1 := obj_cell (HBX.out).b_blk 1
            obtain ⟨g1, hg1⟩ : ∃ g1, g1 = gk := ⟨_, rfl⟩
            subst hg1
            by_cases hltk : k < nf
            ·have tk : decide ((k : Int) < (nf : Int)) = true := decide_eq_true (by omega)
             obtain ⟨f, hf⟩ : ∃ f, x.fields[k]? = some f := ⟨_, List.getElem?_eq_getElem (by have := HNF.out; omega)⟩
             have HFI := Lib.hid hf
             obtain ⟨gf, of, rfl, _, hcf⟩ := fd_at HL.out hf
             have HCF := Lib.hid hcf
             clear hf hcf
             have HFK := Lib.hid hfk
             clear hfk
             obtain ⟨c0, c1, c2⟩ := HC.out _ HBX.out.b_bel
             obtain ⟨d0, d1, d2, d3, d4, d5, d6⟩ := HCF.out _ HBX.out.b_bel
             have HXF := Lib.hid (any_snoc x.fields longF k f HFI.out)
             have HO := Lib.hid (fun hp : longF f = true => (small_noM (any_off HXI.out (p := longM) (any_off HFI.out (p := longF) hp)) : smallT s = false))
             obtain ⟨p, hp⟩ : ∃ p, p = longF f := ⟨_, rfl⟩
             rw [← hp] at HXF HO
             unfold longF at hp
             obtain ⟨name, num, ty, ref, rep, loose, one⟩ := f
             dsimp only at hp d0 d1 d2 d3 d4 d5 d6
             obtain ⟨sn1, hsn1⟩ : ∃ z, z = strOf name := ⟨_, rfl⟩
             obtain ⟨z1, hz1⟩ : ∃ z, z = name.length := ⟨_, rfl⟩
             have szz1 : sn1.size = z1 := by rw [hsn1, str_size, hz1]
             obtain ⟨sr1, hsr1⟩ : ∃ z, z = strOf ref := ⟨_, rfl⟩
             obtain ⟨z2, hz2⟩ : ∃ z, z = ref.length := ⟨_, rfl⟩
             have szz2 : sr1.size = z2 := by rw [hsr1, str_size, hz2]
             obtain ⟨so1, hso1⟩ : ∃ z, z = strOf one := ⟨_, rfl⟩
             obtain ⟨z3, hz3⟩ : ∃ z, z = one.length := ⟨_, rfl⟩
             have szz3 : so1.size = z3 := by rw [hso1, str_size, hz3]
             rw [← hsn1] at d0
             rw [← hsr1] at d3
             rw [← hso1] at d6
             rw [← hz1, ← hz2, ← hz3] at hp
             clear hsn1 hsr1 hso1 hz1 hz2 hz3
             have HBA : Hid (Bx w (wr.alloc (.cells #[.string sn1, .int .i64 num, .int .i64 ty, .string sr1, .bool rep, .bool loose, .string so1] 44)) (.cells #[.slice A n cap, .slice (some ⟨ge, oe, none⟩) n2 cap2] 25 (0, 0))) := Lib.hid (bx_step HBX.out ((Below.refl _ wr).alloc (Nat.le_refl _) _))
             have a0 := obj_cell HBA.out.b_blk 0
             have a1 := obj_cell HBA.out.b_blk 1
             have HFX : Hid ((wr.alloc (.cells #[.string sn1, .int .i64 num, .int .i64 ty, .string sr1, .bool rep, .bool loose, .string so1] 44)).heap[wr.heap.size]? = some (.cells #[.string sn1, .int .i64 num, .int .i64 ty, .string sr1, .bool rep, .bool loose, .string so1] 44 (0, 0))) := Lib.hid (heap_alloc_new wr _)
             have f0 := obj_cell HFX.out 0
             have f3 := obj_cell HFX.out 3
             have f6 := obj_cell HFX.out 6
             by_cases hz1 : 1000 < z1
             ·have lz1 : decide ((z1 : Int) > 1000) = true := decide_eq_true (by omega)
              replace hp : p = true := by rw [hp]; simp [*]
              have HNO : Hid (smallT s = false) := Lib.hid (HO.out hp)
              go_wp2
              go_ret
              exact ⟨ret_bool' HNO.out.symm, HBA.out.b_bel⟩
             ·have lz1 : decide ((z1 : Int) > 1000) = false := decide_eq_false (by omega)
              by_cases hz2 : 1000 < z2
              ·have lz2 : decide ((z2 : Int) > 1000) = true := decide_eq_true (by omega)
               replace hp : p = true := by rw [hp]; simp [*]
               have HNO : Hid (smallT s = false) := Lib.hid (HO.out hp)
               go_wp2
               go_ret
               exact ⟨ret_bool' HNO.out.symm, HBA.out.b_bel⟩
              ·have lz2 : decide ((z2 : Int) > 1000) = false := decide_eq_false (by omega)
               by_cases hz3 : 1000 < z3
               ·have lz3 : decide ((z3 : Int) > 1000) = true := decide_eq_true (by omega)
                replace hp : p = true := by rw [hp]; simp [*]
                have HNO : Hid (smallT s = false) := Lib.hid (HO.out hp)
                go_wp2
                go_ret
                exact ⟨ret_bool' HNO.out.symm, HBA.out.b_bel⟩
               ·have lz3 : decide ((z3 : Int) > 1000) = false := decide_eq_false (by omega)
                replace hp : p = false := by rw [hp]; simp [*]
                have HXK : Hid ((x.fields.take (k + 1)).any longF = false) := Lib.hid (by rw [HXF.out, HFK.out, hp]; rfl)
                go_wp2
                go_roundg (g1 - 1)
                case measure => omega
                case rel => exact ⟨k + 1, by go_num, by omega, HXK.out, HBA.out⟩
            ·have tk : decide ((k : Int) < (nf : Int)) = false := decide_eq_false (by omega)
             obtain ⟨c0, c1, c2⟩ := HC.out _ HBX.out.b_bel
             rw [any_whole x.fields _ k (by have := HNF.out; omega)] at hfk
             have HFK := Lib.hid hfk
             clear hfk
             go_wp2
             go_roundg (g0 - 1)
             case measure => omega
             case rel => exact ⟨i + 1, by go_num, by omega, by rw [any_snoc s.msgs longM i x HXI.out, HFB.out]; exact HFK.out, HBX.out⟩
          ·have ti : decide ((i : Int) < (n2 : Int)) = false := decide_eq_false (by omega)
           rw [any_whole s.msgs _ i (by have := H.out.s_nm; omega)] at hfb
           have HYES : Hid (smallT s = true) := Lib.hid (small_of HWS.out HSE.out hfb)
           clear hfb
           go_wp2
           go_ret
           exact ⟨ret_bool' HYES.out.symm, HBX.out.b_bel⟩
      ·have t4 : decide ((N : Int) ≥ 200) = true := decide_eq_true (by omega)
       have t5 : decide ((200 : Int) ≤ (N : Int)) = true := decide_eq_true (by omega)
       have HNO : Hid (smallT s = false) := Lib.hid (small_no (by have := HWG.out; have := HNM.out; omega))
       go_wp2
       go_ret
       exact ⟨ret_bool' HNO.out.symm, HBX.out.b_bel⟩
   ·have t3 : ¬ (N : Int) < 200 := by omega
    have t2 : decide ((N : Int) < 200) = false := decide_eq_false (by omega)
    have HNO : Hid (smallT s = false) := Lib.hid (small_no (by have := HWG.out; have := HNS.out; omega))
    have t4 : decide ((N : Int) ≥ 200) = true := decide_eq_true (by omega)
    have t5 : decide ((200 : Int) ≤ (N : Int)) = true := decide_eq_true (by omega)
    have HN200 : Hid (200 ≤ N) := Lib.hid (by omega)
    go_wp2
    go_loopg [3, 5] 1 (fun gz x0 x1 wr => x0 = .int .i64 (N : Int) ∧ x1 = .int .i64 0 ∧ Bx w wr (.cells #[.slice A n cap, .slice A2 n2 cap2] 25 (0, 0)))
    case atStart => exact ⟨rfl, rfl, HBX.out⟩
    case round =>
     obtain ⟨rfl, rfl, hbx⟩ := hrel
     have HBX := Lib.hid hbx
     clear hbx
     have r0 := obj_cell (HBX.out).b_blk 0
     have r1 := obj_cell (HBX.out).b_blk 1
     by_cases h0 : 0 < n2
     ·have t6 : decide ((0 : Int) < (n2 : Int)) = true := decide_eq_true (by omega)
      have t7 : decide (0 < n2) = true := decide_eq_true (by omega)
      go_wp2
      go_ret
      exact ⟨ret_bool' HNO.out.symm, HBX.out.b_bel⟩
     ·have t6 : decide ((0 : Int) < (n2 : Int)) = false := decide_eq_false (by omega)
      have t7 : decide (0 < n2) = false := decide_eq_false (by omega)
      go_wp2
      go_ret
      exact ⟨ret_bool' HNO.out.symm, HBX.out.b_bel⟩
end Go.Proofs.YtloheacncefkgaaGreatDoor

/- The document's layer 15: what is where in a message. Conditions: those that each theorem names. -/
namespace Go.Proofs.YtloheacncefkgaaGreatDoor
open Go.RowKit
set_option linter.unusedVariables false
set_option maxRecDepth 100000

set_option maxHeartbeats 4000000 in
theorem rxnumber_any {S T : Nat → Prop} (w : World) {A1 A2 : Option Addr} {nf ca nb cb : Nat} {x : Ms} (sn : ByteArray) (hl : Lst 7 S fdR w A1 ca x.fields) (hl2 : Lst 1 T inR w A2 cb x.barred) (hnf : nf = x.fields.length) (hnb : nb = x.barred.length) (t : Int) :
 Calls Tryz.prog 84 #[.agg #[.string sn, .slice A1 nf ca, .slice A2 nb cb], .int .i64 t] w fun e w' => e = .returned (.int .i64 (numAtT x t)) ∧ Below w.heap.size w w' := by
 have q1 := hl.l_le
 have q2 := hl.l_max
 have q3 := hl2.l_le
 have q4 := hl2.l_max
 rw [← hnf] at q1
 rw [← hnb] at q3
 unfold maxLen at q2 q4
 have HL := Lib.hid hl
 have HL2 := Lib.hid hl2
 have HNF := Lib.hid hnf
 have HNB := Lib.hid hnb
 have HBX := Lib.hid (bx_start w #[.string sn, .slice A1 nf ca, .slice A2 nb cb] 57)
 clear hl hl2 hnf hnb
 have r0 := obj_cell (HBX.out).b_blk 0
 have r1 := obj_cell (HBX.out).b_blk 1
 have r2 := obj_cell (HBX.out).b_blk 2
 go_enter Tryz.func84, Tryz.ntmps84
 go_wp2
 clear r0 r1 r2
 go_loopg [5] nf (fun gz x0 wr => ∃ k : Nat, x0 = .int .i64 (k : Int) ∧ k + gz = nf ∧ (∀ (j : Nat) y, j < k → (fNums x)[j]? = some y → y ≠ t) ∧ Bx w wr (.cells #[.string sn, .slice A1 nf ca, .slice A2 nb cb] 57 (0, 0)))
 case atStart => exact ⟨0, rfl, by omega, fun j y hj => absurd hj (Nat.not_lt_zero _), HBX.out⟩
 case round =>
  obtain ⟨k, rfl, hk, hall, hbx⟩ := hrel
  have HBX := Lib.hid hbx
  clear hbx
  have r0 := obj_cell (HBX.out).b_blk 0
  have r1 := obj_cell (HBX.out).b_blk 1
  have r2 := obj_cell (HBX.out).b_blk 2
  obtain ⟨g0, hg0⟩ : ∃ g0, g0 = gk := ⟨_, rfl⟩
  subst hg0
  by_cases hltk : k < nf
  ·have tk : decide ((k : Int) < (nf : Int)) = true := decide_eq_true (by omega)
   obtain ⟨f, hf⟩ : ∃ f, x.fields[k]? = some f := ⟨_, List.getElem?_eq_getElem (by have := HNF.out; omega)⟩
   have HFI := Lib.hid hf
   obtain ⟨gf, of, rfl, _, hcf⟩ := fd_at HL.out hf
   have HCF := Lib.hid hcf
   clear hf hcf
   obtain ⟨d0, d1, d2, d3, d4, d5, d6⟩ := HCF.out _ HBX.out.b_bel
   have HALL := Lib.hid hall
   clear hall
   have HFM : Hid ((fNums x)[k]? = some f.num) := Lib.hid (by unfold fNums; rw [List.getElem?_map, HFI.out]; rfl)
   clear d0 d2 d3 d4 d5 d6
   by_cases hab : f.num = t
   ·have HO : Hid (numAtT x t = (k : Int)) := Lib.hid (placeZ_hit (by rw [HFM.out, hab]) HALL.out)
    have e1 : (f.num == t) = true := by rw [hab]; exact beq_self_eq_true t
    have e2 : f.num = t := hab
    go_wp2
    go_ret
    exact ⟨ret_int' HO.out.symm, HBX.out.b_bel⟩
   ·have e1 : (f.num == t) = false := beq_false_of_ne hab
    have HAB := Lib.hid hab
    clear hab
    go_wp2
    go_roundg (g0 - 1)
    case measure => omega
    case rel => exact ⟨k + 1, by go_num, by omega, (fun j y hj hy => by
                by_cases hjk : j < k
                ·exact HALL.out j y hjk hy
                ·have : j = k := by omega
                 subst this
                 rw [HFM.out] at hy
                 injection hy with hy
                 rw [← hy]
                 exact HAB.out), HBX.out⟩
  ·have tk : decide ((k : Int) < (nf : Int)) = false := decide_eq_false (by omega)
   have HO : Hid (numAtT x t = -1) := Lib.hid (placeZ_miss (fun j y hy => hall j y (by have := (List.getElem?_eq_some_iff.mp hy).1; unfold fNums at this; rw [List.length_map] at this; have := HNF.out; omega) hy))
   clear hall
   go_wp2
   go_ret
   exact ⟨ret_int' HO.out.symm, HBX.out.b_bel⟩
end Go.Proofs.YtloheacncefkgaaGreatDoor
