/- Several texts in one: FlP. What each proves, and its conditions, stands at its own head. -/
import Derived.Test.YtjogamffdbedkaaGreatDoorPkA21
import Derived.Test.YtjogamffdbedkaaGreatDoorPkA30
import Derived.Test.YtjogamffdbedkaaGreatDoorPkA24
import Derived.Test.YtjogamffdbedkaaGreatDoorPkA1
import Derived.Test.YtjogamffdbedkaaGreatDoorPkA17
import Derived.Test.YtjogamffdbedkaaGreatDoorPkA27
import Derived.Test.YtjogamffdbedkaaGreatDoorPkA4
import Derived.Test.YtjogamffdbedkaaGreatDoorPkA10
import Derived.Lib.Strings
import Derived.Deep.RegionHeld3
/- The program's layer 14: Check, and what it calls. Conditions: those that each theorem names. -/
namespace Go.Proofs.YtjogamffdbedkaaGreatDoor
open Go.RowKit
set_option linter.unusedVariables false
set_option maxRecDepth 100000

set_option maxHeartbeats 40000000 in
theorem fpcheck_core (w : World) (sn sr so : ByteArray) (num ty : Int) (rep loose bn bo rb oe fb kb mb : Bool) (C : Int)
    (hN : (∀ u, Below w.heap.size w u → Calls Tryz.prog 78 #[.string sn] u fun e w' => e = .returned (.bool bn) ∧ Below u.heap.size u w'))
    (hO : (∀ u, Below w.heap.size w u → Calls Tryz.prog 78 #[.string so] u fun e w' => e = .returned (.bool bo) ∧ Below u.heap.size u w'))
    (hR : (∀ u, Below w.heap.size w u → Calls Tryz.prog 96 #[.agg #[.string sn, .int .i64 num, .int .i64 ty, .string sr, .bool rep, .bool loose, .string so]] u fun e w' => e = .returned (.bool rb) ∧ Below u.heap.size u w'))
    (hM : (∀ u, Below w.heap.size w u → Calls Tryz.prog 99 #[.agg #[.string sn, .int .i64 num, .int .i64 ty, .string sr, .bool rep, .bool loose, .string so]] u fun e w' => e = .returned (.bool mb) ∧ Below u.heap.size u w'))
    (hF : ∀ u, Calls Tryz.prog 97 #[.int .i64 num] u fun e w' => e = .returned (.bool fb) ∧ u = w')
    (hK : ∀ u, Calls Tryz.prog 98 #[.int .i64 ty] u fun e w' => e = .returned (.bool kb) ∧ u = w')
    (hoe : (so.toList == []) = oe)
    (hC : C = if (!bn || (!oe && !bo)) = true then 2 else if rb = false then 2 else if (!fb || (!kb || (rep && !oe))) = true then 1 else if (loose && !mb) = true then 1 else 0) :
    Calls Tryz.prog 59 #[.agg #[.string sn, .int .i64 num, .int .i64 ty, .string sr, .bool rep, .bool loose, .string so]] w fun e w' => e = .returned (.int .i64 C) ∧ Below w.heap.size w w' := by
  have HN := Lib.hid hN
  have HO := Lib.hid hO
  have HR := Lib.hid hR
  have HF := Lib.hid hF
  have HK := Lib.hid hK
  have HM := Lib.hid hM
  have HC := Lib.hid hC
  have HB : Hid (Below w.heap.size w (w.alloc (.cells #[.string sn, .int .i64 num, .int .i64 ty, .string sr, .bool rep, .bool loose, .string so] 43))) := Lib.hid ((Below.refl _ w).alloc (Nat.le_refl _) _)
  have HX : Hid ((w.alloc (.cells #[.string sn, .int .i64 num, .int .i64 ty, .string sr, .bool rep, .bool loose, .string so] 43)).heap[w.heap.size]? = some (.cells #[.string sn, .int .i64 num, .int .i64 ty, .string sr, .bool rep, .bool loose, .string so] 43 (0, 0))) := Lib.hid (heap_alloc_new w _)
  clear hN hO hR hF hM hK hC
  cases bn with
  | true =>
    cases oe with
    | true =>
      have o3 : so.toList = [] := by exact beq_iff_eq.1 hoe
      have o2 : so.toList.isEmpty = true := by rw [o3]; rfl
      cases rb with
      | true =>
        cases fb with
        | true =>
          cases kb with
          | true =>
            cases rep with
            | true =>
              cases loose with
              | true =>
                cases mb with
                | true =>
                  have HV : Hid (C = 0) := Lib.hid (by rw [HC.out]; simp [*])
                  clear HC
                  go_enter Tryz.func59, Tryz.ntmps59
                  go_wp2_with (first
                    | (go_at_call 78; with_reducible refine (HN.out _ HB.out).mono ?_; rintro e w1 ⟨rfl, hb⟩; have hx := (hb.block w.heap.size (lt_of_block HX.out)).trans HX.out; have r0 := obj_cell hx 0; have r1 := obj_cell hx 1; have r2 := obj_cell hx 2; have r3 := obj_cell hx 3; have r4 := obj_cell hx 4; have r5 := obj_cell hx 5; have r6 := obj_cell hx 6; replace HX := Lib.hid hx; replace HB := Lib.hid (HB.out.trans (hb.mono HB.out.size)); clear hb hx)
                    | (go_at_call 78; with_reducible refine (HO.out _ HB.out).mono ?_; rintro e w1 ⟨rfl, hb⟩; have hx := (hb.block w.heap.size (lt_of_block HX.out)).trans HX.out; have r0 := obj_cell hx 0; have r1 := obj_cell hx 1; have r2 := obj_cell hx 2; have r3 := obj_cell hx 3; have r4 := obj_cell hx 4; have r5 := obj_cell hx 5; have r6 := obj_cell hx 6; replace HX := Lib.hid hx; replace HB := Lib.hid (HB.out.trans (hb.mono HB.out.size)); clear hb hx)
                    | (go_at_call 96; with_reducible refine (HR.out _ HB.out).mono ?_; rintro e w1 ⟨rfl, hb⟩; have hx := (hb.block w.heap.size (lt_of_block HX.out)).trans HX.out; have r0 := obj_cell hx 0; have r1 := obj_cell hx 1; have r2 := obj_cell hx 2; have r3 := obj_cell hx 3; have r4 := obj_cell hx 4; have r5 := obj_cell hx 5; have r6 := obj_cell hx 6; replace HX := Lib.hid hx; replace HB := Lib.hid (HB.out.trans (hb.mono HB.out.size)); clear hb hx)
                    | (go_at_call 99; with_reducible refine (HM.out _ HB.out).mono ?_; rintro e w1 ⟨rfl, hb⟩; have hx := (hb.block w.heap.size (lt_of_block HX.out)).trans HX.out; have r0 := obj_cell hx 0; have r1 := obj_cell hx 1; have r2 := obj_cell hx 2; have r3 := obj_cell hx 3; have r4 := obj_cell hx 4; have r5 := obj_cell hx 5; have r6 := obj_cell hx 6; replace HX := Lib.hid hx; replace HB := Lib.hid (HB.out.trans (hb.mono HB.out.size)); clear hb hx)
                    | (go_at_call 97; refine (HF.out _).mono ?_; rintro e w2 ⟨rfl, rfl⟩)
                    | (go_at_call 98; refine (HK.out _).mono ?_; rintro e w2 ⟨rfl, rfl⟩)
                    )
                  all_goals (go_ret; exact ⟨by rw [HV.out]; rfl, HB.out⟩)
                | false =>
                  have HV : Hid (C = 1) := Lib.hid (by rw [HC.out]; simp [*])
                  clear HC
                  go_enter Tryz.func59, Tryz.ntmps59
                  go_wp2_with (first
                    | (go_at_call 78; with_reducible refine (HN.out _ HB.out).mono ?_; rintro e w1 ⟨rfl, hb⟩; have hx := (hb.block w.heap.size (lt_of_block HX.out)).trans HX.out; have r0 := obj_cell hx 0; have r1 := obj_cell hx 1; have r2 := obj_cell hx 2; have r3 := obj_cell hx 3; have r4 := obj_cell hx 4; have r5 := obj_cell hx 5; have r6 := obj_cell hx 6; replace HX := Lib.hid hx; replace HB := Lib.hid (HB.out.trans (hb.mono HB.out.size)); clear hb hx)
                    | (go_at_call 78; with_reducible refine (HO.out _ HB.out).mono ?_; rintro e w1 ⟨rfl, hb⟩; have hx := (hb.block w.heap.size (lt_of_block HX.out)).trans HX.out; have r0 := obj_cell hx 0; have r1 := obj_cell hx 1; have r2 := obj_cell hx 2; have r3 := obj_cell hx 3; have r4 := obj_cell hx 4; have r5 := obj_cell hx 5; have r6 := obj_cell hx 6; replace HX := Lib.hid hx; replace HB := Lib.hid (HB.out.trans (hb.mono HB.out.size)); clear hb hx)
                    | (go_at_call 96; with_reducible refine (HR.out _ HB.out).mono ?_; rintro e w1 ⟨rfl, hb⟩; have hx := (hb.block w.heap.size (lt_of_block HX.out)).trans HX.out; have r0 := obj_cell hx 0; have r1 := obj_cell hx 1; have r2 := obj_cell hx 2; have r3 := obj_cell hx 3; have r4 := obj_cell hx 4; have r5 := obj_cell hx 5; have r6 := obj_cell hx 6; replace HX := Lib.hid hx; replace HB := Lib.hid (HB.out.trans (hb.mono HB.out.size)); clear hb hx)
                    | (go_at_call 99; with_reducible refine (HM.out _ HB.out).mono ?_; rintro e w1 ⟨rfl, hb⟩; have hx := (hb.block w.heap.size (lt_of_block HX.out)).trans HX.out; have r0 := obj_cell hx 0; have r1 := obj_cell hx 1; have r2 := obj_cell hx 2; have r3 := obj_cell hx 3; have r4 := obj_cell hx 4; have r5 := obj_cell hx 5; have r6 := obj_cell hx 6; replace HX := Lib.hid hx; replace HB := Lib.hid (HB.out.trans (hb.mono HB.out.size)); clear hb hx)
                    | (go_at_call 97; refine (HF.out _).mono ?_; rintro e w2 ⟨rfl, rfl⟩)
                    | (go_at_call 98; refine (HK.out _).mono ?_; rintro e w2 ⟨rfl, rfl⟩)
                    )
                  all_goals (go_ret; exact ⟨by rw [HV.out]; rfl, HB.out⟩)
              | false =>
                have HV : Hid (C = 0) := Lib.hid (by rw [HC.out]; simp [*])
                clear HC
                go_enter Tryz.func59, Tryz.ntmps59
                go_wp2_with (first
                  | (go_at_call 78; with_reducible refine (HN.out _ HB.out).mono ?_; rintro e w1 ⟨rfl, hb⟩; have hx := (hb.block w.heap.size (lt_of_block HX.out)).trans HX.out; have r0 := obj_cell hx 0; have r1 := obj_cell hx 1; have r2 := obj_cell hx 2; have r3 := obj_cell hx 3; have r4 := obj_cell hx 4; have r5 := obj_cell hx 5; have r6 := obj_cell hx 6; replace HX := Lib.hid hx; replace HB := Lib.hid (HB.out.trans (hb.mono HB.out.size)); clear hb hx)
                  | (go_at_call 78; with_reducible refine (HO.out _ HB.out).mono ?_; rintro e w1 ⟨rfl, hb⟩; have hx := (hb.block w.heap.size (lt_of_block HX.out)).trans HX.out; have r0 := obj_cell hx 0; have r1 := obj_cell hx 1; have r2 := obj_cell hx 2; have r3 := obj_cell hx 3; have r4 := obj_cell hx 4; have r5 := obj_cell hx 5; have r6 := obj_cell hx 6; replace HX := Lib.hid hx; replace HB := Lib.hid (HB.out.trans (hb.mono HB.out.size)); clear hb hx)
                  | (go_at_call 96; with_reducible refine (HR.out _ HB.out).mono ?_; rintro e w1 ⟨rfl, hb⟩; have hx := (hb.block w.heap.size (lt_of_block HX.out)).trans HX.out; have r0 := obj_cell hx 0; have r1 := obj_cell hx 1; have r2 := obj_cell hx 2; have r3 := obj_cell hx 3; have r4 := obj_cell hx 4; have r5 := obj_cell hx 5; have r6 := obj_cell hx 6; replace HX := Lib.hid hx; replace HB := Lib.hid (HB.out.trans (hb.mono HB.out.size)); clear hb hx)
                  | (go_at_call 99; with_reducible refine (HM.out _ HB.out).mono ?_; rintro e w1 ⟨rfl, hb⟩; have hx := (hb.block w.heap.size (lt_of_block HX.out)).trans HX.out; have r0 := obj_cell hx 0; have r1 := obj_cell hx 1; have r2 := obj_cell hx 2; have r3 := obj_cell hx 3; have r4 := obj_cell hx 4; have r5 := obj_cell hx 5; have r6 := obj_cell hx 6; replace HX := Lib.hid hx; replace HB := Lib.hid (HB.out.trans (hb.mono HB.out.size)); clear hb hx)
                  | (go_at_call 97; refine (HF.out _).mono ?_; rintro e w2 ⟨rfl, rfl⟩)
                  | (go_at_call 98; refine (HK.out _).mono ?_; rintro e w2 ⟨rfl, rfl⟩)
                  )
                all_goals (go_ret; exact ⟨by rw [HV.out]; rfl, HB.out⟩)
            | false =>
              cases loose with
              | true =>
                cases mb with
                | true =>
                  have HV : Hid (C = 0) := Lib.hid (by rw [HC.out]; simp [*])
                  clear HC
                  go_enter Tryz.func59, Tryz.ntmps59
                  go_wp2_with (first
                    | (go_at_call 78; with_reducible refine (HN.out _ HB.out).mono ?_; rintro e w1 ⟨rfl, hb⟩; have hx := (hb.block w.heap.size (lt_of_block HX.out)).trans HX.out; have r0 := obj_cell hx 0; have r1 := obj_cell hx 1; have r2 := obj_cell hx 2; have r3 := obj_cell hx 3; have r4 := obj_cell hx 4; have r5 := obj_cell hx 5; have r6 := obj_cell hx 6; replace HX := Lib.hid hx; replace HB := Lib.hid (HB.out.trans (hb.mono HB.out.size)); clear hb hx)
                    | (go_at_call 78; with_reducible refine (HO.out _ HB.out).mono ?_; rintro e w1 ⟨rfl, hb⟩; have hx := (hb.block w.heap.size (lt_of_block HX.out)).trans HX.out; have r0 := obj_cell hx 0; have r1 := obj_cell hx 1; have r2 := obj_cell hx 2; have r3 := obj_cell hx 3; have r4 := obj_cell hx 4; have r5 := obj_cell hx 5; have r6 := obj_cell hx 6; replace HX := Lib.hid hx; replace HB := Lib.hid (HB.out.trans (hb.mono HB.out.size)); clear hb hx)
                    | (go_at_call 96; with_reducible refine (HR.out _ HB.out).mono ?_; rintro e w1 ⟨rfl, hb⟩; have hx := (hb.block w.heap.size (lt_of_block HX.out)).trans HX.out; have r0 := obj_cell hx 0; have r1 := obj_cell hx 1; have r2 := obj_cell hx 2; have r3 := obj_cell hx 3; have r4 := obj_cell hx 4; have r5 := obj_cell hx 5; have r6 := obj_cell hx 6; replace HX := Lib.hid hx; replace HB := Lib.hid (HB.out.trans (hb.mono HB.out.size)); clear hb hx)
                    | (go_at_call 99; with_reducible refine (HM.out _ HB.out).mono ?_; rintro e w1 ⟨rfl, hb⟩; have hx := (hb.block w.heap.size (lt_of_block HX.out)).trans HX.out; have r0 := obj_cell hx 0; have r1 := obj_cell hx 1; have r2 := obj_cell hx 2; have r3 := obj_cell hx 3; have r4 := obj_cell hx 4; have r5 := obj_cell hx 5; have r6 := obj_cell hx 6; replace HX := Lib.hid hx; replace HB := Lib.hid (HB.out.trans (hb.mono HB.out.size)); clear hb hx)
                    | (go_at_call 97; refine (HF.out _).mono ?_; rintro e w2 ⟨rfl, rfl⟩)
                    | (go_at_call 98; refine (HK.out _).mono ?_; rintro e w2 ⟨rfl, rfl⟩)
                    )
                  all_goals (go_ret; exact ⟨by rw [HV.out]; rfl, HB.out⟩)
                | false =>
                  have HV : Hid (C = 1) := Lib.hid (by rw [HC.out]; simp [*])
                  clear HC
                  go_enter Tryz.func59, Tryz.ntmps59
                  go_wp2_with (first
                    | (go_at_call 78; with_reducible refine (HN.out _ HB.out).mono ?_; rintro e w1 ⟨rfl, hb⟩; have hx := (hb.block w.heap.size (lt_of_block HX.out)).trans HX.out; have r0 := obj_cell hx 0; have r1 := obj_cell hx 1; have r2 := obj_cell hx 2; have r3 := obj_cell hx 3; have r4 := obj_cell hx 4; have r5 := obj_cell hx 5; have r6 := obj_cell hx 6; replace HX := Lib.hid hx; replace HB := Lib.hid (HB.out.trans (hb.mono HB.out.size)); clear hb hx)
                    | (go_at_call 78; with_reducible refine (HO.out _ HB.out).mono ?_; rintro e w1 ⟨rfl, hb⟩; have hx := (hb.block w.heap.size (lt_of_block HX.out)).trans HX.out; have r0 := obj_cell hx 0; have r1 := obj_cell hx 1; have r2 := obj_cell hx 2; have r3 := obj_cell hx 3; have r4 := obj_cell hx 4; have r5 := obj_cell hx 5; have r6 := obj_cell hx 6; replace HX := Lib.hid hx; replace HB := Lib.hid (HB.out.trans (hb.mono HB.out.size)); clear hb hx)
                    | (go_at_call 96; with_reducible refine (HR.out _ HB.out).mono ?_; rintro e w1 ⟨rfl, hb⟩; have hx := (hb.block w.heap.size (lt_of_block HX.out)).trans HX.out; have r0 := obj_cell hx 0; have r1 := obj_cell hx 1; have r2 := obj_cell hx 2; have r3 := obj_cell hx 3; have r4 := obj_cell hx 4; have r5 := obj_cell hx 5; have r6 := obj_cell hx 6; replace HX := Lib.hid hx; replace HB := Lib.hid (HB.out.trans (hb.mono HB.out.size)); clear hb hx)
                    | (go_at_call 99; with_reducible refine (HM.out _ HB.out).mono ?_; rintro e w1 ⟨rfl, hb⟩; have hx := (hb.block w.heap.size (lt_of_block HX.out)).trans HX.out; have r0 := obj_cell hx 0; have r1 := obj_cell hx 1; have r2 := obj_cell hx 2; have r3 := obj_cell hx 3; have r4 := obj_cell hx 4; have r5 := obj_cell hx 5; have r6 := obj_cell hx 6; replace HX := Lib.hid hx; replace HB := Lib.hid (HB.out.trans (hb.mono HB.out.size)); clear hb hx)
                    | (go_at_call 97; refine (HF.out _).mono ?_; rintro e w2 ⟨rfl, rfl⟩)
                    | (go_at_call 98; refine (HK.out _).mono ?_; rintro e w2 ⟨rfl, rfl⟩)
                    )
                  all_goals (go_ret; exact ⟨by rw [HV.out]; rfl, HB.out⟩)
              | false =>
                have HV : Hid (C = 0) := Lib.hid (by rw [HC.out]; simp [*])
                clear HC
                go_enter Tryz.func59, Tryz.ntmps59
                go_wp2_with (first
                  | (go_at_call 78; with_reducible refine (HN.out _ HB.out).mono ?_; rintro e w1 ⟨rfl, hb⟩; have hx := (hb.block w.heap.size (lt_of_block HX.out)).trans HX.out; have r0 := obj_cell hx 0; have r1 := obj_cell hx 1; have r2 := obj_cell hx 2; have r3 := obj_cell hx 3; have r4 := obj_cell hx 4; have r5 := obj_cell hx 5; have r6 := obj_cell hx 6; replace HX := Lib.hid hx; replace HB := Lib.hid (HB.out.trans (hb.mono HB.out.size)); clear hb hx)
                  | (go_at_call 78; with_reducible refine (HO.out _ HB.out).mono ?_; rintro e w1 ⟨rfl, hb⟩; have hx := (hb.block w.heap.size (lt_of_block HX.out)).trans HX.out; have r0 := obj_cell hx 0; have r1 := obj_cell hx 1; have r2 := obj_cell hx 2; have r3 := obj_cell hx 3; have r4 := obj_cell hx 4; have r5 := obj_cell hx 5; have r6 := obj_cell hx 6; replace HX := Lib.hid hx; replace HB := Lib.hid (HB.out.trans (hb.mono HB.out.size)); clear hb hx)
                  | (go_at_call 96; with_reducible refine (HR.out _ HB.out).mono ?_; rintro e w1 ⟨rfl, hb⟩; have hx := (hb.block w.heap.size (lt_of_block HX.out)).trans HX.out; have r0 := obj_cell hx 0; have r1 := obj_cell hx 1; have r2 := obj_cell hx 2; have r3 := obj_cell hx 3; have r4 := obj_cell hx 4; have r5 := obj_cell hx 5; have r6 := obj_cell hx 6; replace HX := Lib.hid hx; replace HB := Lib.hid (HB.out.trans (hb.mono HB.out.size)); clear hb hx)
                  | (go_at_call 99; with_reducible refine (HM.out _ HB.out).mono ?_; rintro e w1 ⟨rfl, hb⟩; have hx := (hb.block w.heap.size (lt_of_block HX.out)).trans HX.out; have r0 := obj_cell hx 0; have r1 := obj_cell hx 1; have r2 := obj_cell hx 2; have r3 := obj_cell hx 3; have r4 := obj_cell hx 4; have r5 := obj_cell hx 5; have r6 := obj_cell hx 6; replace HX := Lib.hid hx; replace HB := Lib.hid (HB.out.trans (hb.mono HB.out.size)); clear hb hx)
                  | (go_at_call 97; refine (HF.out _).mono ?_; rintro e w2 ⟨rfl, rfl⟩)
                  | (go_at_call 98; refine (HK.out _).mono ?_; rintro e w2 ⟨rfl, rfl⟩)
                  )
                all_goals (go_ret; exact ⟨by rw [HV.out]; rfl, HB.out⟩)
          | false =>
            have HV : Hid (C = 1) := Lib.hid (by rw [HC.out]; simp [*])
            clear HC
            go_enter Tryz.func59, Tryz.ntmps59
            go_wp2_with (first
              | (go_at_call 78; with_reducible refine (HN.out _ HB.out).mono ?_; rintro e w1 ⟨rfl, hb⟩; have hx := (hb.block w.heap.size (lt_of_block HX.out)).trans HX.out; have r0 := obj_cell hx 0; have r1 := obj_cell hx 1; have r2 := obj_cell hx 2; have r3 := obj_cell hx 3; have r4 := obj_cell hx 4; have r5 := obj_cell hx 5; have r6 := obj_cell hx 6; replace HX := Lib.hid hx; replace HB := Lib.hid (HB.out.trans (hb.mono HB.out.size)); clear hb hx)
              | (go_at_call 78; with_reducible refine (HO.out _ HB.out).mono ?_; rintro e w1 ⟨rfl, hb⟩; have hx := (hb.block w.heap.size (lt_of_block HX.out)).trans HX.out; have r0 := obj_cell hx 0; have r1 := obj_cell hx 1; have r2 := obj_cell hx 2; have r3 := obj_cell hx 3; have r4 := obj_cell hx 4; have r5 := obj_cell hx 5; have r6 := obj_cell hx 6; replace HX := Lib.hid hx; replace HB := Lib.hid (HB.out.trans (hb.mono HB.out.size)); clear hb hx)
              | (go_at_call 96; with_reducible refine (HR.out _ HB.out).mono ?_; rintro e w1 ⟨rfl, hb⟩; have hx := (hb.block w.heap.size (lt_of_block HX.out)).trans HX.out; have r0 := obj_cell hx 0; have r1 := obj_cell hx 1; have r2 := obj_cell hx 2; have r3 := obj_cell hx 3; have r4 := obj_cell hx 4; have r5 := obj_cell hx 5; have r6 := obj_cell hx 6; replace HX := Lib.hid hx; replace HB := Lib.hid (HB.out.trans (hb.mono HB.out.size)); clear hb hx)
              | (go_at_call 99; with_reducible refine (HM.out _ HB.out).mono ?_; rintro e w1 ⟨rfl, hb⟩; have hx := (hb.block w.heap.size (lt_of_block HX.out)).trans HX.out; have r0 := obj_cell hx 0; have r1 := obj_cell hx 1; have r2 := obj_cell hx 2; have r3 := obj_cell hx 3; have r4 := obj_cell hx 4; have r5 := obj_cell hx 5; have r6 := obj_cell hx 6; replace HX := Lib.hid hx; replace HB := Lib.hid (HB.out.trans (hb.mono HB.out.size)); clear hb hx)
              | (go_at_call 97; refine (HF.out _).mono ?_; rintro e w2 ⟨rfl, rfl⟩)
              | (go_at_call 98; refine (HK.out _).mono ?_; rintro e w2 ⟨rfl, rfl⟩)
              )
            all_goals (go_ret; exact ⟨by rw [HV.out]; rfl, HB.out⟩)
        | false =>
          have HV : Hid (C = 1) := Lib.hid (by rw [HC.out]; simp [*])
          clear HC
          go_enter Tryz.func59, Tryz.ntmps59
          go_wp2_with (first
            | (go_at_call 78; with_reducible refine (HN.out _ HB.out).mono ?_; rintro e w1 ⟨rfl, hb⟩; have hx := (hb.block w.heap.size (lt_of_block HX.out)).trans HX.out; have r0 := obj_cell hx 0; have r1 := obj_cell hx 1; have r2 := obj_cell hx 2; have r3 := obj_cell hx 3; have r4 := obj_cell hx 4; have r5 := obj_cell hx 5; have r6 := obj_cell hx 6; replace HX := Lib.hid hx; replace HB := Lib.hid (HB.out.trans (hb.mono HB.out.size)); clear hb hx)
            | (go_at_call 78; with_reducible refine (HO.out _ HB.out).mono ?_; rintro e w1 ⟨rfl, hb⟩; have hx := (hb.block w.heap.size (lt_of_block HX.out)).trans HX.out; have r0 := obj_cell hx 0; have r1 := obj_cell hx 1; have r2 := obj_cell hx 2; have r3 := obj_cell hx 3; have r4 := obj_cell hx 4; have r5 := obj_cell hx 5; have r6 := obj_cell hx 6; replace HX := Lib.hid hx; replace HB := Lib.hid (HB.out.trans (hb.mono HB.out.size)); clear hb hx)
            | (go_at_call 96; with_reducible refine (HR.out _ HB.out).mono ?_; rintro e w1 ⟨rfl, hb⟩; have hx := (hb.block w.heap.size (lt_of_block HX.out)).trans HX.out; have r0 := obj_cell hx 0; have r1 := obj_cell hx 1; have r2 := obj_cell hx 2; have r3 := obj_cell hx 3; have r4 := obj_cell hx 4; have r5 := obj_cell hx 5; have r6 := obj_cell hx 6; replace HX := Lib.hid hx; replace HB := Lib.hid (HB.out.trans (hb.mono HB.out.size)); clear hb hx)
            | (go_at_call 99; with_reducible refine (HM.out _ HB.out).mono ?_; rintro e w1 ⟨rfl, hb⟩; have hx := (hb.block w.heap.size (lt_of_block HX.out)).trans HX.out; have r0 := obj_cell hx 0; have r1 := obj_cell hx 1; have r2 := obj_cell hx 2; have r3 := obj_cell hx 3; have r4 := obj_cell hx 4; have r5 := obj_cell hx 5; have r6 := obj_cell hx 6; replace HX := Lib.hid hx; replace HB := Lib.hid (HB.out.trans (hb.mono HB.out.size)); clear hb hx)
            | (go_at_call 97; refine (HF.out _).mono ?_; rintro e w2 ⟨rfl, rfl⟩)
            | (go_at_call 98; refine (HK.out _).mono ?_; rintro e w2 ⟨rfl, rfl⟩)
            )
          all_goals (go_ret; exact ⟨by rw [HV.out]; rfl, HB.out⟩)
      | false =>
        have HV : Hid (C = 2) := Lib.hid (by rw [HC.out]; simp [*])
        clear HC
        go_enter Tryz.func59, Tryz.ntmps59
        go_wp2_with (first
          | (go_at_call 78; with_reducible refine (HN.out _ HB.out).mono ?_; rintro e w1 ⟨rfl, hb⟩; have hx := (hb.block w.heap.size (lt_of_block HX.out)).trans HX.out; have r0 := obj_cell hx 0; have r1 := obj_cell hx 1; have r2 := obj_cell hx 2; have r3 := obj_cell hx 3; have r4 := obj_cell hx 4; have r5 := obj_cell hx 5; have r6 := obj_cell hx 6; replace HX := Lib.hid hx; replace HB := Lib.hid (HB.out.trans (hb.mono HB.out.size)); clear hb hx)
          | (go_at_call 78; with_reducible refine (HO.out _ HB.out).mono ?_; rintro e w1 ⟨rfl, hb⟩; have hx := (hb.block w.heap.size (lt_of_block HX.out)).trans HX.out; have r0 := obj_cell hx 0; have r1 := obj_cell hx 1; have r2 := obj_cell hx 2; have r3 := obj_cell hx 3; have r4 := obj_cell hx 4; have r5 := obj_cell hx 5; have r6 := obj_cell hx 6; replace HX := Lib.hid hx; replace HB := Lib.hid (HB.out.trans (hb.mono HB.out.size)); clear hb hx)
          | (go_at_call 96; with_reducible refine (HR.out _ HB.out).mono ?_; rintro e w1 ⟨rfl, hb⟩; have hx := (hb.block w.heap.size (lt_of_block HX.out)).trans HX.out; have r0 := obj_cell hx 0; have r1 := obj_cell hx 1; have r2 := obj_cell hx 2; have r3 := obj_cell hx 3; have r4 := obj_cell hx 4; have r5 := obj_cell hx 5; have r6 := obj_cell hx 6; replace HX := Lib.hid hx; replace HB := Lib.hid (HB.out.trans (hb.mono HB.out.size)); clear hb hx)
          | (go_at_call 99; with_reducible refine (HM.out _ HB.out).mono ?_; rintro e w1 ⟨rfl, hb⟩; have hx := (hb.block w.heap.size (lt_of_block HX.out)).trans HX.out; have r0 := obj_cell hx 0; have r1 := obj_cell hx 1; have r2 := obj_cell hx 2; have r3 := obj_cell hx 3; have r4 := obj_cell hx 4; have r5 := obj_cell hx 5; have r6 := obj_cell hx 6; replace HX := Lib.hid hx; replace HB := Lib.hid (HB.out.trans (hb.mono HB.out.size)); clear hb hx)
          | (go_at_call 97; refine (HF.out _).mono ?_; rintro e w2 ⟨rfl, rfl⟩)
          | (go_at_call 98; refine (HK.out _).mono ?_; rintro e w2 ⟨rfl, rfl⟩)
          )
        all_goals (go_ret; exact ⟨by rw [HV.out]; rfl, HB.out⟩)
    | false =>
      have o3 : ¬ so.toList = [] := (fun e => by rw [e] at hoe; cases hoe)
      have o2 : so.toList.isEmpty = false := by rw [List.isEmpty_eq_false_iff]; intro e; rw [e] at hoe; cases hoe
      cases bo with
      | true =>
        cases rb with
        | true =>
          cases fb with
          | true =>
            cases kb with
            | true =>
              cases rep with
              | true =>
                have HV : Hid (C = 1) := Lib.hid (by rw [HC.out]; simp [*])
                clear HC
                go_enter Tryz.func59, Tryz.ntmps59
                go_wp2_with (first
                  | (go_at_call 78; with_reducible refine (HN.out _ HB.out).mono ?_; rintro e w1 ⟨rfl, hb⟩; have hx := (hb.block w.heap.size (lt_of_block HX.out)).trans HX.out; have r0 := obj_cell hx 0; have r1 := obj_cell hx 1; have r2 := obj_cell hx 2; have r3 := obj_cell hx 3; have r4 := obj_cell hx 4; have r5 := obj_cell hx 5; have r6 := obj_cell hx 6; replace HX := Lib.hid hx; replace HB := Lib.hid (HB.out.trans (hb.mono HB.out.size)); clear hb hx)
                  | (go_at_call 78; with_reducible refine (HO.out _ HB.out).mono ?_; rintro e w1 ⟨rfl, hb⟩; have hx := (hb.block w.heap.size (lt_of_block HX.out)).trans HX.out; have r0 := obj_cell hx 0; have r1 := obj_cell hx 1; have r2 := obj_cell hx 2; have r3 := obj_cell hx 3; have r4 := obj_cell hx 4; have r5 := obj_cell hx 5; have r6 := obj_cell hx 6; replace HX := Lib.hid hx; replace HB := Lib.hid (HB.out.trans (hb.mono HB.out.size)); clear hb hx)
                  | (go_at_call 96; with_reducible refine (HR.out _ HB.out).mono ?_; rintro e w1 ⟨rfl, hb⟩; have hx := (hb.block w.heap.size (lt_of_block HX.out)).trans HX.out; have r0 := obj_cell hx 0; have r1 := obj_cell hx 1; have r2 := obj_cell hx 2; have r3 := obj_cell hx 3; have r4 := obj_cell hx 4; have r5 := obj_cell hx 5; have r6 := obj_cell hx 6; replace HX := Lib.hid hx; replace HB := Lib.hid (HB.out.trans (hb.mono HB.out.size)); clear hb hx)
                  | (go_at_call 99; with_reducible refine (HM.out _ HB.out).mono ?_; rintro e w1 ⟨rfl, hb⟩; have hx := (hb.block w.heap.size (lt_of_block HX.out)).trans HX.out; have r0 := obj_cell hx 0; have r1 := obj_cell hx 1; have r2 := obj_cell hx 2; have r3 := obj_cell hx 3; have r4 := obj_cell hx 4; have r5 := obj_cell hx 5; have r6 := obj_cell hx 6; replace HX := Lib.hid hx; replace HB := Lib.hid (HB.out.trans (hb.mono HB.out.size)); clear hb hx)
                  | (go_at_call 97; refine (HF.out _).mono ?_; rintro e w2 ⟨rfl, rfl⟩)
                  | (go_at_call 98; refine (HK.out _).mono ?_; rintro e w2 ⟨rfl, rfl⟩)
                  )
                all_goals (go_ret; exact ⟨by rw [HV.out]; rfl, HB.out⟩)
              | false =>
                cases loose with
                | true =>
                  cases mb with
                  | true =>
                    have HV : Hid (C = 0) := Lib.hid (by rw [HC.out]; simp [*])
                    clear HC
                    go_enter Tryz.func59, Tryz.ntmps59
                    go_wp2_with (first
                      | (go_at_call 78; with_reducible refine (HN.out _ HB.out).mono ?_; rintro e w1 ⟨rfl, hb⟩; have hx := (hb.block w.heap.size (lt_of_block HX.out)).trans HX.out; have r0 := obj_cell hx 0; have r1 := obj_cell hx 1; have r2 := obj_cell hx 2; have r3 := obj_cell hx 3; have r4 := obj_cell hx 4; have r5 := obj_cell hx 5; have r6 := obj_cell hx 6; replace HX := Lib.hid hx; replace HB := Lib.hid (HB.out.trans (hb.mono HB.out.size)); clear hb hx)
                      | (go_at_call 78; with_reducible refine (HO.out _ HB.out).mono ?_; rintro e w1 ⟨rfl, hb⟩; have hx := (hb.block w.heap.size (lt_of_block HX.out)).trans HX.out; have r0 := obj_cell hx 0; have r1 := obj_cell hx 1; have r2 := obj_cell hx 2; have r3 := obj_cell hx 3; have r4 := obj_cell hx 4; have r5 := obj_cell hx 5; have r6 := obj_cell hx 6; replace HX := Lib.hid hx; replace HB := Lib.hid (HB.out.trans (hb.mono HB.out.size)); clear hb hx)
                      | (go_at_call 96; with_reducible refine (HR.out _ HB.out).mono ?_; rintro e w1 ⟨rfl, hb⟩; have hx := (hb.block w.heap.size (lt_of_block HX.out)).trans HX.out; have r0 := obj_cell hx 0; have r1 := obj_cell hx 1; have r2 := obj_cell hx 2; have r3 := obj_cell hx 3; have r4 := obj_cell hx 4; have r5 := obj_cell hx 5; have r6 := obj_cell hx 6; replace HX := Lib.hid hx; replace HB := Lib.hid (HB.out.trans (hb.mono HB.out.size)); clear hb hx)
                      | (go_at_call 99; with_reducible refine (HM.out _ HB.out).mono ?_; rintro e w1 ⟨rfl, hb⟩; have hx := (hb.block w.heap.size (lt_of_block HX.out)).trans HX.out; have r0 := obj_cell hx 0; have r1 := obj_cell hx 1; have r2 := obj_cell hx 2; have r3 := obj_cell hx 3; have r4 := obj_cell hx 4; have r5 := obj_cell hx 5; have r6 := obj_cell hx 6; replace HX := Lib.hid hx; replace HB := Lib.hid (HB.out.trans (hb.mono HB.out.size)); clear hb hx)
                      | (go_at_call 97; refine (HF.out _).mono ?_; rintro e w2 ⟨rfl, rfl⟩)
                      | (go_at_call 98; refine (HK.out _).mono ?_; rintro e w2 ⟨rfl, rfl⟩)
                      )
                    all_goals (go_ret; exact ⟨by rw [HV.out]; rfl, HB.out⟩)
                  | false =>
                    have HV : Hid (C = 1) := Lib.hid (by rw [HC.out]; simp [*])
                    clear HC
                    go_enter Tryz.func59, Tryz.ntmps59
                    go_wp2_with (first
                      | (go_at_call 78; with_reducible refine (HN.out _ HB.out).mono ?_; rintro e w1 ⟨rfl, hb⟩; have hx := (hb.block w.heap.size (lt_of_block HX.out)).trans HX.out; have r0 := obj_cell hx 0; have r1 := obj_cell hx 1; have r2 := obj_cell hx 2; have r3 := obj_cell hx 3; have r4 := obj_cell hx 4; have r5 := obj_cell hx 5; have r6 := obj_cell hx 6; replace HX := Lib.hid hx; replace HB := Lib.hid (HB.out.trans (hb.mono HB.out.size)); clear hb hx)
                      | (go_at_call 78; with_reducible refine (HO.out _ HB.out).mono ?_; rintro e w1 ⟨rfl, hb⟩; have hx := (hb.block w.heap.size (lt_of_block HX.out)).trans HX.out; have r0 := obj_cell hx 0; have r1 := obj_cell hx 1; have r2 := obj_cell hx 2; have r3 := obj_cell hx 3; have r4 := obj_cell hx 4; have r5 := obj_cell hx 5; have r6 := obj_cell hx 6; replace HX := Lib.hid hx; replace HB := Lib.hid (HB.out.trans (hb.mono HB.out.size)); clear hb hx)
                      | (go_at_call 96; with_reducible refine (HR.out _ HB.out).mono ?_; rintro e w1 ⟨rfl, hb⟩; have hx := (hb.block w.heap.size (lt_of_block HX.out)).trans HX.out; have r0 := obj_cell hx 0; have r1 := obj_cell hx 1; have r2 := obj_cell hx 2; have r3 := obj_cell hx 3; have r4 := obj_cell hx 4; have r5 := obj_cell hx 5; have r6 := obj_cell hx 6; replace HX := Lib.hid hx; replace HB := Lib.hid (HB.out.trans (hb.mono HB.out.size)); clear hb hx)
                      | (go_at_call 99; with_reducible refine (HM.out _ HB.out).mono ?_; rintro e w1 ⟨rfl, hb⟩; have hx := (hb.block w.heap.size (lt_of_block HX.out)).trans HX.out; have r0 := obj_cell hx 0; have r1 := obj_cell hx 1; have r2 := obj_cell hx 2; have r3 := obj_cell hx 3; have r4 := obj_cell hx 4; have r5 := obj_cell hx 5; have r6 := obj_cell hx 6; replace HX := Lib.hid hx; replace HB := Lib.hid (HB.out.trans (hb.mono HB.out.size)); clear hb hx)
                      | (go_at_call 97; refine (HF.out _).mono ?_; rintro e w2 ⟨rfl, rfl⟩)
                      | (go_at_call 98; refine (HK.out _).mono ?_; rintro e w2 ⟨rfl, rfl⟩)
                      )
                    all_goals (go_ret; exact ⟨by rw [HV.out]; rfl, HB.out⟩)
                | false =>
                  have HV : Hid (C = 0) := Lib.hid (by rw [HC.out]; simp [*])
                  clear HC
                  go_enter Tryz.func59, Tryz.ntmps59
                  go_wp2_with (first
                    | (go_at_call 78; with_reducible refine (HN.out _ HB.out).mono ?_; rintro e w1 ⟨rfl, hb⟩; have hx := (hb.block w.heap.size (lt_of_block HX.out)).trans HX.out; have r0 := obj_cell hx 0; have r1 := obj_cell hx 1; have r2 := obj_cell hx 2; have r3 := obj_cell hx 3; have r4 := obj_cell hx 4; have r5 := obj_cell hx 5; have r6 := obj_cell hx 6; replace HX := Lib.hid hx; replace HB := Lib.hid (HB.out.trans (hb.mono HB.out.size)); clear hb hx)
                    | (go_at_call 78; with_reducible refine (HO.out _ HB.out).mono ?_; rintro e w1 ⟨rfl, hb⟩; have hx := (hb.block w.heap.size (lt_of_block HX.out)).trans HX.out; have r0 := obj_cell hx 0; have r1 := obj_cell hx 1; have r2 := obj_cell hx 2; have r3 := obj_cell hx 3; have r4 := obj_cell hx 4; have r5 := obj_cell hx 5; have r6 := obj_cell hx 6; replace HX := Lib.hid hx; replace HB := Lib.hid (HB.out.trans (hb.mono HB.out.size)); clear hb hx)
                    | (go_at_call 96; with_reducible refine (HR.out _ HB.out).mono ?_; rintro e w1 ⟨rfl, hb⟩; have hx := (hb.block w.heap.size (lt_of_block HX.out)).trans HX.out; have r0 := obj_cell hx 0; have r1 := obj_cell hx 1; have r2 := obj_cell hx 2; have r3 := obj_cell hx 3; have r4 := obj_cell hx 4; have r5 := obj_cell hx 5; have r6 := obj_cell hx 6; replace HX := Lib.hid hx; replace HB := Lib.hid (HB.out.trans (hb.mono HB.out.size)); clear hb hx)
                    | (go_at_call 99; with_reducible refine (HM.out _ HB.out).mono ?_; rintro e w1 ⟨rfl, hb⟩; have hx := (hb.block w.heap.size (lt_of_block HX.out)).trans HX.out; have r0 := obj_cell hx 0; have r1 := obj_cell hx 1; have r2 := obj_cell hx 2; have r3 := obj_cell hx 3; have r4 := obj_cell hx 4; have r5 := obj_cell hx 5; have r6 := obj_cell hx 6; replace HX := Lib.hid hx; replace HB := Lib.hid (HB.out.trans (hb.mono HB.out.size)); clear hb hx)
                    | (go_at_call 97; refine (HF.out _).mono ?_; rintro e w2 ⟨rfl, rfl⟩)
                    | (go_at_call 98; refine (HK.out _).mono ?_; rintro e w2 ⟨rfl, rfl⟩)
                    )
                  all_goals (go_ret; exact ⟨by rw [HV.out]; rfl, HB.out⟩)
            | false =>
              have HV : Hid (C = 1) := Lib.hid (by rw [HC.out]; simp [*])
              clear HC
              go_enter Tryz.func59, Tryz.ntmps59
              go_wp2_with (first
                | (go_at_call 78; with_reducible refine (HN.out _ HB.out).mono ?_; rintro e w1 ⟨rfl, hb⟩; have hx := (hb.block w.heap.size (lt_of_block HX.out)).trans HX.out; have r0 := obj_cell hx 0; have r1 := obj_cell hx 1; have r2 := obj_cell hx 2; have r3 := obj_cell hx 3; have r4 := obj_cell hx 4; have r5 := obj_cell hx 5; have r6 := obj_cell hx 6; replace HX := Lib.hid hx; replace HB := Lib.hid (HB.out.trans (hb.mono HB.out.size)); clear hb hx)
                | (go_at_call 78; with_reducible refine (HO.out _ HB.out).mono ?_; rintro e w1 ⟨rfl, hb⟩; have hx := (hb.block w.heap.size (lt_of_block HX.out)).trans HX.out; have r0 := obj_cell hx 0; have r1 := obj_cell hx 1; have r2 := obj_cell hx 2; have r3 := obj_cell hx 3; have r4 := obj_cell hx 4; have r5 := obj_cell hx 5; have r6 := obj_cell hx 6; replace HX := Lib.hid hx; replace HB := Lib.hid (HB.out.trans (hb.mono HB.out.size)); clear hb hx)
                | (go_at_call 96; with_reducible refine (HR.out _ HB.out).mono ?_; rintro e w1 ⟨rfl, hb⟩; have hx := (hb.block w.heap.size (lt_of_block HX.out)).trans HX.out; have r0 := obj_cell hx 0; have r1 := obj_cell hx 1; have r2 := obj_cell hx 2; have r3 := obj_cell hx 3; have r4 := obj_cell hx 4; have r5 := obj_cell hx 5; have r6 := obj_cell hx 6; replace HX := Lib.hid hx; replace HB := Lib.hid (HB.out.trans (hb.mono HB.out.size)); clear hb hx)
                | (go_at_call 99; with_reducible refine (HM.out _ HB.out).mono ?_; rintro e w1 ⟨rfl, hb⟩; have hx := (hb.block w.heap.size (lt_of_block HX.out)).trans HX.out; have r0 := obj_cell hx 0; have r1 := obj_cell hx 1; have r2 := obj_cell hx 2; have r3 := obj_cell hx 3; have r4 := obj_cell hx 4; have r5 := obj_cell hx 5; have r6 := obj_cell hx 6; replace HX := Lib.hid hx; replace HB := Lib.hid (HB.out.trans (hb.mono HB.out.size)); clear hb hx)
                | (go_at_call 97; refine (HF.out _).mono ?_; rintro e w2 ⟨rfl, rfl⟩)
                | (go_at_call 98; refine (HK.out _).mono ?_; rintro e w2 ⟨rfl, rfl⟩)
                )
              all_goals (go_ret; exact ⟨by rw [HV.out]; rfl, HB.out⟩)
          | false =>
            have HV : Hid (C = 1) := Lib.hid (by rw [HC.out]; simp [*])
            clear HC
            go_enter Tryz.func59, Tryz.ntmps59
            go_wp2_with (first
              | (go_at_call 78; with_reducible refine (HN.out _ HB.out).mono ?_; rintro e w1 ⟨rfl, hb⟩; have hx := (hb.block w.heap.size (lt_of_block HX.out)).trans HX.out; have r0 := obj_cell hx 0; have r1 := obj_cell hx 1; have r2 := obj_cell hx 2; have r3 := obj_cell hx 3; have r4 := obj_cell hx 4; have r5 := obj_cell hx 5; have r6 := obj_cell hx 6; replace HX := Lib.hid hx; replace HB := Lib.hid (HB.out.trans (hb.mono HB.out.size)); clear hb hx)
              | (go_at_call 78; with_reducible refine (HO.out _ HB.out).mono ?_; rintro e w1 ⟨rfl, hb⟩; have hx := (hb.block w.heap.size (lt_of_block HX.out)).trans HX.out; have r0 := obj_cell hx 0; have r1 := obj_cell hx 1; have r2 := obj_cell hx 2; have r3 := obj_cell hx 3; have r4 := obj_cell hx 4; have r5 := obj_cell hx 5; have r6 := obj_cell hx 6; replace HX := Lib.hid hx; replace HB := Lib.hid (HB.out.trans (hb.mono HB.out.size)); clear hb hx)
              | (go_at_call 96; with_reducible refine (HR.out _ HB.out).mono ?_; rintro e w1 ⟨rfl, hb⟩; have hx := (hb.block w.heap.size (lt_of_block HX.out)).trans HX.out; have r0 := obj_cell hx 0; have r1 := obj_cell hx 1; have r2 := obj_cell hx 2; have r3 := obj_cell hx 3; have r4 := obj_cell hx 4; have r5 := obj_cell hx 5; have r6 := obj_cell hx 6; replace HX := Lib.hid hx; replace HB := Lib.hid (HB.out.trans (hb.mono HB.out.size)); clear hb hx)
              | (go_at_call 99; with_reducible refine (HM.out _ HB.out).mono ?_; rintro e w1 ⟨rfl, hb⟩; have hx := (hb.block w.heap.size (lt_of_block HX.out)).trans HX.out; have r0 := obj_cell hx 0; have r1 := obj_cell hx 1; have r2 := obj_cell hx 2; have r3 := obj_cell hx 3; have r4 := obj_cell hx 4; have r5 := obj_cell hx 5; have r6 := obj_cell hx 6; replace HX := Lib.hid hx; replace HB := Lib.hid (HB.out.trans (hb.mono HB.out.size)); clear hb hx)
              | (go_at_call 97; refine (HF.out _).mono ?_; rintro e w2 ⟨rfl, rfl⟩)
              | (go_at_call 98; refine (HK.out _).mono ?_; rintro e w2 ⟨rfl, rfl⟩)
              )
            all_goals (go_ret; exact ⟨by rw [HV.out]; rfl, HB.out⟩)
        | false =>
          have HV : Hid (C = 2) := Lib.hid (by rw [HC.out]; simp [*])
          clear HC
          go_enter Tryz.func59, Tryz.ntmps59
          go_wp2_with (first
            | (go_at_call 78; with_reducible refine (HN.out _ HB.out).mono ?_; rintro e w1 ⟨rfl, hb⟩; have hx := (hb.block w.heap.size (lt_of_block HX.out)).trans HX.out; have r0 := obj_cell hx 0; have r1 := obj_cell hx 1; have r2 := obj_cell hx 2; have r3 := obj_cell hx 3; have r4 := obj_cell hx 4; have r5 := obj_cell hx 5; have r6 := obj_cell hx 6; replace HX := Lib.hid hx; replace HB := Lib.hid (HB.out.trans (hb.mono HB.out.size)); clear hb hx)
            | (go_at_call 78; with_reducible refine (HO.out _ HB.out).mono ?_; rintro e w1 ⟨rfl, hb⟩; have hx := (hb.block w.heap.size (lt_of_block HX.out)).trans HX.out; have r0 := obj_cell hx 0; have r1 := obj_cell hx 1; have r2 := obj_cell hx 2; have r3 := obj_cell hx 3; have r4 := obj_cell hx 4; have r5 := obj_cell hx 5; have r6 := obj_cell hx 6; replace HX := Lib.hid hx; replace HB := Lib.hid (HB.out.trans (hb.mono HB.out.size)); clear hb hx)
            | (go_at_call 96; with_reducible refine (HR.out _ HB.out).mono ?_; rintro e w1 ⟨rfl, hb⟩; have hx := (hb.block w.heap.size (lt_of_block HX.out)).trans HX.out; have r0 := obj_cell hx 0; have r1 := obj_cell hx 1; have r2 := obj_cell hx 2; have r3 := obj_cell hx 3; have r4 := obj_cell hx 4; have r5 := obj_cell hx 5; have r6 := obj_cell hx 6; replace HX := Lib.hid hx; replace HB := Lib.hid (HB.out.trans (hb.mono HB.out.size)); clear hb hx)
            | (go_at_call 99; with_reducible refine (HM.out _ HB.out).mono ?_; rintro e w1 ⟨rfl, hb⟩; have hx := (hb.block w.heap.size (lt_of_block HX.out)).trans HX.out; have r0 := obj_cell hx 0; have r1 := obj_cell hx 1; have r2 := obj_cell hx 2; have r3 := obj_cell hx 3; have r4 := obj_cell hx 4; have r5 := obj_cell hx 5; have r6 := obj_cell hx 6; replace HX := Lib.hid hx; replace HB := Lib.hid (HB.out.trans (hb.mono HB.out.size)); clear hb hx)
            | (go_at_call 97; refine (HF.out _).mono ?_; rintro e w2 ⟨rfl, rfl⟩)
            | (go_at_call 98; refine (HK.out _).mono ?_; rintro e w2 ⟨rfl, rfl⟩)
            )
          all_goals (go_ret; exact ⟨by rw [HV.out]; rfl, HB.out⟩)
      | false =>
        have HV : Hid (C = 2) := Lib.hid (by rw [HC.out]; simp [*])
        clear HC
        go_enter Tryz.func59, Tryz.ntmps59
        go_wp2_with (first
          | (go_at_call 78; with_reducible refine (HN.out _ HB.out).mono ?_; rintro e w1 ⟨rfl, hb⟩; have hx := (hb.block w.heap.size (lt_of_block HX.out)).trans HX.out; have r0 := obj_cell hx 0; have r1 := obj_cell hx 1; have r2 := obj_cell hx 2; have r3 := obj_cell hx 3; have r4 := obj_cell hx 4; have r5 := obj_cell hx 5; have r6 := obj_cell hx 6; replace HX := Lib.hid hx; replace HB := Lib.hid (HB.out.trans (hb.mono HB.out.size)); clear hb hx)
          | (go_at_call 78; with_reducible refine (HO.out _ HB.out).mono ?_; rintro e w1 ⟨rfl, hb⟩; have hx := (hb.block w.heap.size (lt_of_block HX.out)).trans HX.out; have r0 := obj_cell hx 0; have r1 := obj_cell hx 1; have r2 := obj_cell hx 2; have r3 := obj_cell hx 3; have r4 := obj_cell hx 4; have r5 := obj_cell hx 5; have r6 := obj_cell hx 6; replace HX := Lib.hid hx; replace HB := Lib.hid (HB.out.trans (hb.mono HB.out.size)); clear hb hx)
          | (go_at_call 96; with_reducible refine (HR.out _ HB.out).mono ?_; rintro e w1 ⟨rfl, hb⟩; have hx := (hb.block w.heap.size (lt_of_block HX.out)).trans HX.out; have r0 := obj_cell hx 0; have r1 := obj_cell hx 1; have r2 := obj_cell hx 2; have r3 := obj_cell hx 3; have r4 := obj_cell hx 4; have r5 := obj_cell hx 5; have r6 := obj_cell hx 6; replace HX := Lib.hid hx; replace HB := Lib.hid (HB.out.trans (hb.mono HB.out.size)); clear hb hx)
          | (go_at_call 99; with_reducible refine (HM.out _ HB.out).mono ?_; rintro e w1 ⟨rfl, hb⟩; have hx := (hb.block w.heap.size (lt_of_block HX.out)).trans HX.out; have r0 := obj_cell hx 0; have r1 := obj_cell hx 1; have r2 := obj_cell hx 2; have r3 := obj_cell hx 3; have r4 := obj_cell hx 4; have r5 := obj_cell hx 5; have r6 := obj_cell hx 6; replace HX := Lib.hid hx; replace HB := Lib.hid (HB.out.trans (hb.mono HB.out.size)); clear hb hx)
          | (go_at_call 97; refine (HF.out _).mono ?_; rintro e w2 ⟨rfl, rfl⟩)
          | (go_at_call 98; refine (HK.out _).mono ?_; rintro e w2 ⟨rfl, rfl⟩)
          )
        all_goals (go_ret; exact ⟨by rw [HV.out]; rfl, HB.out⟩)
  | false =>
    have HV : Hid (C = 2) := Lib.hid (by rw [HC.out]; simp [*])
    clear HC
    go_enter Tryz.func59, Tryz.ntmps59
    go_wp2_with (first
      | (go_at_call 78; with_reducible refine (HN.out _ HB.out).mono ?_; rintro e w1 ⟨rfl, hb⟩; have hx := (hb.block w.heap.size (lt_of_block HX.out)).trans HX.out; have r0 := obj_cell hx 0; have r1 := obj_cell hx 1; have r2 := obj_cell hx 2; have r3 := obj_cell hx 3; have r4 := obj_cell hx 4; have r5 := obj_cell hx 5; have r6 := obj_cell hx 6; replace HX := Lib.hid hx; replace HB := Lib.hid (HB.out.trans (hb.mono HB.out.size)); clear hb hx)
      | (go_at_call 78; with_reducible refine (HO.out _ HB.out).mono ?_; rintro e w1 ⟨rfl, hb⟩; have hx := (hb.block w.heap.size (lt_of_block HX.out)).trans HX.out; have r0 := obj_cell hx 0; have r1 := obj_cell hx 1; have r2 := obj_cell hx 2; have r3 := obj_cell hx 3; have r4 := obj_cell hx 4; have r5 := obj_cell hx 5; have r6 := obj_cell hx 6; replace HX := Lib.hid hx; replace HB := Lib.hid (HB.out.trans (hb.mono HB.out.size)); clear hb hx)
      | (go_at_call 96; with_reducible refine (HR.out _ HB.out).mono ?_; rintro e w1 ⟨rfl, hb⟩; have hx := (hb.block w.heap.size (lt_of_block HX.out)).trans HX.out; have r0 := obj_cell hx 0; have r1 := obj_cell hx 1; have r2 := obj_cell hx 2; have r3 := obj_cell hx 3; have r4 := obj_cell hx 4; have r5 := obj_cell hx 5; have r6 := obj_cell hx 6; replace HX := Lib.hid hx; replace HB := Lib.hid (HB.out.trans (hb.mono HB.out.size)); clear hb hx)
      | (go_at_call 99; with_reducible refine (HM.out _ HB.out).mono ?_; rintro e w1 ⟨rfl, hb⟩; have hx := (hb.block w.heap.size (lt_of_block HX.out)).trans HX.out; have r0 := obj_cell hx 0; have r1 := obj_cell hx 1; have r2 := obj_cell hx 2; have r3 := obj_cell hx 3; have r4 := obj_cell hx 4; have r5 := obj_cell hx 5; have r6 := obj_cell hx 6; replace HX := Lib.hid hx; replace HB := Lib.hid (HB.out.trans (hb.mono HB.out.size)); clear hb hx)
      | (go_at_call 97; refine (HF.out _).mono ?_; rintro e w2 ⟨rfl, rfl⟩)
      | (go_at_call 98; refine (HK.out _).mono ?_; rintro e w2 ⟨rfl, rfl⟩)
      )
    all_goals (go_ret; exact ⟨by rw [HV.out]; rfl, HB.out⟩)

/-- What the layer wants of the world. -/
def FlEnv (w : World) : Prop := ScEnv w ∧ DecEnv w
theorem FlEnv.float {w w' : World} (h : FlEnv w) (hb : Below w.heap.size w w') : FlEnv w' := ⟨h.1.rides hb, h.2.along hb⟩
theorem fpnamed_any (ty : Int) (w : World) : Calls Tryz.prog 100 #[.int .i64 ty] w fun e w' => e = .returned (.bool (decide (ty = 14 ∨ ty = 15))) ∧ w = w' := by
  obtain ⟨r, hr⟩ : ∃ r, r = decide (ty = 14 ∨ ty = 15) := ⟨_, rfl⟩
  rw [← hr]
  by_cases h14 : ty = 14
  · subst h14
    rw [decide_eq_true (.inl rfl)] at hr
    subst hr
    go_enter Tryz.func100, Tryz.ntmps100
    go_wp2
    go_ret
    exact ⟨rfl, rfl⟩
  · have e14 : (ty == 14) = false := beq_false_of_ne h14
    by_cases h15 : ty = 15
    · subst h15
      rw [decide_eq_true (.inr rfl)] at hr
      subst hr
      go_enter Tryz.func100, Tryz.ntmps100
      go_wp2
      go_ret
      exact ⟨rfl, rfl⟩
    · have e15 : (ty == 15) = false := beq_false_of_ne h15
      rw [decide_eq_false (fun e => e.elim h14 h15)] at hr
      subst hr
      go_enter Tryz.func100, Tryz.ntmps100
      go_wp2
      go_ret
      exact ⟨rfl, rfl⟩
theorem fpknown_any (ty : Int) (w : World) : Calls Tryz.prog 98 #[.int .i64 ty] w fun e w' => e = .returned (.bool (decide (1 ≤ ty) && decide (ty ≤ 15))) ∧ w = w' := by
  cases h1 : decide (1 ≤ ty) <;> cases h2 : decide (ty ≤ 15)
  all_goals
    go_enter Tryz.func98, Tryz.ntmps98
    go_wp2
    go_ret
    exact ⟨rfl, rfl⟩
theorem fpmany_any (f : Fd) (w : World) (env : ScEnv w) : Calls Tryz.prog 99 #[fdV f] w fun e w' => e = .returned (.bool (f.rep && numberT f.ty)) ∧ Below w.heap.size w w' := by
  have HM := Lib.hid (fun u hb => pnumber_any f.ty u (env.rides (w' := u) hb))
  have HB : Hid (∀ o, Below w.heap.size w (w.alloc o)) := Lib.hid (fun o => (Below.refl _ w).alloc (Nat.le_refl _) o)
  obtain ⟨name, num, ty, ref, rep, loose, one⟩ := f
  unfold fdV
  dsimp only at HM ⊢
  obtain ⟨nb, hnb⟩ : ∃ nb, nb = numberT ty := ⟨_, rfl⟩
  rw [← hnb] at HM ⊢
  clear hnb env
  cases rep
  · go_enter Tryz.func99, Tryz.ntmps99
    go_wp2
    go_ret
    exact ⟨rfl, HB.out _⟩
  · go_enter Tryz.func99, Tryz.ntmps99
    go_wp2_with (go_at_call 133; refine (HM.out _ (HB.out _)).mono ?_; rintro e w2 ⟨rfl, hb⟩; have HB2 := Lib.hid ((HB.out _).trans (hb.mono (HB.out _).size)); clear hb)
    go_ret
    exact ⟨rfl, HB2.out⟩
theorem fprefers_any (f : Fd) (w : World) : Calls Tryz.prog 96 #[fdV f] w fun e w' => e = .returned (.bool (if f.ty = 14 ∨ f.ty = 15 then nameB f.ref else decide (f.ref = []))) ∧ Below w.heap.size w w' := by
  have HN := Lib.hid (fun u => fpnamed_any f.ty u)
  have HR := Lib.hid (fun u => pright_any u f.ref)
  have HB : Hid (∀ o, Below w.heap.size w (w.alloc o)) := Lib.hid (fun o => (Below.refl _ w).alloc (Nat.le_refl _) o)
  have he := empty_facts f.ref
  obtain ⟨name, num, ty, ref, rep, loose, one⟩ := f
  unfold fdV
  dsimp only at HN HR he ⊢
  obtain ⟨rb, hrb⟩ : ∃ rb, rb = nameB ref := ⟨_, rfl⟩
  obtain ⟨re, hre⟩ : ∃ re, re = decide (ref = []) := ⟨_, rfl⟩
  obtain ⟨sr, hsr⟩ : ∃ sr, sr = strOf ref := ⟨_, rfl⟩
  rw [← hrb, ← hsr] at HR
  rw [← hre, ← hsr] at he
  rw [← hrb, ← hre, ← hsr]
  clear hrb hre hsr
  by_cases h : ty = 14 ∨ ty = 15
  · rw [decide_eq_true h] at HN
    rw [if_pos h]
    clear h
    go_enter Tryz.func96, Tryz.ntmps96
    go_wp2_with (first
      | (go_at_call 100; refine (HN.out _).mono ?_; rintro e w2 ⟨rfl, rfl⟩)
      | (go_at_call 78; refine (HR.out _).mono ?_; rintro e w2 ⟨rfl, hb⟩; have HB2 := Lib.hid ((HB.out _).trans (hb.mono (HB.out _).size)); clear hb))
    go_ret
    exact ⟨rfl, HB2.out⟩
  · rw [decide_eq_false h] at HN
    rw [if_neg h]
    clear h
    have ho : (re = true ∧ sr.toList = [] ∧ sr.toList.isEmpty = true) ∨ (re = false ∧ ¬ sr.toList = [] ∧ sr.toList.isEmpty = false) := by
      cases re with
      | true => exact .inl ⟨rfl, beq_iff_eq.1 he, by rw [beq_iff_eq.1 he]; rfl⟩
      | false => exact .inr ⟨rfl, (fun e => by rw [e] at he; cases he), (by rw [List.isEmpty_eq_false_iff]; intro e; rw [e] at he; cases he)⟩
    rcases ho with ⟨rfl, o3, o2⟩ | ⟨rfl, o3, o2⟩
    all_goals
      go_enter Tryz.func96, Tryz.ntmps96
      go_wp2_with (go_at_call 100; refine (HN.out _).mono ?_; rintro e w2 ⟨rfl, rfl⟩)
      go_ret
      exact ⟨rfl, HB.out _⟩
def aheadT (f : Fd) : List UInt8 := if f.loose = true then [108, 111, 111, 115, 101, 32] else if f.rep = true then [114, 101, 112, 101, 97, 116, 101, 100, 32] else []
def calledT (f : Fd) : List UInt8 := if f.ty = 14 ∨ f.ty = 15 then f.ref else wordT f.ty
theorem fpahead_any (f : Fd) (w : World) : Calls Tryz.prog 60 #[fdV f] w fun e w' => e = .returned (.string (strOf (aheadT f))) ∧ Below w.heap.size w w' := by
  have HB : Hid (∀ o, Below w.heap.size w (w.alloc o)) := Lib.hid (fun o => (Below.refl _ w).alloc (Nat.le_refl _) o)
  obtain ⟨name, num, ty, ref, rep, loose, one⟩ := f
  unfold fdV aheadT
  dsimp only
  cases loose <;> cases rep
  all_goals
    go_enter Tryz.func60, Tryz.ntmps60
    go_wp2
    go_ret
    exact ⟨rfl, HB.out _⟩
theorem fpword_any (f : Fd) (w : World) (env : FlEnv w) : Calls Tryz.prog 61 #[fdV f] w fun e w' => e = .returned (.string (strOf (calledT f))) ∧ Below w.heap.size w w' := by
  have HN := Lib.hid (fun u => fpnamed_any f.ty u)
  have HW := Lib.hid (fun u hb => pword_any2 f.ty u (env.1.rides (w' := u) hb))
  have HB : Hid (∀ o, Below w.heap.size w (w.alloc o)) := Lib.hid (fun o => (Below.refl _ w).alloc (Nat.le_refl _) o)
  obtain ⟨name, num, ty, ref, rep, loose, one⟩ := f
  unfold fdV calledT
  dsimp only at HN HW ⊢
  clear env
  by_cases h : ty = 14 ∨ ty = 15
  · rw [decide_eq_true h] at HN
    rw [if_pos h]
    clear h
    go_enter Tryz.func61, Tryz.ntmps61
    go_wp2_with (go_at_call 100; refine (HN.out _).mono ?_; rintro e w2 ⟨rfl, rfl⟩)
    go_ret
    exact ⟨rfl, HB.out _⟩
  · rw [decide_eq_false h] at HN
    rw [if_neg h]
    clear h
    go_enter Tryz.func61, Tryz.ntmps61
    go_wp2_with (first
      | (go_at_call 100; refine (HN.out _).mono ?_; rintro e w2 ⟨rfl, rfl⟩)
      | (go_at_call 101; refine (HW.out _ (HB.out _)).mono ?_; rintro e w2 ⟨rfl, hb⟩; have HB2 := Lib.hid ((HB.out _).trans (hb.mono (HB.out _).size)); clear hb))
    go_ret
    exact ⟨rfl, HB2.out⟩
theorem fpcheck_any (f : Fd) (w : World) (env : ScEnv w) : Calls Tryz.prog 59 #[fdV f] w fun e w' => e = .returned (.int .i64 (fcheckT f)) ∧ Below w.heap.size w w' :=
  fpcheck_core w (strOf f.name) (strOf f.ref) (strOf f.one) f.num f.ty f.rep f.loose (nameB f.name) (nameB f.one) (if f.ty = 14 ∨ f.ty = 15 then nameB f.ref else decide (f.ref = [])) (decide (f.one = [])) (fieldB f.num) (decide (1 ≤ f.ty) && decide (f.ty ≤ 15)) (f.rep && numberT f.ty) (fcheckT f)
    (fun u _ => pright_any u f.name) (fun u _ => pright_any u f.one) (fun u _ => fprefers_any f u) (fun u hb => fpmany_any f u (env.rides hb)) (fun u => field_any f.num u) (fun u => fpknown_any f.ty u) (empty_facts f.one)
    (by
      unfold fcheckT
      have e2 : (fc2 f = true) ↔ ((if f.ty = 14 ∨ f.ty = 15 then nameB f.ref else decide (f.ref = [])) = false) := by
        unfold fc2
        by_cases h : f.ty = 14 ∨ f.ty = 15
        · rw [if_pos h, if_pos h]; cases nameB f.ref <;> simp
        · rw [if_neg h, if_neg h]; by_cases g : f.ref = [] <;> simp [g]
      have e1 : fc1 f = (!nameB f.name || (!decide (f.one = []) && !nameB f.one)) := by unfold fc1; rw [ne_not f.one]
      have e3 : fc3 f = (!fieldB f.num || (!(decide (1 ≤ f.ty) && decide (f.ty ≤ 15)) || (f.rep && !decide (f.one = [])))) := by
        unfold fc3
        rw [ne_not f.one]
        have a1 : decide (f.ty < 1) = !decide (1 ≤ f.ty) := by by_cases g : f.ty < 1 <;> simp [g] <;> omega
        have a2 : decide (15 < f.ty) = !decide (f.ty ≤ 15) := by by_cases g : 15 < f.ty <;> simp [g] <;> omega
        rw [a1, a2, Bool.not_and, Bool.or_assoc]
      have e4 : fc4 f = (f.loose && !(f.rep && numberT f.ty)) := by unfold fc4; rw [Bool.not_and]
      rw [e1, e3, e4]
      simp only [e2])
theorem called_ok {f : Fd} (h : fcheckT f = 0) : calledT f = wordT f.ty ++ f.ref := by
  obtain ⟨h1, h2, h3, h4, h5, h6, h7, h8⟩ := fcheck_ok h
  unfold calledT
  rcases h3 with ⟨g, _⟩ | ⟨g, e⟩
  · rw [if_pos g]
    rcases g with g | g <;> (rw [g]; rfl)
  · rw [if_neg g, e, List.append_nil]
theorem text_ahead {f : Fd} (h : fcheckT f = 0) : ftextT f = aheadT f ++ calledT f ++ [32] ++ f.name ++ [32, 61, 32] ++ digitsT f.num.toNat false ++ [59] := by
  unfold ftextT aheadT ftextB
  rw [if_pos h, called_ok h]
  by_cases h1 : f.loose = true
  · rw [if_pos h1, if_pos h1]; simp only [List.append_assoc]
  · rw [if_neg h1, if_neg h1]
    by_cases h2 : f.rep = true
    · rw [if_pos h2, if_pos h2]; simp only [List.append_assoc]
    · rw [if_neg h2, if_neg h2]; simp only [List.append_assoc, List.nil_append]
set_option maxHeartbeats 8000000 in
theorem fptext_any (f : Fd) (w : World) (env : FlEnv w) : Calls Tryz.prog 34 #[fdV f] w fun e w' => e = .returned (.string (strOf (ftextT f))) ∧ Below w.heap.size w w' := by
  have HC := Lib.hid (fun u hb => fpcheck_any f u (env.float (w' := u) hb).1)
  by_cases h0 : fcheckT f = 0
  · obtain ⟨h1, h2, h3, h4, h5, h6, h7, h8⟩ := fcheck_ok h0
    have hn := fieldB_in h4
    have HA := Lib.hid (fun u => fpahead_any f u)
    have HW := Lib.hid (fun u hb => fpword_any f u (env.float (w' := u) hb))
    obtain ⟨m, hm⟩ : ∃ m : Nat, f.num = (m : Int) := ⟨f.num.toNat, by omega⟩
    have HD := Lib.hid (fun u hb => pdigits_any m false u (env.2.along (w' := u) hb) (by omega))
    have hln := nameB_len h1
    have hlr : f.ref.length ≤ 12 := by
      rcases h3 with ⟨_, e⟩ | ⟨_, e⟩
      · exact nameB_len e
      · rw [e]; simp
    have hlw : (calledT f).length ≤ 20 := by rw [called_ok h0, List.length_append]; have := wordT_short f.ty; omega
    have hla : (aheadT f).length ≤ 9 := by unfold aheadT; split <;> (try split) <;> decide
    have hld : (digitsT m false).length ≤ 21 := by
      have := decOf_len64 (n := m) (by omega)
      unfold digitsT
      split
      · simp
      · rw [if_neg (by decide)]; omega
    have HO := Lib.hid (text_ahead h0)
    rw [h0] at HC
    rw [hm, show ((m : Int)).toNat = m from rfl] at HO
    obtain ⟨ta, hta⟩ : ∃ s, s = aheadT f := ⟨_, rfl⟩
    obtain ⟨tw, htw⟩ : ∃ s, s = calledT f := ⟨_, rfl⟩
    obtain ⟨tt, htt⟩ : ∃ s, s = ftextT f := ⟨_, rfl⟩
    rw [← hta] at HA HO hla
    rw [← htw] at HW HO hlw
    rw [← htt] at HO ⊢
    obtain ⟨name, num, ty, ref, rep, loose, one⟩ := f
    dsimp only at hm hn hln hlr HO
    unfold fdV at HC HA HW ⊢
    dsimp only at HC HA HW ⊢
    obtain ⟨sn, hsn⟩ : ∃ s, s = strOf name := ⟨_, rfl⟩
    obtain ⟨sr, hsr⟩ : ∃ s, s = strOf ref := ⟨_, rfl⟩
    obtain ⟨so, hso⟩ : ∃ s, s = strOf one := ⟨_, rfl⟩
    obtain ⟨sa, hsa⟩ : ∃ s, s = strOf ta := ⟨_, rfl⟩
    obtain ⟨sw, hsw⟩ : ∃ s, s = strOf tw := ⟨_, rfl⟩
    obtain ⟨sd, hsd⟩ : ∃ s, s = strOf (digitsT m false) := ⟨_, rfl⟩
    rw [← hsn, ← hsr, ← hso] at HC HA HW ⊢
    rw [← hsa] at HA
    rw [← hsw] at HW
    rw [← hsd] at HD
    have z1 : sn.size ≤ 12 := by rw [hsn, str_size]; exact hln
    have z2 : sa.size ≤ 9 := by rw [hsa, str_size]; exact hla
    have z3 : sw.size ≤ 20 := by rw [hsw, str_size]; exact hlw
    have z4 : sd.size ≤ 21 := by rw [hsd, str_size]; exact hld
    have HT : Hid (strOf tt = sa ++ sw ++ ⟨#[32]⟩ ++ sn ++ ⟨#[32, 61, 32]⟩ ++ sd ++ ⟨#[59]⟩) := Lib.hid (by
      rw [HO.out, hsw, hsa, hsn, hsd, show (⟨#[32]⟩ : ByteArray) = strOf [32] from rfl, show (⟨#[32, 61, 32]⟩ : ByteArray) = strOf [32, 61, 32] from rfl, show (⟨#[59]⟩ : ByteArray) = strOf [59] from rfl]
      simp only [strOf_append])
    have c1 : ¬ 9223372036854775807 < sa.size + sw.size := by omega
    have c2 : ¬ 9223372036854775807 < sa.size + sw.size + 1 := by omega
    have c3 : ¬ 9223372036854775807 < sa.size + sw.size + 1 + sn.size := by omega
    have c4 : ¬ 9223372036854775807 < sa.size + sw.size + 1 + sn.size + 3 := by omega
    have c5 : ¬ 9223372036854775807 < sa.size + sw.size + 1 + sn.size + 3 + sd.size := by omega
    have c6 : ¬ 9223372036854775807 < sa.size + sw.size + 1 + sn.size + 3 + sd.size + 1 := by omega
    have hwm : IntKind.u64.wrap (m : Int) = (m : Int) := by rw [IntKind.wrap_u64]; omega
    have HB : Hid (Below w.heap.size w (w.alloc (.cells #[.string sn, .int .i64 num, .int .i64 ty, .string sr, .bool rep, .bool loose, .string so] 43))) := Lib.hid ((Below.refl _ w).alloc (Nat.le_refl _) _)
    have HX : Hid ((w.alloc (.cells #[.string sn, .int .i64 num, .int .i64 ty, .string sr, .bool rep, .bool loose, .string so] 43)).heap[w.heap.size]? = some (.cells #[.string sn, .int .i64 num, .int .i64 ty, .string sr, .bool rep, .bool loose, .string so] 43 (0, 0))) := Lib.hid (heap_alloc_new w _)
    clear h0 h1 h2 h3 h4 h5 h6 h7 h8 hn hln hlr hlw hld hla hsn hsr hso hsw hsd hsa hta htw htt env HO
    subst hm
    go_enter Tryz.func34, Tryz.ntmps34
    go_wp2_with (go_at_call 59; refine (HC.out _ HB.out).mono ?_; rintro e w1 ⟨rfl, hb⟩; have hx := (hb.block w.heap.size (lt_of_block HX.out)).trans HX.out; have r0 := obj_cell hx 0; have r1 := obj_cell hx 1; have r2 := obj_cell hx 2; have r3 := obj_cell hx 3; have r4 := obj_cell hx 4; have r5 := obj_cell hx 5; have r6 := obj_cell hx 6; replace HX := Lib.hid hx; replace HB := Lib.hid (HB.out.trans (hb.mono HB.out.size)); clear hb hx)
    go_region_held3 (fun w' => w'.cell? ⟨w.heap.size, 0, none⟩ = some (.string sn) ∧ w'.cell? ⟨w.heap.size, 1, none⟩ = some (.int .i64 (m : Int)) ∧ w'.cell? ⟨w.heap.size, 2, none⟩ = some (.int .i64 ty) ∧ w'.cell? ⟨w.heap.size, 3, none⟩ = some (.string sr) ∧ w'.cell? ⟨w.heap.size, 4, none⟩ = some (.bool rep) ∧ w'.cell? ⟨w.heap.size, 5, none⟩ = some (.bool loose) ∧ w'.cell? ⟨w.heap.size, 6, none⟩ = some (.string so))
      (first | exact ⟨r0, r1, r2, r3, r4, r5, r6⟩ | go_keep)
      (first
      | (go_at_call 60; refine (HA.out _).mono ?_; rintro e w1 ⟨rfl, hb⟩; have hx := (hb.block w.heap.size (lt_of_block HX.out)).trans HX.out; have r0 := obj_cell hx 0; have r1 := obj_cell hx 1; have r2 := obj_cell hx 2; have r3 := obj_cell hx 3; have r4 := obj_cell hx 4; have r5 := obj_cell hx 5; have r6 := obj_cell hx 6; have hb' := bel_next HB.out hb rfl rfl rfl rfl (by have := HB.out.size; omega); replace HX := Lib.hid hx; replace HB := Lib.hid hb'; clear hb hx hb')
      | (go_at_call 61; refine (HW.out _ (by first | exact HB.out | exact HB.out.drew)).mono ?_; rintro e w1 ⟨rfl, hb⟩; have hx := (hb.block w.heap.size (lt_of_block HX.out)).trans HX.out; have r0 := obj_cell hx 0; have r1 := obj_cell hx 1; have r2 := obj_cell hx 2; have r3 := obj_cell hx 3; have r4 := obj_cell hx 4; have r5 := obj_cell hx 5; have r6 := obj_cell hx 6; have hb' := bel_next HB.out hb rfl rfl rfl rfl (by have := HB.out.size; omega); replace HX := Lib.hid hx; replace HB := Lib.hid hb'; clear hb hx hb')
      | (go_at_call 62; refine (HD.out _ (by first | exact HB.out | exact HB.out.drew)).mono ?_; rintro e w1 ⟨rfl, hb⟩; have hx := (hb.block w.heap.size (lt_of_block HX.out)).trans HX.out; have r0 := obj_cell hx 0; have r1 := obj_cell hx 1; have r2 := obj_cell hx 2; have r3 := obj_cell hx 3; have r4 := obj_cell hx 4; have r5 := obj_cell hx 5; have r6 := obj_cell hx 6; have hb' := bel_next HB.out hb rfl rfl rfl rfl (by have := HB.out.size; omega); replace HX := Lib.hid hx; replace HB := Lib.hid hb'; clear hb hx hb'))
    go_wp2
    go_ret
    exact ⟨by rw [HT.out]; rfl, HB.out⟩
  · have HO : Hid (ftextT f = []) := Lib.hid (by unfold ftextT; rw [if_neg h0])
    have e0 : (fcheckT f == 0) = false := beq_false_of_ne h0
    have HB : Hid (∀ o, Below w.heap.size w (w.alloc o)) := Lib.hid (fun o => (Below.refl _ w).alloc (Nat.le_refl _) o)
    obtain ⟨c, hc⟩ : ∃ c, c = fcheckT f := ⟨_, rfl⟩
    rw [← hc] at HC e0 h0
    have e1 : (c != 0) = true := bne_iff_ne.2 h0
    obtain ⟨name, num, ty, ref, rep, loose, one⟩ := f
    unfold fdV at HC ⊢
    dsimp only at HC ⊢
    clear hc env
    go_enter Tryz.func34, Tryz.ntmps34
    go_wp2_with (go_at_call 59; refine (HC.out _ (HB.out _)).mono ?_; rintro e w1 ⟨rfl, hb⟩; have HB1 := Lib.hid ((HB.out _).trans (hb.mono (HB.out _).size)); clear hb)
    go_ret
    exact ⟨by rw [HO.out]; rfl, HB1.out⟩
end Go.Proofs.YtjogamffdbedkaaGreatDoor

