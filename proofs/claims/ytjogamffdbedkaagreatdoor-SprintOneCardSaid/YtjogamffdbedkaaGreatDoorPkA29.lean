/- Several texts in one: RfA. What each proves, and its conditions, stands at its own head. -/
import Derived.Test.YtjogamffdbedkaaGreatDoorPkA21
import Derived.Test.YtjogamffdbedkaaGreatDoorPkA20
import Derived.Test.YtjogamffdbedkaaGreatDoorPkA14
import Derived.Test.YtjogamffdbedkaaGreatDoorPkA1
import Derived.Test.YtjogamffdbedkaaGreatDoorPkA4
import Derived.Lib.Strings
/- The document's layer 14: which fields may be. Conditions: those that each theorem names. -/
namespace Go.Proofs.YtjogamffdbedkaaGreatDoor
open Go.RowKit
set_option linter.unusedVariables false
set_option maxRecDepth 100000

/-- An empty text or not, as the walk asks for it. -/
theorem empty_facts (t : List UInt8) : ((strOf t).toList == []) = decide (t = []) := by
  have h := strOf_beq t []
  rw [show (strOf []).toList = [] by rw [Lib.toList_data]; rfl] at h
  exact h
set_option maxHeartbeats 40000000 in
theorem rfcheck_core (w : World) (sn sr so : ByteArray) (num ty : Int) (rep loose bn bo rb re oe fb nb : Bool) (C : Int)
    (hN : ∀ u, Calls Tryz.prog 48 #[.string sn] u fun e w' => e = .returned (.bool bn) ∧ Below u.heap.size u w')
    (hO : ∀ u, Calls Tryz.prog 48 #[.string so] u fun e w' => e = .returned (.bool bo) ∧ Below u.heap.size u w')
    (hR : ∀ u, Calls Tryz.prog 48 #[.string sr] u fun e w' => e = .returned (.bool rb) ∧ Below u.heap.size u w')
    (hF : ∀ u, Calls Tryz.prog 63 #[.int .i64 num] u fun e w' => e = .returned (.bool fb) ∧ u = w')
    (hM : ∀ u, Calls Tryz.prog 64 #[.int .i64 ty] u fun e w' => e = .returned (.bool nb) ∧ u = w')
    (hre : (sr.toList == []) = re) (hoe : (so.toList == []) = oe)
    (hC : C = if (!bn || (!oe && !bo)) = true then 2 else if (if ty = 14 ∨ ty = 15 then !rb else !re) = true then 2 else if (!fb || (decide (ty < 1) || (decide (15 < ty) || (rep && !oe)))) = true then 1 else if (loose && (!rep || !nb)) = true then 1 else 0) :
    Calls Tryz.prog 36 #[.agg #[.string sn, .int .i64 num, .int .i64 ty, .string sr, .bool rep, .bool loose, .string so]] w fun e w' => e = .returned (.int .i64 C) ∧ Below w.heap.size w w' := by
  have HN := Lib.hid hN
  have HO := Lib.hid hO
  have HR := Lib.hid hR
  have HF := Lib.hid hF
  have HM := Lib.hid hM
  have HC := Lib.hid hC
  have HB : Hid (Below w.heap.size w (w.alloc (.cells #[.string sn, .int .i64 num, .int .i64 ty, .string sr, .bool rep, .bool loose, .string so] 43))) := Lib.hid ((Below.refl _ w).alloc (Nat.le_refl _) _)
  have HX : Hid ((w.alloc (.cells #[.string sn, .int .i64 num, .int .i64 ty, .string sr, .bool rep, .bool loose, .string so] 43)).heap[w.heap.size]? = some (.cells #[.string sn, .int .i64 num, .int .i64 ty, .string sr, .bool rep, .bool loose, .string so] 43 (0, 0))) := Lib.hid (heap_alloc_new w _)
  clear hN hO hR hF hM hC
  have hr3 : (re = true ∧ sr.toList = [] ∧ sr.toList.isEmpty = true) ∨ (re = false ∧ ¬ sr.toList = [] ∧ sr.toList.isEmpty = false) := by
    cases re with
    | true => exact .inl ⟨rfl, beq_iff_eq.1 hre, by rw [beq_iff_eq.1 hre]; rfl⟩
    | false => exact .inr ⟨rfl, (fun e => by rw [e] at hre; cases hre), (by rw [List.isEmpty_eq_false_iff]; intro e; rw [e] at hre; cases hre)⟩
  cases bn with
  | true =>
    cases oe with
    | true =>
      have o3 : so.toList = [] := by exact beq_iff_eq.1 hoe
      have o2 : so.toList.isEmpty = true := by rw [o3]; rfl
      by_cases h14 : ty = 14
      · skip
        subst h14
        cases rb with
        | true =>
          cases fb with
          | true =>
            cases loose with
            | true =>
              cases rep with
              | true =>
                cases nb with
                | true =>
                  have HV : Hid (C = 0) := Lib.hid (by rw [HC.out]; simp [*])
                  clear HC
                  go_enter Tryz.func36, Tryz.ntmps36
                  go_wp2_with (first
                    | (go_at_call 48; with_reducible refine (HN.out _).mono ?_; rintro e w1 ⟨rfl, hb⟩; have hx := (hb.block w.heap.size (lt_of_block HX.out)).trans HX.out; have r0 := obj_cell hx 0; have r1 := obj_cell hx 1; have r2 := obj_cell hx 2; have r3 := obj_cell hx 3; have r4 := obj_cell hx 4; have r5 := obj_cell hx 5; have r6 := obj_cell hx 6; replace HX := Lib.hid hx; replace HB := Lib.hid (HB.out.trans (hb.mono HB.out.size)); clear hb hx )
                    | (go_at_call 48; with_reducible refine (HO.out _).mono ?_; rintro e w1 ⟨rfl, hb⟩; have hx := (hb.block w.heap.size (lt_of_block HX.out)).trans HX.out; have r0 := obj_cell hx 0; have r1 := obj_cell hx 1; have r2 := obj_cell hx 2; have r3 := obj_cell hx 3; have r4 := obj_cell hx 4; have r5 := obj_cell hx 5; have r6 := obj_cell hx 6; replace HX := Lib.hid hx; replace HB := Lib.hid (HB.out.trans (hb.mono HB.out.size)); clear hb hx )
                    | (go_at_call 48; with_reducible refine (HR.out _).mono ?_; rintro e w1 ⟨rfl, hb⟩; have hx := (hb.block w.heap.size (lt_of_block HX.out)).trans HX.out; have r0 := obj_cell hx 0; have r1 := obj_cell hx 1; have r2 := obj_cell hx 2; have r3 := obj_cell hx 3; have r4 := obj_cell hx 4; have r5 := obj_cell hx 5; have r6 := obj_cell hx 6; replace HX := Lib.hid hx; replace HB := Lib.hid (HB.out.trans (hb.mono HB.out.size)); clear hb hx )
                    | (go_at_call 63; refine (HF.out _).mono ?_; rintro e w2 ⟨rfl, rfl⟩)
                    | (go_at_call 64; refine (HM.out _).mono ?_; rintro e w2 ⟨rfl, rfl⟩))
                  all_goals (go_ret; exact ⟨by rw [HV.out]; rfl, HB.out⟩)
                | false =>
                  have HV : Hid (C = 1) := Lib.hid (by rw [HC.out]; simp [*])
                  clear HC
                  go_enter Tryz.func36, Tryz.ntmps36
                  go_wp2_with (first
                    | (go_at_call 48; with_reducible refine (HN.out _).mono ?_; rintro e w1 ⟨rfl, hb⟩; have hx := (hb.block w.heap.size (lt_of_block HX.out)).trans HX.out; have r0 := obj_cell hx 0; have r1 := obj_cell hx 1; have r2 := obj_cell hx 2; have r3 := obj_cell hx 3; have r4 := obj_cell hx 4; have r5 := obj_cell hx 5; have r6 := obj_cell hx 6; replace HX := Lib.hid hx; replace HB := Lib.hid (HB.out.trans (hb.mono HB.out.size)); clear hb hx )
                    | (go_at_call 48; with_reducible refine (HO.out _).mono ?_; rintro e w1 ⟨rfl, hb⟩; have hx := (hb.block w.heap.size (lt_of_block HX.out)).trans HX.out; have r0 := obj_cell hx 0; have r1 := obj_cell hx 1; have r2 := obj_cell hx 2; have r3 := obj_cell hx 3; have r4 := obj_cell hx 4; have r5 := obj_cell hx 5; have r6 := obj_cell hx 6; replace HX := Lib.hid hx; replace HB := Lib.hid (HB.out.trans (hb.mono HB.out.size)); clear hb hx )
                    | (go_at_call 48; with_reducible refine (HR.out _).mono ?_; rintro e w1 ⟨rfl, hb⟩; have hx := (hb.block w.heap.size (lt_of_block HX.out)).trans HX.out; have r0 := obj_cell hx 0; have r1 := obj_cell hx 1; have r2 := obj_cell hx 2; have r3 := obj_cell hx 3; have r4 := obj_cell hx 4; have r5 := obj_cell hx 5; have r6 := obj_cell hx 6; replace HX := Lib.hid hx; replace HB := Lib.hid (HB.out.trans (hb.mono HB.out.size)); clear hb hx )
                    | (go_at_call 63; refine (HF.out _).mono ?_; rintro e w2 ⟨rfl, rfl⟩)
                    | (go_at_call 64; refine (HM.out _).mono ?_; rintro e w2 ⟨rfl, rfl⟩))
                  all_goals (go_ret; exact ⟨by rw [HV.out]; rfl, HB.out⟩)
              | false =>
                have HV : Hid (C = 1) := Lib.hid (by rw [HC.out]; simp [*])
                clear HC
                go_enter Tryz.func36, Tryz.ntmps36
                go_wp2_with (first
                  | (go_at_call 48; with_reducible refine (HN.out _).mono ?_; rintro e w1 ⟨rfl, hb⟩; have hx := (hb.block w.heap.size (lt_of_block HX.out)).trans HX.out; have r0 := obj_cell hx 0; have r1 := obj_cell hx 1; have r2 := obj_cell hx 2; have r3 := obj_cell hx 3; have r4 := obj_cell hx 4; have r5 := obj_cell hx 5; have r6 := obj_cell hx 6; replace HX := Lib.hid hx; replace HB := Lib.hid (HB.out.trans (hb.mono HB.out.size)); clear hb hx )
                  | (go_at_call 48; with_reducible refine (HO.out _).mono ?_; rintro e w1 ⟨rfl, hb⟩; have hx := (hb.block w.heap.size (lt_of_block HX.out)).trans HX.out; have r0 := obj_cell hx 0; have r1 := obj_cell hx 1; have r2 := obj_cell hx 2; have r3 := obj_cell hx 3; have r4 := obj_cell hx 4; have r5 := obj_cell hx 5; have r6 := obj_cell hx 6; replace HX := Lib.hid hx; replace HB := Lib.hid (HB.out.trans (hb.mono HB.out.size)); clear hb hx )
                  | (go_at_call 48; with_reducible refine (HR.out _).mono ?_; rintro e w1 ⟨rfl, hb⟩; have hx := (hb.block w.heap.size (lt_of_block HX.out)).trans HX.out; have r0 := obj_cell hx 0; have r1 := obj_cell hx 1; have r2 := obj_cell hx 2; have r3 := obj_cell hx 3; have r4 := obj_cell hx 4; have r5 := obj_cell hx 5; have r6 := obj_cell hx 6; replace HX := Lib.hid hx; replace HB := Lib.hid (HB.out.trans (hb.mono HB.out.size)); clear hb hx )
                  | (go_at_call 63; refine (HF.out _).mono ?_; rintro e w2 ⟨rfl, rfl⟩)
                  | (go_at_call 64; refine (HM.out _).mono ?_; rintro e w2 ⟨rfl, rfl⟩))
                all_goals (go_ret; exact ⟨by rw [HV.out]; rfl, HB.out⟩)
            | false =>
              have HV : Hid (C = 0) := Lib.hid (by rw [HC.out]; simp [*])
              clear HC
              go_enter Tryz.func36, Tryz.ntmps36
              go_wp2_with (first
                | (go_at_call 48; with_reducible refine (HN.out _).mono ?_; rintro e w1 ⟨rfl, hb⟩; have hx := (hb.block w.heap.size (lt_of_block HX.out)).trans HX.out; have r0 := obj_cell hx 0; have r1 := obj_cell hx 1; have r2 := obj_cell hx 2; have r3 := obj_cell hx 3; have r4 := obj_cell hx 4; have r5 := obj_cell hx 5; have r6 := obj_cell hx 6; replace HX := Lib.hid hx; replace HB := Lib.hid (HB.out.trans (hb.mono HB.out.size)); clear hb hx )
                | (go_at_call 48; with_reducible refine (HO.out _).mono ?_; rintro e w1 ⟨rfl, hb⟩; have hx := (hb.block w.heap.size (lt_of_block HX.out)).trans HX.out; have r0 := obj_cell hx 0; have r1 := obj_cell hx 1; have r2 := obj_cell hx 2; have r3 := obj_cell hx 3; have r4 := obj_cell hx 4; have r5 := obj_cell hx 5; have r6 := obj_cell hx 6; replace HX := Lib.hid hx; replace HB := Lib.hid (HB.out.trans (hb.mono HB.out.size)); clear hb hx )
                | (go_at_call 48; with_reducible refine (HR.out _).mono ?_; rintro e w1 ⟨rfl, hb⟩; have hx := (hb.block w.heap.size (lt_of_block HX.out)).trans HX.out; have r0 := obj_cell hx 0; have r1 := obj_cell hx 1; have r2 := obj_cell hx 2; have r3 := obj_cell hx 3; have r4 := obj_cell hx 4; have r5 := obj_cell hx 5; have r6 := obj_cell hx 6; replace HX := Lib.hid hx; replace HB := Lib.hid (HB.out.trans (hb.mono HB.out.size)); clear hb hx )
                | (go_at_call 63; refine (HF.out _).mono ?_; rintro e w2 ⟨rfl, rfl⟩)
                | (go_at_call 64; refine (HM.out _).mono ?_; rintro e w2 ⟨rfl, rfl⟩))
              all_goals (go_ret; exact ⟨by rw [HV.out]; rfl, HB.out⟩)
          | false =>
            have HV : Hid (C = 1) := Lib.hid (by rw [HC.out]; simp [*])
            clear HC
            go_enter Tryz.func36, Tryz.ntmps36
            go_wp2_with (first
              | (go_at_call 48; with_reducible refine (HN.out _).mono ?_; rintro e w1 ⟨rfl, hb⟩; have hx := (hb.block w.heap.size (lt_of_block HX.out)).trans HX.out; have r0 := obj_cell hx 0; have r1 := obj_cell hx 1; have r2 := obj_cell hx 2; have r3 := obj_cell hx 3; have r4 := obj_cell hx 4; have r5 := obj_cell hx 5; have r6 := obj_cell hx 6; replace HX := Lib.hid hx; replace HB := Lib.hid (HB.out.trans (hb.mono HB.out.size)); clear hb hx )
              | (go_at_call 48; with_reducible refine (HO.out _).mono ?_; rintro e w1 ⟨rfl, hb⟩; have hx := (hb.block w.heap.size (lt_of_block HX.out)).trans HX.out; have r0 := obj_cell hx 0; have r1 := obj_cell hx 1; have r2 := obj_cell hx 2; have r3 := obj_cell hx 3; have r4 := obj_cell hx 4; have r5 := obj_cell hx 5; have r6 := obj_cell hx 6; replace HX := Lib.hid hx; replace HB := Lib.hid (HB.out.trans (hb.mono HB.out.size)); clear hb hx )
              | (go_at_call 48; with_reducible refine (HR.out _).mono ?_; rintro e w1 ⟨rfl, hb⟩; have hx := (hb.block w.heap.size (lt_of_block HX.out)).trans HX.out; have r0 := obj_cell hx 0; have r1 := obj_cell hx 1; have r2 := obj_cell hx 2; have r3 := obj_cell hx 3; have r4 := obj_cell hx 4; have r5 := obj_cell hx 5; have r6 := obj_cell hx 6; replace HX := Lib.hid hx; replace HB := Lib.hid (HB.out.trans (hb.mono HB.out.size)); clear hb hx )
              | (go_at_call 63; refine (HF.out _).mono ?_; rintro e w2 ⟨rfl, rfl⟩)
              | (go_at_call 64; refine (HM.out _).mono ?_; rintro e w2 ⟨rfl, rfl⟩))
            all_goals (go_ret; exact ⟨by rw [HV.out]; rfl, HB.out⟩)
        | false =>
          have HV : Hid (C = 2) := Lib.hid (by rw [HC.out]; simp [*])
          clear HC
          go_enter Tryz.func36, Tryz.ntmps36
          go_wp2_with (first
            | (go_at_call 48; with_reducible refine (HN.out _).mono ?_; rintro e w1 ⟨rfl, hb⟩; have hx := (hb.block w.heap.size (lt_of_block HX.out)).trans HX.out; have r0 := obj_cell hx 0; have r1 := obj_cell hx 1; have r2 := obj_cell hx 2; have r3 := obj_cell hx 3; have r4 := obj_cell hx 4; have r5 := obj_cell hx 5; have r6 := obj_cell hx 6; replace HX := Lib.hid hx; replace HB := Lib.hid (HB.out.trans (hb.mono HB.out.size)); clear hb hx )
            | (go_at_call 48; with_reducible refine (HO.out _).mono ?_; rintro e w1 ⟨rfl, hb⟩; have hx := (hb.block w.heap.size (lt_of_block HX.out)).trans HX.out; have r0 := obj_cell hx 0; have r1 := obj_cell hx 1; have r2 := obj_cell hx 2; have r3 := obj_cell hx 3; have r4 := obj_cell hx 4; have r5 := obj_cell hx 5; have r6 := obj_cell hx 6; replace HX := Lib.hid hx; replace HB := Lib.hid (HB.out.trans (hb.mono HB.out.size)); clear hb hx )
            | (go_at_call 48; with_reducible refine (HR.out _).mono ?_; rintro e w1 ⟨rfl, hb⟩; have hx := (hb.block w.heap.size (lt_of_block HX.out)).trans HX.out; have r0 := obj_cell hx 0; have r1 := obj_cell hx 1; have r2 := obj_cell hx 2; have r3 := obj_cell hx 3; have r4 := obj_cell hx 4; have r5 := obj_cell hx 5; have r6 := obj_cell hx 6; replace HX := Lib.hid hx; replace HB := Lib.hid (HB.out.trans (hb.mono HB.out.size)); clear hb hx )
            | (go_at_call 63; refine (HF.out _).mono ?_; rintro e w2 ⟨rfl, rfl⟩)
            | (go_at_call 64; refine (HM.out _).mono ?_; rintro e w2 ⟨rfl, rfl⟩))
          all_goals (go_ret; exact ⟨by rw [HV.out]; rfl, HB.out⟩)
      · skip
        by_cases h15x : ty = 15
        · skip
          subst h15x
          cases rb with
          | true =>
            cases fb with
            | true =>
              cases loose with
              | true =>
                cases rep with
                | true =>
                  cases nb with
                  | true =>
                    have HV : Hid (C = 0) := Lib.hid (by rw [HC.out]; simp [*])
                    clear HC
                    go_enter Tryz.func36, Tryz.ntmps36
                    go_wp2_with (first
                      | (go_at_call 48; with_reducible refine (HN.out _).mono ?_; rintro e w1 ⟨rfl, hb⟩; have hx := (hb.block w.heap.size (lt_of_block HX.out)).trans HX.out; have r0 := obj_cell hx 0; have r1 := obj_cell hx 1; have r2 := obj_cell hx 2; have r3 := obj_cell hx 3; have r4 := obj_cell hx 4; have r5 := obj_cell hx 5; have r6 := obj_cell hx 6; replace HX := Lib.hid hx; replace HB := Lib.hid (HB.out.trans (hb.mono HB.out.size)); clear hb hx )
                      | (go_at_call 48; with_reducible refine (HO.out _).mono ?_; rintro e w1 ⟨rfl, hb⟩; have hx := (hb.block w.heap.size (lt_of_block HX.out)).trans HX.out; have r0 := obj_cell hx 0; have r1 := obj_cell hx 1; have r2 := obj_cell hx 2; have r3 := obj_cell hx 3; have r4 := obj_cell hx 4; have r5 := obj_cell hx 5; have r6 := obj_cell hx 6; replace HX := Lib.hid hx; replace HB := Lib.hid (HB.out.trans (hb.mono HB.out.size)); clear hb hx )
                      | (go_at_call 48; with_reducible refine (HR.out _).mono ?_; rintro e w1 ⟨rfl, hb⟩; have hx := (hb.block w.heap.size (lt_of_block HX.out)).trans HX.out; have r0 := obj_cell hx 0; have r1 := obj_cell hx 1; have r2 := obj_cell hx 2; have r3 := obj_cell hx 3; have r4 := obj_cell hx 4; have r5 := obj_cell hx 5; have r6 := obj_cell hx 6; replace HX := Lib.hid hx; replace HB := Lib.hid (HB.out.trans (hb.mono HB.out.size)); clear hb hx )
                      | (go_at_call 63; refine (HF.out _).mono ?_; rintro e w2 ⟨rfl, rfl⟩)
                      | (go_at_call 64; refine (HM.out _).mono ?_; rintro e w2 ⟨rfl, rfl⟩))
                    all_goals (go_ret; exact ⟨by rw [HV.out]; rfl, HB.out⟩)
                  | false =>
                    have HV : Hid (C = 1) := Lib.hid (by rw [HC.out]; simp [*])
                    clear HC
                    go_enter Tryz.func36, Tryz.ntmps36
                    go_wp2_with (first
                      | (go_at_call 48; with_reducible refine (HN.out _).mono ?_; rintro e w1 ⟨rfl, hb⟩; have hx := (hb.block w.heap.size (lt_of_block HX.out)).trans HX.out; have r0 := obj_cell hx 0; have r1 := obj_cell hx 1; have r2 := obj_cell hx 2; have r3 := obj_cell hx 3; have r4 := obj_cell hx 4; have r5 := obj_cell hx 5; have r6 := obj_cell hx 6; replace HX := Lib.hid hx; replace HB := Lib.hid (HB.out.trans (hb.mono HB.out.size)); clear hb hx )
                      | (go_at_call 48; with_reducible refine (HO.out _).mono ?_; rintro e w1 ⟨rfl, hb⟩; have hx := (hb.block w.heap.size (lt_of_block HX.out)).trans HX.out; have r0 := obj_cell hx 0; have r1 := obj_cell hx 1; have r2 := obj_cell hx 2; have r3 := obj_cell hx 3; have r4 := obj_cell hx 4; have r5 := obj_cell hx 5; have r6 := obj_cell hx 6; replace HX := Lib.hid hx; replace HB := Lib.hid (HB.out.trans (hb.mono HB.out.size)); clear hb hx )
                      | (go_at_call 48; with_reducible refine (HR.out _).mono ?_; rintro e w1 ⟨rfl, hb⟩; have hx := (hb.block w.heap.size (lt_of_block HX.out)).trans HX.out; have r0 := obj_cell hx 0; have r1 := obj_cell hx 1; have r2 := obj_cell hx 2; have r3 := obj_cell hx 3; have r4 := obj_cell hx 4; have r5 := obj_cell hx 5; have r6 := obj_cell hx 6; replace HX := Lib.hid hx; replace HB := Lib.hid (HB.out.trans (hb.mono HB.out.size)); clear hb hx )
                      | (go_at_call 63; refine (HF.out _).mono ?_; rintro e w2 ⟨rfl, rfl⟩)
                      | (go_at_call 64; refine (HM.out _).mono ?_; rintro e w2 ⟨rfl, rfl⟩))
                    all_goals (go_ret; exact ⟨by rw [HV.out]; rfl, HB.out⟩)
                | false =>
                  have HV : Hid (C = 1) := Lib.hid (by rw [HC.out]; simp [*])
                  clear HC
                  go_enter Tryz.func36, Tryz.ntmps36
                  go_wp2_with (first
                    | (go_at_call 48; with_reducible refine (HN.out _).mono ?_; rintro e w1 ⟨rfl, hb⟩; have hx := (hb.block w.heap.size (lt_of_block HX.out)).trans HX.out; have r0 := obj_cell hx 0; have r1 := obj_cell hx 1; have r2 := obj_cell hx 2; have r3 := obj_cell hx 3; have r4 := obj_cell hx 4; have r5 := obj_cell hx 5; have r6 := obj_cell hx 6; replace HX := Lib.hid hx; replace HB := Lib.hid (HB.out.trans (hb.mono HB.out.size)); clear hb hx )
                    | (go_at_call 48; with_reducible refine (HO.out _).mono ?_; rintro e w1 ⟨rfl, hb⟩; have hx := (hb.block w.heap.size (lt_of_block HX.out)).trans HX.out; have r0 := obj_cell hx 0; have r1 := obj_cell hx 1; have r2 := obj_cell hx 2; have r3 := obj_cell hx 3; have r4 := obj_cell hx 4; have r5 := obj_cell hx 5; have r6 := obj_cell hx 6; replace HX := Lib.hid hx; replace HB := Lib.hid (HB.out.trans (hb.mono HB.out.size)); clear hb hx )
                    | (go_at_call 48; with_reducible refine (HR.out _).mono ?_; rintro e w1 ⟨rfl, hb⟩; have hx := (hb.block w.heap.size (lt_of_block HX.out)).trans HX.out; have r0 := obj_cell hx 0; have r1 := obj_cell hx 1; have r2 := obj_cell hx 2; have r3 := obj_cell hx 3; have r4 := obj_cell hx 4; have r5 := obj_cell hx 5; have r6 := obj_cell hx 6; replace HX := Lib.hid hx; replace HB := Lib.hid (HB.out.trans (hb.mono HB.out.size)); clear hb hx )
                    | (go_at_call 63; refine (HF.out _).mono ?_; rintro e w2 ⟨rfl, rfl⟩)
                    | (go_at_call 64; refine (HM.out _).mono ?_; rintro e w2 ⟨rfl, rfl⟩))
                  all_goals (go_ret; exact ⟨by rw [HV.out]; rfl, HB.out⟩)
              | false =>
                have HV : Hid (C = 0) := Lib.hid (by rw [HC.out]; simp [*])
                clear HC
                go_enter Tryz.func36, Tryz.ntmps36
                go_wp2_with (first
                  | (go_at_call 48; with_reducible refine (HN.out _).mono ?_; rintro e w1 ⟨rfl, hb⟩; have hx := (hb.block w.heap.size (lt_of_block HX.out)).trans HX.out; have r0 := obj_cell hx 0; have r1 := obj_cell hx 1; have r2 := obj_cell hx 2; have r3 := obj_cell hx 3; have r4 := obj_cell hx 4; have r5 := obj_cell hx 5; have r6 := obj_cell hx 6; replace HX := Lib.hid hx; replace HB := Lib.hid (HB.out.trans (hb.mono HB.out.size)); clear hb hx )
                  | (go_at_call 48; with_reducible refine (HO.out _).mono ?_; rintro e w1 ⟨rfl, hb⟩; have hx := (hb.block w.heap.size (lt_of_block HX.out)).trans HX.out; have r0 := obj_cell hx 0; have r1 := obj_cell hx 1; have r2 := obj_cell hx 2; have r3 := obj_cell hx 3; have r4 := obj_cell hx 4; have r5 := obj_cell hx 5; have r6 := obj_cell hx 6; replace HX := Lib.hid hx; replace HB := Lib.hid (HB.out.trans (hb.mono HB.out.size)); clear hb hx )
                  | (go_at_call 48; with_reducible refine (HR.out _).mono ?_; rintro e w1 ⟨rfl, hb⟩; have hx := (hb.block w.heap.size (lt_of_block HX.out)).trans HX.out; have r0 := obj_cell hx 0; have r1 := obj_cell hx 1; have r2 := obj_cell hx 2; have r3 := obj_cell hx 3; have r4 := obj_cell hx 4; have r5 := obj_cell hx 5; have r6 := obj_cell hx 6; replace HX := Lib.hid hx; replace HB := Lib.hid (HB.out.trans (hb.mono HB.out.size)); clear hb hx )
                  | (go_at_call 63; refine (HF.out _).mono ?_; rintro e w2 ⟨rfl, rfl⟩)
                  | (go_at_call 64; refine (HM.out _).mono ?_; rintro e w2 ⟨rfl, rfl⟩))
                all_goals (go_ret; exact ⟨by rw [HV.out]; rfl, HB.out⟩)
            | false =>
              have HV : Hid (C = 1) := Lib.hid (by rw [HC.out]; simp [*])
              clear HC
              go_enter Tryz.func36, Tryz.ntmps36
              go_wp2_with (first
                | (go_at_call 48; with_reducible refine (HN.out _).mono ?_; rintro e w1 ⟨rfl, hb⟩; have hx := (hb.block w.heap.size (lt_of_block HX.out)).trans HX.out; have r0 := obj_cell hx 0; have r1 := obj_cell hx 1; have r2 := obj_cell hx 2; have r3 := obj_cell hx 3; have r4 := obj_cell hx 4; have r5 := obj_cell hx 5; have r6 := obj_cell hx 6; replace HX := Lib.hid hx; replace HB := Lib.hid (HB.out.trans (hb.mono HB.out.size)); clear hb hx )
                | (go_at_call 48; with_reducible refine (HO.out _).mono ?_; rintro e w1 ⟨rfl, hb⟩; have hx := (hb.block w.heap.size (lt_of_block HX.out)).trans HX.out; have r0 := obj_cell hx 0; have r1 := obj_cell hx 1; have r2 := obj_cell hx 2; have r3 := obj_cell hx 3; have r4 := obj_cell hx 4; have r5 := obj_cell hx 5; have r6 := obj_cell hx 6; replace HX := Lib.hid hx; replace HB := Lib.hid (HB.out.trans (hb.mono HB.out.size)); clear hb hx )
                | (go_at_call 48; with_reducible refine (HR.out _).mono ?_; rintro e w1 ⟨rfl, hb⟩; have hx := (hb.block w.heap.size (lt_of_block HX.out)).trans HX.out; have r0 := obj_cell hx 0; have r1 := obj_cell hx 1; have r2 := obj_cell hx 2; have r3 := obj_cell hx 3; have r4 := obj_cell hx 4; have r5 := obj_cell hx 5; have r6 := obj_cell hx 6; replace HX := Lib.hid hx; replace HB := Lib.hid (HB.out.trans (hb.mono HB.out.size)); clear hb hx )
                | (go_at_call 63; refine (HF.out _).mono ?_; rintro e w2 ⟨rfl, rfl⟩)
                | (go_at_call 64; refine (HM.out _).mono ?_; rintro e w2 ⟨rfl, rfl⟩))
              all_goals (go_ret; exact ⟨by rw [HV.out]; rfl, HB.out⟩)
          | false =>
            have HV : Hid (C = 2) := Lib.hid (by rw [HC.out]; simp [*])
            clear HC
            go_enter Tryz.func36, Tryz.ntmps36
            go_wp2_with (first
              | (go_at_call 48; with_reducible refine (HN.out _).mono ?_; rintro e w1 ⟨rfl, hb⟩; have hx := (hb.block w.heap.size (lt_of_block HX.out)).trans HX.out; have r0 := obj_cell hx 0; have r1 := obj_cell hx 1; have r2 := obj_cell hx 2; have r3 := obj_cell hx 3; have r4 := obj_cell hx 4; have r5 := obj_cell hx 5; have r6 := obj_cell hx 6; replace HX := Lib.hid hx; replace HB := Lib.hid (HB.out.trans (hb.mono HB.out.size)); clear hb hx )
              | (go_at_call 48; with_reducible refine (HO.out _).mono ?_; rintro e w1 ⟨rfl, hb⟩; have hx := (hb.block w.heap.size (lt_of_block HX.out)).trans HX.out; have r0 := obj_cell hx 0; have r1 := obj_cell hx 1; have r2 := obj_cell hx 2; have r3 := obj_cell hx 3; have r4 := obj_cell hx 4; have r5 := obj_cell hx 5; have r6 := obj_cell hx 6; replace HX := Lib.hid hx; replace HB := Lib.hid (HB.out.trans (hb.mono HB.out.size)); clear hb hx )
              | (go_at_call 48; with_reducible refine (HR.out _).mono ?_; rintro e w1 ⟨rfl, hb⟩; have hx := (hb.block w.heap.size (lt_of_block HX.out)).trans HX.out; have r0 := obj_cell hx 0; have r1 := obj_cell hx 1; have r2 := obj_cell hx 2; have r3 := obj_cell hx 3; have r4 := obj_cell hx 4; have r5 := obj_cell hx 5; have r6 := obj_cell hx 6; replace HX := Lib.hid hx; replace HB := Lib.hid (HB.out.trans (hb.mono HB.out.size)); clear hb hx )
              | (go_at_call 63; refine (HF.out _).mono ?_; rintro e w2 ⟨rfl, rfl⟩)
              | (go_at_call 64; refine (HM.out _).mono ?_; rintro e w2 ⟨rfl, rfl⟩))
            all_goals (go_ret; exact ⟨by rw [HV.out]; rfl, HB.out⟩)
        · skip
          have e14 : (ty == 14) = false := beq_false_of_ne h14
          have e15 : (ty == 15) = false := beq_false_of_ne h15x
          rcases hr3 with ⟨rfl, a3, a2⟩ | ⟨rfl, a3, a2⟩
          · skip
            cases fb with
            | true =>
              by_cases h1 : ty < 1
              · skip
                have d1 : decide (ty < 1) = true := decide_eq_true h1
                have HV : Hid (C = 1) := Lib.hid (by rw [HC.out]; simp [*])
                clear HC
                go_enter Tryz.func36, Tryz.ntmps36
                go_wp2_with (first
                  | (go_at_call 48; with_reducible refine (HN.out _).mono ?_; rintro e w1 ⟨rfl, hb⟩; have hx := (hb.block w.heap.size (lt_of_block HX.out)).trans HX.out; have r0 := obj_cell hx 0; have r1 := obj_cell hx 1; have r2 := obj_cell hx 2; have r3 := obj_cell hx 3; have r4 := obj_cell hx 4; have r5 := obj_cell hx 5; have r6 := obj_cell hx 6; replace HX := Lib.hid hx; replace HB := Lib.hid (HB.out.trans (hb.mono HB.out.size)); clear hb hx )
                  | (go_at_call 48; with_reducible refine (HO.out _).mono ?_; rintro e w1 ⟨rfl, hb⟩; have hx := (hb.block w.heap.size (lt_of_block HX.out)).trans HX.out; have r0 := obj_cell hx 0; have r1 := obj_cell hx 1; have r2 := obj_cell hx 2; have r3 := obj_cell hx 3; have r4 := obj_cell hx 4; have r5 := obj_cell hx 5; have r6 := obj_cell hx 6; replace HX := Lib.hid hx; replace HB := Lib.hid (HB.out.trans (hb.mono HB.out.size)); clear hb hx )
                  | (go_at_call 48; with_reducible refine (HR.out _).mono ?_; rintro e w1 ⟨rfl, hb⟩; have hx := (hb.block w.heap.size (lt_of_block HX.out)).trans HX.out; have r0 := obj_cell hx 0; have r1 := obj_cell hx 1; have r2 := obj_cell hx 2; have r3 := obj_cell hx 3; have r4 := obj_cell hx 4; have r5 := obj_cell hx 5; have r6 := obj_cell hx 6; replace HX := Lib.hid hx; replace HB := Lib.hid (HB.out.trans (hb.mono HB.out.size)); clear hb hx )
                  | (go_at_call 63; refine (HF.out _).mono ?_; rintro e w2 ⟨rfl, rfl⟩)
                  | (go_at_call 64; refine (HM.out _).mono ?_; rintro e w2 ⟨rfl, rfl⟩))
                all_goals (go_ret; exact ⟨by rw [HV.out]; rfl, HB.out⟩)
              · skip
                have d1 : decide (ty < 1) = false := decide_eq_false h1
                by_cases h15 : 15 < ty
                · skip
                  have d15 : decide (ty > 15) = true := decide_eq_true h15
                  have HV : Hid (C = 1) := Lib.hid (by rw [HC.out]; simp [*])
                  clear HC
                  go_enter Tryz.func36, Tryz.ntmps36
                  go_wp2_with (first
                    | (go_at_call 48; with_reducible refine (HN.out _).mono ?_; rintro e w1 ⟨rfl, hb⟩; have hx := (hb.block w.heap.size (lt_of_block HX.out)).trans HX.out; have r0 := obj_cell hx 0; have r1 := obj_cell hx 1; have r2 := obj_cell hx 2; have r3 := obj_cell hx 3; have r4 := obj_cell hx 4; have r5 := obj_cell hx 5; have r6 := obj_cell hx 6; replace HX := Lib.hid hx; replace HB := Lib.hid (HB.out.trans (hb.mono HB.out.size)); clear hb hx )
                    | (go_at_call 48; with_reducible refine (HO.out _).mono ?_; rintro e w1 ⟨rfl, hb⟩; have hx := (hb.block w.heap.size (lt_of_block HX.out)).trans HX.out; have r0 := obj_cell hx 0; have r1 := obj_cell hx 1; have r2 := obj_cell hx 2; have r3 := obj_cell hx 3; have r4 := obj_cell hx 4; have r5 := obj_cell hx 5; have r6 := obj_cell hx 6; replace HX := Lib.hid hx; replace HB := Lib.hid (HB.out.trans (hb.mono HB.out.size)); clear hb hx )
                    | (go_at_call 48; with_reducible refine (HR.out _).mono ?_; rintro e w1 ⟨rfl, hb⟩; have hx := (hb.block w.heap.size (lt_of_block HX.out)).trans HX.out; have r0 := obj_cell hx 0; have r1 := obj_cell hx 1; have r2 := obj_cell hx 2; have r3 := obj_cell hx 3; have r4 := obj_cell hx 4; have r5 := obj_cell hx 5; have r6 := obj_cell hx 6; replace HX := Lib.hid hx; replace HB := Lib.hid (HB.out.trans (hb.mono HB.out.size)); clear hb hx )
                    | (go_at_call 63; refine (HF.out _).mono ?_; rintro e w2 ⟨rfl, rfl⟩)
                    | (go_at_call 64; refine (HM.out _).mono ?_; rintro e w2 ⟨rfl, rfl⟩))
                  all_goals (go_ret; exact ⟨by rw [HV.out]; rfl, HB.out⟩)
                · skip
                  have d15 : decide (ty > 15) = false := decide_eq_false h15
                  cases loose with
                  | true =>
                    cases rep with
                    | true =>
                      cases nb with
                      | true =>
                        have HV : Hid (C = 0) := Lib.hid (by rw [HC.out]; simp [*])
                        clear HC
                        go_enter Tryz.func36, Tryz.ntmps36
                        go_wp2_with (first
                          | (go_at_call 48; with_reducible refine (HN.out _).mono ?_; rintro e w1 ⟨rfl, hb⟩; have hx := (hb.block w.heap.size (lt_of_block HX.out)).trans HX.out; have r0 := obj_cell hx 0; have r1 := obj_cell hx 1; have r2 := obj_cell hx 2; have r3 := obj_cell hx 3; have r4 := obj_cell hx 4; have r5 := obj_cell hx 5; have r6 := obj_cell hx 6; replace HX := Lib.hid hx; replace HB := Lib.hid (HB.out.trans (hb.mono HB.out.size)); clear hb hx )
                          | (go_at_call 48; with_reducible refine (HO.out _).mono ?_; rintro e w1 ⟨rfl, hb⟩; have hx := (hb.block w.heap.size (lt_of_block HX.out)).trans HX.out; have r0 := obj_cell hx 0; have r1 := obj_cell hx 1; have r2 := obj_cell hx 2; have r3 := obj_cell hx 3; have r4 := obj_cell hx 4; have r5 := obj_cell hx 5; have r6 := obj_cell hx 6; replace HX := Lib.hid hx; replace HB := Lib.hid (HB.out.trans (hb.mono HB.out.size)); clear hb hx )
                          | (go_at_call 48; with_reducible refine (HR.out _).mono ?_; rintro e w1 ⟨rfl, hb⟩; have hx := (hb.block w.heap.size (lt_of_block HX.out)).trans HX.out; have r0 := obj_cell hx 0; have r1 := obj_cell hx 1; have r2 := obj_cell hx 2; have r3 := obj_cell hx 3; have r4 := obj_cell hx 4; have r5 := obj_cell hx 5; have r6 := obj_cell hx 6; replace HX := Lib.hid hx; replace HB := Lib.hid (HB.out.trans (hb.mono HB.out.size)); clear hb hx )
                          | (go_at_call 63; refine (HF.out _).mono ?_; rintro e w2 ⟨rfl, rfl⟩)
                          | (go_at_call 64; refine (HM.out _).mono ?_; rintro e w2 ⟨rfl, rfl⟩))
                        all_goals (go_ret; exact ⟨by rw [HV.out]; rfl, HB.out⟩)
                      | false =>
                        have HV : Hid (C = 1) := Lib.hid (by rw [HC.out]; simp [*])
                        clear HC
                        go_enter Tryz.func36, Tryz.ntmps36
                        go_wp2_with (first
                          | (go_at_call 48; with_reducible refine (HN.out _).mono ?_; rintro e w1 ⟨rfl, hb⟩; have hx := (hb.block w.heap.size (lt_of_block HX.out)).trans HX.out; have r0 := obj_cell hx 0; have r1 := obj_cell hx 1; have r2 := obj_cell hx 2; have r3 := obj_cell hx 3; have r4 := obj_cell hx 4; have r5 := obj_cell hx 5; have r6 := obj_cell hx 6; replace HX := Lib.hid hx; replace HB := Lib.hid (HB.out.trans (hb.mono HB.out.size)); clear hb hx )
                          | (go_at_call 48; with_reducible refine (HO.out _).mono ?_; rintro e w1 ⟨rfl, hb⟩; have hx := (hb.block w.heap.size (lt_of_block HX.out)).trans HX.out; have r0 := obj_cell hx 0; have r1 := obj_cell hx 1; have r2 := obj_cell hx 2; have r3 := obj_cell hx 3; have r4 := obj_cell hx 4; have r5 := obj_cell hx 5; have r6 := obj_cell hx 6; replace HX := Lib.hid hx; replace HB := Lib.hid (HB.out.trans (hb.mono HB.out.size)); clear hb hx )
                          | (go_at_call 48; with_reducible refine (HR.out _).mono ?_; rintro e w1 ⟨rfl, hb⟩; have hx := (hb.block w.heap.size (lt_of_block HX.out)).trans HX.out; have r0 := obj_cell hx 0; have r1 := obj_cell hx 1; have r2 := obj_cell hx 2; have r3 := obj_cell hx 3; have r4 := obj_cell hx 4; have r5 := obj_cell hx 5; have r6 := obj_cell hx 6; replace HX := Lib.hid hx; replace HB := Lib.hid (HB.out.trans (hb.mono HB.out.size)); clear hb hx )
                          | (go_at_call 63; refine (HF.out _).mono ?_; rintro e w2 ⟨rfl, rfl⟩)
                          | (go_at_call 64; refine (HM.out _).mono ?_; rintro e w2 ⟨rfl, rfl⟩))
                        all_goals (go_ret; exact ⟨by rw [HV.out]; rfl, HB.out⟩)
                    | false =>
                      have HV : Hid (C = 1) := Lib.hid (by rw [HC.out]; simp [*])
                      clear HC
                      go_enter Tryz.func36, Tryz.ntmps36
                      go_wp2_with (first
                        | (go_at_call 48; with_reducible refine (HN.out _).mono ?_; rintro e w1 ⟨rfl, hb⟩; have hx := (hb.block w.heap.size (lt_of_block HX.out)).trans HX.out; have r0 := obj_cell hx 0; have r1 := obj_cell hx 1; have r2 := obj_cell hx 2; have r3 := obj_cell hx 3; have r4 := obj_cell hx 4; have r5 := obj_cell hx 5; have r6 := obj_cell hx 6; replace HX := Lib.hid hx; replace HB := Lib.hid (HB.out.trans (hb.mono HB.out.size)); clear hb hx )
                        | (go_at_call 48; with_reducible refine (HO.out _).mono ?_; rintro e w1 ⟨rfl, hb⟩; have hx := (hb.block w.heap.size (lt_of_block HX.out)).trans HX.out; have r0 := obj_cell hx 0; have r1 := obj_cell hx 1; have r2 := obj_cell hx 2; have r3 := obj_cell hx 3; have r4 := obj_cell hx 4; have r5 := obj_cell hx 5; have r6 := obj_cell hx 6; replace HX := Lib.hid hx; replace HB := Lib.hid (HB.out.trans (hb.mono HB.out.size)); clear hb hx )
                        | (go_at_call 48; with_reducible refine (HR.out _).mono ?_; rintro e w1 ⟨rfl, hb⟩; have hx := (hb.block w.heap.size (lt_of_block HX.out)).trans HX.out; have r0 := obj_cell hx 0; have r1 := obj_cell hx 1; have r2 := obj_cell hx 2; have r3 := obj_cell hx 3; have r4 := obj_cell hx 4; have r5 := obj_cell hx 5; have r6 := obj_cell hx 6; replace HX := Lib.hid hx; replace HB := Lib.hid (HB.out.trans (hb.mono HB.out.size)); clear hb hx )
                        | (go_at_call 63; refine (HF.out _).mono ?_; rintro e w2 ⟨rfl, rfl⟩)
                        | (go_at_call 64; refine (HM.out _).mono ?_; rintro e w2 ⟨rfl, rfl⟩))
                      all_goals (go_ret; exact ⟨by rw [HV.out]; rfl, HB.out⟩)
                  | false =>
                    have HV : Hid (C = 0) := Lib.hid (by rw [HC.out]; simp [*])
                    clear HC
                    go_enter Tryz.func36, Tryz.ntmps36
                    go_wp2_with (first
                      | (go_at_call 48; with_reducible refine (HN.out _).mono ?_; rintro e w1 ⟨rfl, hb⟩; have hx := (hb.block w.heap.size (lt_of_block HX.out)).trans HX.out; have r0 := obj_cell hx 0; have r1 := obj_cell hx 1; have r2 := obj_cell hx 2; have r3 := obj_cell hx 3; have r4 := obj_cell hx 4; have r5 := obj_cell hx 5; have r6 := obj_cell hx 6; replace HX := Lib.hid hx; replace HB := Lib.hid (HB.out.trans (hb.mono HB.out.size)); clear hb hx )
                      | (go_at_call 48; with_reducible refine (HO.out _).mono ?_; rintro e w1 ⟨rfl, hb⟩; have hx := (hb.block w.heap.size (lt_of_block HX.out)).trans HX.out; have r0 := obj_cell hx 0; have r1 := obj_cell hx 1; have r2 := obj_cell hx 2; have r3 := obj_cell hx 3; have r4 := obj_cell hx 4; have r5 := obj_cell hx 5; have r6 := obj_cell hx 6; replace HX := Lib.hid hx; replace HB := Lib.hid (HB.out.trans (hb.mono HB.out.size)); clear hb hx )
                      | (go_at_call 48; with_reducible refine (HR.out _).mono ?_; rintro e w1 ⟨rfl, hb⟩; have hx := (hb.block w.heap.size (lt_of_block HX.out)).trans HX.out; have r0 := obj_cell hx 0; have r1 := obj_cell hx 1; have r2 := obj_cell hx 2; have r3 := obj_cell hx 3; have r4 := obj_cell hx 4; have r5 := obj_cell hx 5; have r6 := obj_cell hx 6; replace HX := Lib.hid hx; replace HB := Lib.hid (HB.out.trans (hb.mono HB.out.size)); clear hb hx )
                      | (go_at_call 63; refine (HF.out _).mono ?_; rintro e w2 ⟨rfl, rfl⟩)
                      | (go_at_call 64; refine (HM.out _).mono ?_; rintro e w2 ⟨rfl, rfl⟩))
                    all_goals (go_ret; exact ⟨by rw [HV.out]; rfl, HB.out⟩)
            | false =>
              have HV : Hid (C = 1) := Lib.hid (by rw [HC.out]; simp [*])
              clear HC
              go_enter Tryz.func36, Tryz.ntmps36
              go_wp2_with (first
                | (go_at_call 48; with_reducible refine (HN.out _).mono ?_; rintro e w1 ⟨rfl, hb⟩; have hx := (hb.block w.heap.size (lt_of_block HX.out)).trans HX.out; have r0 := obj_cell hx 0; have r1 := obj_cell hx 1; have r2 := obj_cell hx 2; have r3 := obj_cell hx 3; have r4 := obj_cell hx 4; have r5 := obj_cell hx 5; have r6 := obj_cell hx 6; replace HX := Lib.hid hx; replace HB := Lib.hid (HB.out.trans (hb.mono HB.out.size)); clear hb hx )
                | (go_at_call 48; with_reducible refine (HO.out _).mono ?_; rintro e w1 ⟨rfl, hb⟩; have hx := (hb.block w.heap.size (lt_of_block HX.out)).trans HX.out; have r0 := obj_cell hx 0; have r1 := obj_cell hx 1; have r2 := obj_cell hx 2; have r3 := obj_cell hx 3; have r4 := obj_cell hx 4; have r5 := obj_cell hx 5; have r6 := obj_cell hx 6; replace HX := Lib.hid hx; replace HB := Lib.hid (HB.out.trans (hb.mono HB.out.size)); clear hb hx )
                | (go_at_call 48; with_reducible refine (HR.out _).mono ?_; rintro e w1 ⟨rfl, hb⟩; have hx := (hb.block w.heap.size (lt_of_block HX.out)).trans HX.out; have r0 := obj_cell hx 0; have r1 := obj_cell hx 1; have r2 := obj_cell hx 2; have r3 := obj_cell hx 3; have r4 := obj_cell hx 4; have r5 := obj_cell hx 5; have r6 := obj_cell hx 6; replace HX := Lib.hid hx; replace HB := Lib.hid (HB.out.trans (hb.mono HB.out.size)); clear hb hx )
                | (go_at_call 63; refine (HF.out _).mono ?_; rintro e w2 ⟨rfl, rfl⟩)
                | (go_at_call 64; refine (HM.out _).mono ?_; rintro e w2 ⟨rfl, rfl⟩))
              all_goals (go_ret; exact ⟨by rw [HV.out]; rfl, HB.out⟩)
          · skip
            have HV : Hid (C = 2) := Lib.hid (by rw [HC.out]; simp [*])
            clear HC
            go_enter Tryz.func36, Tryz.ntmps36
            go_wp2_with (first
              | (go_at_call 48; with_reducible refine (HN.out _).mono ?_; rintro e w1 ⟨rfl, hb⟩; have hx := (hb.block w.heap.size (lt_of_block HX.out)).trans HX.out; have r0 := obj_cell hx 0; have r1 := obj_cell hx 1; have r2 := obj_cell hx 2; have r3 := obj_cell hx 3; have r4 := obj_cell hx 4; have r5 := obj_cell hx 5; have r6 := obj_cell hx 6; replace HX := Lib.hid hx; replace HB := Lib.hid (HB.out.trans (hb.mono HB.out.size)); clear hb hx )
              | (go_at_call 48; with_reducible refine (HO.out _).mono ?_; rintro e w1 ⟨rfl, hb⟩; have hx := (hb.block w.heap.size (lt_of_block HX.out)).trans HX.out; have r0 := obj_cell hx 0; have r1 := obj_cell hx 1; have r2 := obj_cell hx 2; have r3 := obj_cell hx 3; have r4 := obj_cell hx 4; have r5 := obj_cell hx 5; have r6 := obj_cell hx 6; replace HX := Lib.hid hx; replace HB := Lib.hid (HB.out.trans (hb.mono HB.out.size)); clear hb hx )
              | (go_at_call 48; with_reducible refine (HR.out _).mono ?_; rintro e w1 ⟨rfl, hb⟩; have hx := (hb.block w.heap.size (lt_of_block HX.out)).trans HX.out; have r0 := obj_cell hx 0; have r1 := obj_cell hx 1; have r2 := obj_cell hx 2; have r3 := obj_cell hx 3; have r4 := obj_cell hx 4; have r5 := obj_cell hx 5; have r6 := obj_cell hx 6; replace HX := Lib.hid hx; replace HB := Lib.hid (HB.out.trans (hb.mono HB.out.size)); clear hb hx )
              | (go_at_call 63; refine (HF.out _).mono ?_; rintro e w2 ⟨rfl, rfl⟩)
              | (go_at_call 64; refine (HM.out _).mono ?_; rintro e w2 ⟨rfl, rfl⟩))
            all_goals (go_ret; exact ⟨by rw [HV.out]; rfl, HB.out⟩)
    | false =>
      have o3 : ¬ so.toList = [] := by intro e; rw [e] at hoe; cases hoe
      have o2 : so.toList.isEmpty = false := by rw [List.isEmpty_eq_false_iff]; exact o3
      cases bo with
      | true =>
        by_cases h14 : ty = 14
        · skip
          subst h14
          cases rb with
          | true =>
            cases fb with
            | true =>
              cases rep with
              | true =>
                have HV : Hid (C = 1) := Lib.hid (by rw [HC.out]; simp [*])
                clear HC
                go_enter Tryz.func36, Tryz.ntmps36
                go_wp2_with (first
                  | (go_at_call 48; with_reducible refine (HN.out _).mono ?_; rintro e w1 ⟨rfl, hb⟩; have hx := (hb.block w.heap.size (lt_of_block HX.out)).trans HX.out; have r0 := obj_cell hx 0; have r1 := obj_cell hx 1; have r2 := obj_cell hx 2; have r3 := obj_cell hx 3; have r4 := obj_cell hx 4; have r5 := obj_cell hx 5; have r6 := obj_cell hx 6; replace HX := Lib.hid hx; replace HB := Lib.hid (HB.out.trans (hb.mono HB.out.size)); clear hb hx )
                  | (go_at_call 48; with_reducible refine (HO.out _).mono ?_; rintro e w1 ⟨rfl, hb⟩; have hx := (hb.block w.heap.size (lt_of_block HX.out)).trans HX.out; have r0 := obj_cell hx 0; have r1 := obj_cell hx 1; have r2 := obj_cell hx 2; have r3 := obj_cell hx 3; have r4 := obj_cell hx 4; have r5 := obj_cell hx 5; have r6 := obj_cell hx 6; replace HX := Lib.hid hx; replace HB := Lib.hid (HB.out.trans (hb.mono HB.out.size)); clear hb hx )
                  | (go_at_call 48; with_reducible refine (HR.out _).mono ?_; rintro e w1 ⟨rfl, hb⟩; have hx := (hb.block w.heap.size (lt_of_block HX.out)).trans HX.out; have r0 := obj_cell hx 0; have r1 := obj_cell hx 1; have r2 := obj_cell hx 2; have r3 := obj_cell hx 3; have r4 := obj_cell hx 4; have r5 := obj_cell hx 5; have r6 := obj_cell hx 6; replace HX := Lib.hid hx; replace HB := Lib.hid (HB.out.trans (hb.mono HB.out.size)); clear hb hx )
                  | (go_at_call 63; refine (HF.out _).mono ?_; rintro e w2 ⟨rfl, rfl⟩)
                  | (go_at_call 64; refine (HM.out _).mono ?_; rintro e w2 ⟨rfl, rfl⟩))
                all_goals (go_ret; exact ⟨by rw [HV.out]; rfl, HB.out⟩)
              | false =>
                cases loose with
                | true =>
                  have HV : Hid (C = 1) := Lib.hid (by rw [HC.out]; simp [*])
                  clear HC
                  go_enter Tryz.func36, Tryz.ntmps36
                  go_wp2_with (first
                    | (go_at_call 48; with_reducible refine (HN.out _).mono ?_; rintro e w1 ⟨rfl, hb⟩; have hx := (hb.block w.heap.size (lt_of_block HX.out)).trans HX.out; have r0 := obj_cell hx 0; have r1 := obj_cell hx 1; have r2 := obj_cell hx 2; have r3 := obj_cell hx 3; have r4 := obj_cell hx 4; have r5 := obj_cell hx 5; have r6 := obj_cell hx 6; replace HX := Lib.hid hx; replace HB := Lib.hid (HB.out.trans (hb.mono HB.out.size)); clear hb hx )
                    | (go_at_call 48; with_reducible refine (HO.out _).mono ?_; rintro e w1 ⟨rfl, hb⟩; have hx := (hb.block w.heap.size (lt_of_block HX.out)).trans HX.out; have r0 := obj_cell hx 0; have r1 := obj_cell hx 1; have r2 := obj_cell hx 2; have r3 := obj_cell hx 3; have r4 := obj_cell hx 4; have r5 := obj_cell hx 5; have r6 := obj_cell hx 6; replace HX := Lib.hid hx; replace HB := Lib.hid (HB.out.trans (hb.mono HB.out.size)); clear hb hx )
                    | (go_at_call 48; with_reducible refine (HR.out _).mono ?_; rintro e w1 ⟨rfl, hb⟩; have hx := (hb.block w.heap.size (lt_of_block HX.out)).trans HX.out; have r0 := obj_cell hx 0; have r1 := obj_cell hx 1; have r2 := obj_cell hx 2; have r3 := obj_cell hx 3; have r4 := obj_cell hx 4; have r5 := obj_cell hx 5; have r6 := obj_cell hx 6; replace HX := Lib.hid hx; replace HB := Lib.hid (HB.out.trans (hb.mono HB.out.size)); clear hb hx )
                    | (go_at_call 63; refine (HF.out _).mono ?_; rintro e w2 ⟨rfl, rfl⟩)
                    | (go_at_call 64; refine (HM.out _).mono ?_; rintro e w2 ⟨rfl, rfl⟩))
                  all_goals (go_ret; exact ⟨by rw [HV.out]; rfl, HB.out⟩)
                | false =>
                  have HV : Hid (C = 0) := Lib.hid (by rw [HC.out]; simp [*])
                  clear HC
                  go_enter Tryz.func36, Tryz.ntmps36
                  go_wp2_with (first
                    | (go_at_call 48; with_reducible refine (HN.out _).mono ?_; rintro e w1 ⟨rfl, hb⟩; have hx := (hb.block w.heap.size (lt_of_block HX.out)).trans HX.out; have r0 := obj_cell hx 0; have r1 := obj_cell hx 1; have r2 := obj_cell hx 2; have r3 := obj_cell hx 3; have r4 := obj_cell hx 4; have r5 := obj_cell hx 5; have r6 := obj_cell hx 6; replace HX := Lib.hid hx; replace HB := Lib.hid (HB.out.trans (hb.mono HB.out.size)); clear hb hx )
                    | (go_at_call 48; with_reducible refine (HO.out _).mono ?_; rintro e w1 ⟨rfl, hb⟩; have hx := (hb.block w.heap.size (lt_of_block HX.out)).trans HX.out; have r0 := obj_cell hx 0; have r1 := obj_cell hx 1; have r2 := obj_cell hx 2; have r3 := obj_cell hx 3; have r4 := obj_cell hx 4; have r5 := obj_cell hx 5; have r6 := obj_cell hx 6; replace HX := Lib.hid hx; replace HB := Lib.hid (HB.out.trans (hb.mono HB.out.size)); clear hb hx )
                    | (go_at_call 48; with_reducible refine (HR.out _).mono ?_; rintro e w1 ⟨rfl, hb⟩; have hx := (hb.block w.heap.size (lt_of_block HX.out)).trans HX.out; have r0 := obj_cell hx 0; have r1 := obj_cell hx 1; have r2 := obj_cell hx 2; have r3 := obj_cell hx 3; have r4 := obj_cell hx 4; have r5 := obj_cell hx 5; have r6 := obj_cell hx 6; replace HX := Lib.hid hx; replace HB := Lib.hid (HB.out.trans (hb.mono HB.out.size)); clear hb hx )
                    | (go_at_call 63; refine (HF.out _).mono ?_; rintro e w2 ⟨rfl, rfl⟩)
                    | (go_at_call 64; refine (HM.out _).mono ?_; rintro e w2 ⟨rfl, rfl⟩))
                  all_goals (go_ret; exact ⟨by rw [HV.out]; rfl, HB.out⟩)
            | false =>
              have HV : Hid (C = 1) := Lib.hid (by rw [HC.out]; simp [*])
              clear HC
              go_enter Tryz.func36, Tryz.ntmps36
              go_wp2_with (first
                | (go_at_call 48; with_reducible refine (HN.out _).mono ?_; rintro e w1 ⟨rfl, hb⟩; have hx := (hb.block w.heap.size (lt_of_block HX.out)).trans HX.out; have r0 := obj_cell hx 0; have r1 := obj_cell hx 1; have r2 := obj_cell hx 2; have r3 := obj_cell hx 3; have r4 := obj_cell hx 4; have r5 := obj_cell hx 5; have r6 := obj_cell hx 6; replace HX := Lib.hid hx; replace HB := Lib.hid (HB.out.trans (hb.mono HB.out.size)); clear hb hx )
                | (go_at_call 48; with_reducible refine (HO.out _).mono ?_; rintro e w1 ⟨rfl, hb⟩; have hx := (hb.block w.heap.size (lt_of_block HX.out)).trans HX.out; have r0 := obj_cell hx 0; have r1 := obj_cell hx 1; have r2 := obj_cell hx 2; have r3 := obj_cell hx 3; have r4 := obj_cell hx 4; have r5 := obj_cell hx 5; have r6 := obj_cell hx 6; replace HX := Lib.hid hx; replace HB := Lib.hid (HB.out.trans (hb.mono HB.out.size)); clear hb hx )
                | (go_at_call 48; with_reducible refine (HR.out _).mono ?_; rintro e w1 ⟨rfl, hb⟩; have hx := (hb.block w.heap.size (lt_of_block HX.out)).trans HX.out; have r0 := obj_cell hx 0; have r1 := obj_cell hx 1; have r2 := obj_cell hx 2; have r3 := obj_cell hx 3; have r4 := obj_cell hx 4; have r5 := obj_cell hx 5; have r6 := obj_cell hx 6; replace HX := Lib.hid hx; replace HB := Lib.hid (HB.out.trans (hb.mono HB.out.size)); clear hb hx )
                | (go_at_call 63; refine (HF.out _).mono ?_; rintro e w2 ⟨rfl, rfl⟩)
                | (go_at_call 64; refine (HM.out _).mono ?_; rintro e w2 ⟨rfl, rfl⟩))
              all_goals (go_ret; exact ⟨by rw [HV.out]; rfl, HB.out⟩)
          | false =>
            have HV : Hid (C = 2) := Lib.hid (by rw [HC.out]; simp [*])
            clear HC
            go_enter Tryz.func36, Tryz.ntmps36
            go_wp2_with (first
              | (go_at_call 48; with_reducible refine (HN.out _).mono ?_; rintro e w1 ⟨rfl, hb⟩; have hx := (hb.block w.heap.size (lt_of_block HX.out)).trans HX.out; have r0 := obj_cell hx 0; have r1 := obj_cell hx 1; have r2 := obj_cell hx 2; have r3 := obj_cell hx 3; have r4 := obj_cell hx 4; have r5 := obj_cell hx 5; have r6 := obj_cell hx 6; replace HX := Lib.hid hx; replace HB := Lib.hid (HB.out.trans (hb.mono HB.out.size)); clear hb hx )
              | (go_at_call 48; with_reducible refine (HO.out _).mono ?_; rintro e w1 ⟨rfl, hb⟩; have hx := (hb.block w.heap.size (lt_of_block HX.out)).trans HX.out; have r0 := obj_cell hx 0; have r1 := obj_cell hx 1; have r2 := obj_cell hx 2; have r3 := obj_cell hx 3; have r4 := obj_cell hx 4; have r5 := obj_cell hx 5; have r6 := obj_cell hx 6; replace HX := Lib.hid hx; replace HB := Lib.hid (HB.out.trans (hb.mono HB.out.size)); clear hb hx )
              | (go_at_call 48; with_reducible refine (HR.out _).mono ?_; rintro e w1 ⟨rfl, hb⟩; have hx := (hb.block w.heap.size (lt_of_block HX.out)).trans HX.out; have r0 := obj_cell hx 0; have r1 := obj_cell hx 1; have r2 := obj_cell hx 2; have r3 := obj_cell hx 3; have r4 := obj_cell hx 4; have r5 := obj_cell hx 5; have r6 := obj_cell hx 6; replace HX := Lib.hid hx; replace HB := Lib.hid (HB.out.trans (hb.mono HB.out.size)); clear hb hx )
              | (go_at_call 63; refine (HF.out _).mono ?_; rintro e w2 ⟨rfl, rfl⟩)
              | (go_at_call 64; refine (HM.out _).mono ?_; rintro e w2 ⟨rfl, rfl⟩))
            all_goals (go_ret; exact ⟨by rw [HV.out]; rfl, HB.out⟩)
        · skip
          by_cases h15x : ty = 15
          · skip
            subst h15x
            cases rb with
            | true =>
              cases fb with
              | true =>
                cases rep with
                | true =>
                  have HV : Hid (C = 1) := Lib.hid (by rw [HC.out]; simp [*])
                  clear HC
                  go_enter Tryz.func36, Tryz.ntmps36
                  go_wp2_with (first
                    | (go_at_call 48; with_reducible refine (HN.out _).mono ?_; rintro e w1 ⟨rfl, hb⟩; have hx := (hb.block w.heap.size (lt_of_block HX.out)).trans HX.out; have r0 := obj_cell hx 0; have r1 := obj_cell hx 1; have r2 := obj_cell hx 2; have r3 := obj_cell hx 3; have r4 := obj_cell hx 4; have r5 := obj_cell hx 5; have r6 := obj_cell hx 6; replace HX := Lib.hid hx; replace HB := Lib.hid (HB.out.trans (hb.mono HB.out.size)); clear hb hx )
                    | (go_at_call 48; with_reducible refine (HO.out _).mono ?_; rintro e w1 ⟨rfl, hb⟩; have hx := (hb.block w.heap.size (lt_of_block HX.out)).trans HX.out; have r0 := obj_cell hx 0; have r1 := obj_cell hx 1; have r2 := obj_cell hx 2; have r3 := obj_cell hx 3; have r4 := obj_cell hx 4; have r5 := obj_cell hx 5; have r6 := obj_cell hx 6; replace HX := Lib.hid hx; replace HB := Lib.hid (HB.out.trans (hb.mono HB.out.size)); clear hb hx )
                    | (go_at_call 48; with_reducible refine (HR.out _).mono ?_; rintro e w1 ⟨rfl, hb⟩; have hx := (hb.block w.heap.size (lt_of_block HX.out)).trans HX.out; have r0 := obj_cell hx 0; have r1 := obj_cell hx 1; have r2 := obj_cell hx 2; have r3 := obj_cell hx 3; have r4 := obj_cell hx 4; have r5 := obj_cell hx 5; have r6 := obj_cell hx 6; replace HX := Lib.hid hx; replace HB := Lib.hid (HB.out.trans (hb.mono HB.out.size)); clear hb hx )
                    | (go_at_call 63; refine (HF.out _).mono ?_; rintro e w2 ⟨rfl, rfl⟩)
                    | (go_at_call 64; refine (HM.out _).mono ?_; rintro e w2 ⟨rfl, rfl⟩))
                  all_goals (go_ret; exact ⟨by rw [HV.out]; rfl, HB.out⟩)
                | false =>
                  cases loose with
                  | true =>
                    have HV : Hid (C = 1) := Lib.hid (by rw [HC.out]; simp [*])
                    clear HC
                    go_enter Tryz.func36, Tryz.ntmps36
                    go_wp2_with (first
                      | (go_at_call 48; with_reducible refine (HN.out _).mono ?_; rintro e w1 ⟨rfl, hb⟩; have hx := (hb.block w.heap.size (lt_of_block HX.out)).trans HX.out; have r0 := obj_cell hx 0; have r1 := obj_cell hx 1; have r2 := obj_cell hx 2; have r3 := obj_cell hx 3; have r4 := obj_cell hx 4; have r5 := obj_cell hx 5; have r6 := obj_cell hx 6; replace HX := Lib.hid hx; replace HB := Lib.hid (HB.out.trans (hb.mono HB.out.size)); clear hb hx )
                      | (go_at_call 48; with_reducible refine (HO.out _).mono ?_; rintro e w1 ⟨rfl, hb⟩; have hx := (hb.block w.heap.size (lt_of_block HX.out)).trans HX.out; have r0 := obj_cell hx 0; have r1 := obj_cell hx 1; have r2 := obj_cell hx 2; have r3 := obj_cell hx 3; have r4 := obj_cell hx 4; have r5 := obj_cell hx 5; have r6 := obj_cell hx 6; replace HX := Lib.hid hx; replace HB := Lib.hid (HB.out.trans (hb.mono HB.out.size)); clear hb hx )
                      | (go_at_call 48; with_reducible refine (HR.out _).mono ?_; rintro e w1 ⟨rfl, hb⟩; have hx := (hb.block w.heap.size (lt_of_block HX.out)).trans HX.out; have r0 := obj_cell hx 0; have r1 := obj_cell hx 1; have r2 := obj_cell hx 2; have r3 := obj_cell hx 3; have r4 := obj_cell hx 4; have r5 := obj_cell hx 5; have r6 := obj_cell hx 6; replace HX := Lib.hid hx; replace HB := Lib.hid (HB.out.trans (hb.mono HB.out.size)); clear hb hx )
                      | (go_at_call 63; refine (HF.out _).mono ?_; rintro e w2 ⟨rfl, rfl⟩)
                      | (go_at_call 64; refine (HM.out _).mono ?_; rintro e w2 ⟨rfl, rfl⟩))
                    all_goals (go_ret; exact ⟨by rw [HV.out]; rfl, HB.out⟩)
                  | false =>
                    have HV : Hid (C = 0) := Lib.hid (by rw [HC.out]; simp [*])
                    clear HC
                    go_enter Tryz.func36, Tryz.ntmps36
                    go_wp2_with (first
                      | (go_at_call 48; with_reducible refine (HN.out _).mono ?_; rintro e w1 ⟨rfl, hb⟩; have hx := (hb.block w.heap.size (lt_of_block HX.out)).trans HX.out; have r0 := obj_cell hx 0; have r1 := obj_cell hx 1; have r2 := obj_cell hx 2; have r3 := obj_cell hx 3; have r4 := obj_cell hx 4; have r5 := obj_cell hx 5; have r6 := obj_cell hx 6; replace HX := Lib.hid hx; replace HB := Lib.hid (HB.out.trans (hb.mono HB.out.size)); clear hb hx )
                      | (go_at_call 48; with_reducible refine (HO.out _).mono ?_; rintro e w1 ⟨rfl, hb⟩; have hx := (hb.block w.heap.size (lt_of_block HX.out)).trans HX.out; have r0 := obj_cell hx 0; have r1 := obj_cell hx 1; have r2 := obj_cell hx 2; have r3 := obj_cell hx 3; have r4 := obj_cell hx 4; have r5 := obj_cell hx 5; have r6 := obj_cell hx 6; replace HX := Lib.hid hx; replace HB := Lib.hid (HB.out.trans (hb.mono HB.out.size)); clear hb hx )
                      | (go_at_call 48; with_reducible refine (HR.out _).mono ?_; rintro e w1 ⟨rfl, hb⟩; have hx := (hb.block w.heap.size (lt_of_block HX.out)).trans HX.out; have r0 := obj_cell hx 0; have r1 := obj_cell hx 1; have r2 := obj_cell hx 2; have r3 := obj_cell hx 3; have r4 := obj_cell hx 4; have r5 := obj_cell hx 5; have r6 := obj_cell hx 6; replace HX := Lib.hid hx; replace HB := Lib.hid (HB.out.trans (hb.mono HB.out.size)); clear hb hx )
                      | (go_at_call 63; refine (HF.out _).mono ?_; rintro e w2 ⟨rfl, rfl⟩)
                      | (go_at_call 64; refine (HM.out _).mono ?_; rintro e w2 ⟨rfl, rfl⟩))
                    all_goals (go_ret; exact ⟨by rw [HV.out]; rfl, HB.out⟩)
              | false =>
                have HV : Hid (C = 1) := Lib.hid (by rw [HC.out]; simp [*])
                clear HC
                go_enter Tryz.func36, Tryz.ntmps36
                go_wp2_with (first
                  | (go_at_call 48; with_reducible refine (HN.out _).mono ?_; rintro e w1 ⟨rfl, hb⟩; have hx := (hb.block w.heap.size (lt_of_block HX.out)).trans HX.out; have r0 := obj_cell hx 0; have r1 := obj_cell hx 1; have r2 := obj_cell hx 2; have r3 := obj_cell hx 3; have r4 := obj_cell hx 4; have r5 := obj_cell hx 5; have r6 := obj_cell hx 6; replace HX := Lib.hid hx; replace HB := Lib.hid (HB.out.trans (hb.mono HB.out.size)); clear hb hx )
                  | (go_at_call 48; with_reducible refine (HO.out _).mono ?_; rintro e w1 ⟨rfl, hb⟩; have hx := (hb.block w.heap.size (lt_of_block HX.out)).trans HX.out; have r0 := obj_cell hx 0; have r1 := obj_cell hx 1; have r2 := obj_cell hx 2; have r3 := obj_cell hx 3; have r4 := obj_cell hx 4; have r5 := obj_cell hx 5; have r6 := obj_cell hx 6; replace HX := Lib.hid hx; replace HB := Lib.hid (HB.out.trans (hb.mono HB.out.size)); clear hb hx )
                  | (go_at_call 48; with_reducible refine (HR.out _).mono ?_; rintro e w1 ⟨rfl, hb⟩; have hx := (hb.block w.heap.size (lt_of_block HX.out)).trans HX.out; have r0 := obj_cell hx 0; have r1 := obj_cell hx 1; have r2 := obj_cell hx 2; have r3 := obj_cell hx 3; have r4 := obj_cell hx 4; have r5 := obj_cell hx 5; have r6 := obj_cell hx 6; replace HX := Lib.hid hx; replace HB := Lib.hid (HB.out.trans (hb.mono HB.out.size)); clear hb hx )
                  | (go_at_call 63; refine (HF.out _).mono ?_; rintro e w2 ⟨rfl, rfl⟩)
                  | (go_at_call 64; refine (HM.out _).mono ?_; rintro e w2 ⟨rfl, rfl⟩))
                all_goals (go_ret; exact ⟨by rw [HV.out]; rfl, HB.out⟩)
            | false =>
              have HV : Hid (C = 2) := Lib.hid (by rw [HC.out]; simp [*])
              clear HC
              go_enter Tryz.func36, Tryz.ntmps36
              go_wp2_with (first
                | (go_at_call 48; with_reducible refine (HN.out _).mono ?_; rintro e w1 ⟨rfl, hb⟩; have hx := (hb.block w.heap.size (lt_of_block HX.out)).trans HX.out; have r0 := obj_cell hx 0; have r1 := obj_cell hx 1; have r2 := obj_cell hx 2; have r3 := obj_cell hx 3; have r4 := obj_cell hx 4; have r5 := obj_cell hx 5; have r6 := obj_cell hx 6; replace HX := Lib.hid hx; replace HB := Lib.hid (HB.out.trans (hb.mono HB.out.size)); clear hb hx )
                | (go_at_call 48; with_reducible refine (HO.out _).mono ?_; rintro e w1 ⟨rfl, hb⟩; have hx := (hb.block w.heap.size (lt_of_block HX.out)).trans HX.out; have r0 := obj_cell hx 0; have r1 := obj_cell hx 1; have r2 := obj_cell hx 2; have r3 := obj_cell hx 3; have r4 := obj_cell hx 4; have r5 := obj_cell hx 5; have r6 := obj_cell hx 6; replace HX := Lib.hid hx; replace HB := Lib.hid (HB.out.trans (hb.mono HB.out.size)); clear hb hx )
                | (go_at_call 48; with_reducible refine (HR.out _).mono ?_; rintro e w1 ⟨rfl, hb⟩; have hx := (hb.block w.heap.size (lt_of_block HX.out)).trans HX.out; have r0 := obj_cell hx 0; have r1 := obj_cell hx 1; have r2 := obj_cell hx 2; have r3 := obj_cell hx 3; have r4 := obj_cell hx 4; have r5 := obj_cell hx 5; have r6 := obj_cell hx 6; replace HX := Lib.hid hx; replace HB := Lib.hid (HB.out.trans (hb.mono HB.out.size)); clear hb hx )
                | (go_at_call 63; refine (HF.out _).mono ?_; rintro e w2 ⟨rfl, rfl⟩)
                | (go_at_call 64; refine (HM.out _).mono ?_; rintro e w2 ⟨rfl, rfl⟩))
              all_goals (go_ret; exact ⟨by rw [HV.out]; rfl, HB.out⟩)
          · skip
            have e14 : (ty == 14) = false := beq_false_of_ne h14
            have e15 : (ty == 15) = false := beq_false_of_ne h15x
            rcases hr3 with ⟨rfl, a3, a2⟩ | ⟨rfl, a3, a2⟩
            · skip
              cases fb with
              | true =>
                by_cases h1 : ty < 1
                · skip
                  have d1 : decide (ty < 1) = true := decide_eq_true h1
                  have HV : Hid (C = 1) := Lib.hid (by rw [HC.out]; simp [*])
                  clear HC
                  go_enter Tryz.func36, Tryz.ntmps36
                  go_wp2_with (first
                    | (go_at_call 48; with_reducible refine (HN.out _).mono ?_; rintro e w1 ⟨rfl, hb⟩; have hx := (hb.block w.heap.size (lt_of_block HX.out)).trans HX.out; have r0 := obj_cell hx 0; have r1 := obj_cell hx 1; have r2 := obj_cell hx 2; have r3 := obj_cell hx 3; have r4 := obj_cell hx 4; have r5 := obj_cell hx 5; have r6 := obj_cell hx 6; replace HX := Lib.hid hx; replace HB := Lib.hid (HB.out.trans (hb.mono HB.out.size)); clear hb hx )
                    | (go_at_call 48; with_reducible refine (HO.out _).mono ?_; rintro e w1 ⟨rfl, hb⟩; have hx := (hb.block w.heap.size (lt_of_block HX.out)).trans HX.out; have r0 := obj_cell hx 0; have r1 := obj_cell hx 1; have r2 := obj_cell hx 2; have r3 := obj_cell hx 3; have r4 := obj_cell hx 4; have r5 := obj_cell hx 5; have r6 := obj_cell hx 6; replace HX := Lib.hid hx; replace HB := Lib.hid (HB.out.trans (hb.mono HB.out.size)); clear hb hx )
                    | (go_at_call 48; with_reducible refine (HR.out _).mono ?_; rintro e w1 ⟨rfl, hb⟩; have hx := (hb.block w.heap.size (lt_of_block HX.out)).trans HX.out; have r0 := obj_cell hx 0; have r1 := obj_cell hx 1; have r2 := obj_cell hx 2; have r3 := obj_cell hx 3; have r4 := obj_cell hx 4; have r5 := obj_cell hx 5; have r6 := obj_cell hx 6; replace HX := Lib.hid hx; replace HB := Lib.hid (HB.out.trans (hb.mono HB.out.size)); clear hb hx )
                    | (go_at_call 63; refine (HF.out _).mono ?_; rintro e w2 ⟨rfl, rfl⟩)
                    | (go_at_call 64; refine (HM.out _).mono ?_; rintro e w2 ⟨rfl, rfl⟩))
                  all_goals (go_ret; exact ⟨by rw [HV.out]; rfl, HB.out⟩)
                · skip
                  have d1 : decide (ty < 1) = false := decide_eq_false h1
                  by_cases h15 : 15 < ty
                  · skip
                    have d15 : decide (ty > 15) = true := decide_eq_true h15
                    have HV : Hid (C = 1) := Lib.hid (by rw [HC.out]; simp [*])
                    clear HC
                    go_enter Tryz.func36, Tryz.ntmps36
                    go_wp2_with (first
                      | (go_at_call 48; with_reducible refine (HN.out _).mono ?_; rintro e w1 ⟨rfl, hb⟩; have hx := (hb.block w.heap.size (lt_of_block HX.out)).trans HX.out; have r0 := obj_cell hx 0; have r1 := obj_cell hx 1; have r2 := obj_cell hx 2; have r3 := obj_cell hx 3; have r4 := obj_cell hx 4; have r5 := obj_cell hx 5; have r6 := obj_cell hx 6; replace HX := Lib.hid hx; replace HB := Lib.hid (HB.out.trans (hb.mono HB.out.size)); clear hb hx )
                      | (go_at_call 48; with_reducible refine (HO.out _).mono ?_; rintro e w1 ⟨rfl, hb⟩; have hx := (hb.block w.heap.size (lt_of_block HX.out)).trans HX.out; have r0 := obj_cell hx 0; have r1 := obj_cell hx 1; have r2 := obj_cell hx 2; have r3 := obj_cell hx 3; have r4 := obj_cell hx 4; have r5 := obj_cell hx 5; have r6 := obj_cell hx 6; replace HX := Lib.hid hx; replace HB := Lib.hid (HB.out.trans (hb.mono HB.out.size)); clear hb hx )
                      | (go_at_call 48; with_reducible refine (HR.out _).mono ?_; rintro e w1 ⟨rfl, hb⟩; have hx := (hb.block w.heap.size (lt_of_block HX.out)).trans HX.out; have r0 := obj_cell hx 0; have r1 := obj_cell hx 1; have r2 := obj_cell hx 2; have r3 := obj_cell hx 3; have r4 := obj_cell hx 4; have r5 := obj_cell hx 5; have r6 := obj_cell hx 6; replace HX := Lib.hid hx; replace HB := Lib.hid (HB.out.trans (hb.mono HB.out.size)); clear hb hx )
                      | (go_at_call 63; refine (HF.out _).mono ?_; rintro e w2 ⟨rfl, rfl⟩)
                      | (go_at_call 64; refine (HM.out _).mono ?_; rintro e w2 ⟨rfl, rfl⟩))
                    all_goals (go_ret; exact ⟨by rw [HV.out]; rfl, HB.out⟩)
                  · skip
                    have d15 : decide (ty > 15) = false := decide_eq_false h15
                    cases rep with
                    | true =>
                      have HV : Hid (C = 1) := Lib.hid (by rw [HC.out]; simp [*])
                      clear HC
                      go_enter Tryz.func36, Tryz.ntmps36
                      go_wp2_with (first
                        | (go_at_call 48; with_reducible refine (HN.out _).mono ?_; rintro e w1 ⟨rfl, hb⟩; have hx := (hb.block w.heap.size (lt_of_block HX.out)).trans HX.out; have r0 := obj_cell hx 0; have r1 := obj_cell hx 1; have r2 := obj_cell hx 2; have r3 := obj_cell hx 3; have r4 := obj_cell hx 4; have r5 := obj_cell hx 5; have r6 := obj_cell hx 6; replace HX := Lib.hid hx; replace HB := Lib.hid (HB.out.trans (hb.mono HB.out.size)); clear hb hx )
                        | (go_at_call 48; with_reducible refine (HO.out _).mono ?_; rintro e w1 ⟨rfl, hb⟩; have hx := (hb.block w.heap.size (lt_of_block HX.out)).trans HX.out; have r0 := obj_cell hx 0; have r1 := obj_cell hx 1; have r2 := obj_cell hx 2; have r3 := obj_cell hx 3; have r4 := obj_cell hx 4; have r5 := obj_cell hx 5; have r6 := obj_cell hx 6; replace HX := Lib.hid hx; replace HB := Lib.hid (HB.out.trans (hb.mono HB.out.size)); clear hb hx )
                        | (go_at_call 48; with_reducible refine (HR.out _).mono ?_; rintro e w1 ⟨rfl, hb⟩; have hx := (hb.block w.heap.size (lt_of_block HX.out)).trans HX.out; have r0 := obj_cell hx 0; have r1 := obj_cell hx 1; have r2 := obj_cell hx 2; have r3 := obj_cell hx 3; have r4 := obj_cell hx 4; have r5 := obj_cell hx 5; have r6 := obj_cell hx 6; replace HX := Lib.hid hx; replace HB := Lib.hid (HB.out.trans (hb.mono HB.out.size)); clear hb hx )
                        | (go_at_call 63; refine (HF.out _).mono ?_; rintro e w2 ⟨rfl, rfl⟩)
                        | (go_at_call 64; refine (HM.out _).mono ?_; rintro e w2 ⟨rfl, rfl⟩))
                      all_goals (go_ret; exact ⟨by rw [HV.out]; rfl, HB.out⟩)
                    | false =>
                      cases loose with
                      | true =>
                        have HV : Hid (C = 1) := Lib.hid (by rw [HC.out]; simp [*])
                        clear HC
                        go_enter Tryz.func36, Tryz.ntmps36
                        go_wp2_with (first
                          | (go_at_call 48; with_reducible refine (HN.out _).mono ?_; rintro e w1 ⟨rfl, hb⟩; have hx := (hb.block w.heap.size (lt_of_block HX.out)).trans HX.out; have r0 := obj_cell hx 0; have r1 := obj_cell hx 1; have r2 := obj_cell hx 2; have r3 := obj_cell hx 3; have r4 := obj_cell hx 4; have r5 := obj_cell hx 5; have r6 := obj_cell hx 6; replace HX := Lib.hid hx; replace HB := Lib.hid (HB.out.trans (hb.mono HB.out.size)); clear hb hx )
                          | (go_at_call 48; with_reducible refine (HO.out _).mono ?_; rintro e w1 ⟨rfl, hb⟩; have hx := (hb.block w.heap.size (lt_of_block HX.out)).trans HX.out; have r0 := obj_cell hx 0; have r1 := obj_cell hx 1; have r2 := obj_cell hx 2; have r3 := obj_cell hx 3; have r4 := obj_cell hx 4; have r5 := obj_cell hx 5; have r6 := obj_cell hx 6; replace HX := Lib.hid hx; replace HB := Lib.hid (HB.out.trans (hb.mono HB.out.size)); clear hb hx )
                          | (go_at_call 48; with_reducible refine (HR.out _).mono ?_; rintro e w1 ⟨rfl, hb⟩; have hx := (hb.block w.heap.size (lt_of_block HX.out)).trans HX.out; have r0 := obj_cell hx 0; have r1 := obj_cell hx 1; have r2 := obj_cell hx 2; have r3 := obj_cell hx 3; have r4 := obj_cell hx 4; have r5 := obj_cell hx 5; have r6 := obj_cell hx 6; replace HX := Lib.hid hx; replace HB := Lib.hid (HB.out.trans (hb.mono HB.out.size)); clear hb hx )
                          | (go_at_call 63; refine (HF.out _).mono ?_; rintro e w2 ⟨rfl, rfl⟩)
                          | (go_at_call 64; refine (HM.out _).mono ?_; rintro e w2 ⟨rfl, rfl⟩))
                        all_goals (go_ret; exact ⟨by rw [HV.out]; rfl, HB.out⟩)
                      | false =>
                        have HV : Hid (C = 0) := Lib.hid (by rw [HC.out]; simp [*])
                        clear HC
                        go_enter Tryz.func36, Tryz.ntmps36
                        go_wp2_with (first
                          | (go_at_call 48; with_reducible refine (HN.out _).mono ?_; rintro e w1 ⟨rfl, hb⟩; have hx := (hb.block w.heap.size (lt_of_block HX.out)).trans HX.out; have r0 := obj_cell hx 0; have r1 := obj_cell hx 1; have r2 := obj_cell hx 2; have r3 := obj_cell hx 3; have r4 := obj_cell hx 4; have r5 := obj_cell hx 5; have r6 := obj_cell hx 6; replace HX := Lib.hid hx; replace HB := Lib.hid (HB.out.trans (hb.mono HB.out.size)); clear hb hx )
                          | (go_at_call 48; with_reducible refine (HO.out _).mono ?_; rintro e w1 ⟨rfl, hb⟩; have hx := (hb.block w.heap.size (lt_of_block HX.out)).trans HX.out; have r0 := obj_cell hx 0; have r1 := obj_cell hx 1; have r2 := obj_cell hx 2; have r3 := obj_cell hx 3; have r4 := obj_cell hx 4; have r5 := obj_cell hx 5; have r6 := obj_cell hx 6; replace HX := Lib.hid hx; replace HB := Lib.hid (HB.out.trans (hb.mono HB.out.size)); clear hb hx )
                          | (go_at_call 48; with_reducible refine (HR.out _).mono ?_; rintro e w1 ⟨rfl, hb⟩; have hx := (hb.block w.heap.size (lt_of_block HX.out)).trans HX.out; have r0 := obj_cell hx 0; have r1 := obj_cell hx 1; have r2 := obj_cell hx 2; have r3 := obj_cell hx 3; have r4 := obj_cell hx 4; have r5 := obj_cell hx 5; have r6 := obj_cell hx 6; replace HX := Lib.hid hx; replace HB := Lib.hid (HB.out.trans (hb.mono HB.out.size)); clear hb hx )
                          | (go_at_call 63; refine (HF.out _).mono ?_; rintro e w2 ⟨rfl, rfl⟩)
                          | (go_at_call 64; refine (HM.out _).mono ?_; rintro e w2 ⟨rfl, rfl⟩))
                        all_goals (go_ret; exact ⟨by rw [HV.out]; rfl, HB.out⟩)
              | false =>
                have HV : Hid (C = 1) := Lib.hid (by rw [HC.out]; simp [*])
                clear HC
                go_enter Tryz.func36, Tryz.ntmps36
                go_wp2_with (first
                  | (go_at_call 48; with_reducible refine (HN.out _).mono ?_; rintro e w1 ⟨rfl, hb⟩; have hx := (hb.block w.heap.size (lt_of_block HX.out)).trans HX.out; have r0 := obj_cell hx 0; have r1 := obj_cell hx 1; have r2 := obj_cell hx 2; have r3 := obj_cell hx 3; have r4 := obj_cell hx 4; have r5 := obj_cell hx 5; have r6 := obj_cell hx 6; replace HX := Lib.hid hx; replace HB := Lib.hid (HB.out.trans (hb.mono HB.out.size)); clear hb hx )
                  | (go_at_call 48; with_reducible refine (HO.out _).mono ?_; rintro e w1 ⟨rfl, hb⟩; have hx := (hb.block w.heap.size (lt_of_block HX.out)).trans HX.out; have r0 := obj_cell hx 0; have r1 := obj_cell hx 1; have r2 := obj_cell hx 2; have r3 := obj_cell hx 3; have r4 := obj_cell hx 4; have r5 := obj_cell hx 5; have r6 := obj_cell hx 6; replace HX := Lib.hid hx; replace HB := Lib.hid (HB.out.trans (hb.mono HB.out.size)); clear hb hx )
                  | (go_at_call 48; with_reducible refine (HR.out _).mono ?_; rintro e w1 ⟨rfl, hb⟩; have hx := (hb.block w.heap.size (lt_of_block HX.out)).trans HX.out; have r0 := obj_cell hx 0; have r1 := obj_cell hx 1; have r2 := obj_cell hx 2; have r3 := obj_cell hx 3; have r4 := obj_cell hx 4; have r5 := obj_cell hx 5; have r6 := obj_cell hx 6; replace HX := Lib.hid hx; replace HB := Lib.hid (HB.out.trans (hb.mono HB.out.size)); clear hb hx )
                  | (go_at_call 63; refine (HF.out _).mono ?_; rintro e w2 ⟨rfl, rfl⟩)
                  | (go_at_call 64; refine (HM.out _).mono ?_; rintro e w2 ⟨rfl, rfl⟩))
                all_goals (go_ret; exact ⟨by rw [HV.out]; rfl, HB.out⟩)
            · skip
              have HV : Hid (C = 2) := Lib.hid (by rw [HC.out]; simp [*])
              clear HC
              go_enter Tryz.func36, Tryz.ntmps36
              go_wp2_with (first
                | (go_at_call 48; with_reducible refine (HN.out _).mono ?_; rintro e w1 ⟨rfl, hb⟩; have hx := (hb.block w.heap.size (lt_of_block HX.out)).trans HX.out; have r0 := obj_cell hx 0; have r1 := obj_cell hx 1; have r2 := obj_cell hx 2; have r3 := obj_cell hx 3; have r4 := obj_cell hx 4; have r5 := obj_cell hx 5; have r6 := obj_cell hx 6; replace HX := Lib.hid hx; replace HB := Lib.hid (HB.out.trans (hb.mono HB.out.size)); clear hb hx )
                | (go_at_call 48; with_reducible refine (HO.out _).mono ?_; rintro e w1 ⟨rfl, hb⟩; have hx := (hb.block w.heap.size (lt_of_block HX.out)).trans HX.out; have r0 := obj_cell hx 0; have r1 := obj_cell hx 1; have r2 := obj_cell hx 2; have r3 := obj_cell hx 3; have r4 := obj_cell hx 4; have r5 := obj_cell hx 5; have r6 := obj_cell hx 6; replace HX := Lib.hid hx; replace HB := Lib.hid (HB.out.trans (hb.mono HB.out.size)); clear hb hx )
                | (go_at_call 48; with_reducible refine (HR.out _).mono ?_; rintro e w1 ⟨rfl, hb⟩; have hx := (hb.block w.heap.size (lt_of_block HX.out)).trans HX.out; have r0 := obj_cell hx 0; have r1 := obj_cell hx 1; have r2 := obj_cell hx 2; have r3 := obj_cell hx 3; have r4 := obj_cell hx 4; have r5 := obj_cell hx 5; have r6 := obj_cell hx 6; replace HX := Lib.hid hx; replace HB := Lib.hid (HB.out.trans (hb.mono HB.out.size)); clear hb hx )
                | (go_at_call 63; refine (HF.out _).mono ?_; rintro e w2 ⟨rfl, rfl⟩)
                | (go_at_call 64; refine (HM.out _).mono ?_; rintro e w2 ⟨rfl, rfl⟩))
              all_goals (go_ret; exact ⟨by rw [HV.out]; rfl, HB.out⟩)
      | false =>
        have HV : Hid (C = 2) := Lib.hid (by rw [HC.out]; simp [*])
        clear HC
        go_enter Tryz.func36, Tryz.ntmps36
        go_wp2_with (first
          | (go_at_call 48; with_reducible refine (HN.out _).mono ?_; rintro e w1 ⟨rfl, hb⟩; have hx := (hb.block w.heap.size (lt_of_block HX.out)).trans HX.out; have r0 := obj_cell hx 0; have r1 := obj_cell hx 1; have r2 := obj_cell hx 2; have r3 := obj_cell hx 3; have r4 := obj_cell hx 4; have r5 := obj_cell hx 5; have r6 := obj_cell hx 6; replace HX := Lib.hid hx; replace HB := Lib.hid (HB.out.trans (hb.mono HB.out.size)); clear hb hx )
          | (go_at_call 48; with_reducible refine (HO.out _).mono ?_; rintro e w1 ⟨rfl, hb⟩; have hx := (hb.block w.heap.size (lt_of_block HX.out)).trans HX.out; have r0 := obj_cell hx 0; have r1 := obj_cell hx 1; have r2 := obj_cell hx 2; have r3 := obj_cell hx 3; have r4 := obj_cell hx 4; have r5 := obj_cell hx 5; have r6 := obj_cell hx 6; replace HX := Lib.hid hx; replace HB := Lib.hid (HB.out.trans (hb.mono HB.out.size)); clear hb hx )
          | (go_at_call 48; with_reducible refine (HR.out _).mono ?_; rintro e w1 ⟨rfl, hb⟩; have hx := (hb.block w.heap.size (lt_of_block HX.out)).trans HX.out; have r0 := obj_cell hx 0; have r1 := obj_cell hx 1; have r2 := obj_cell hx 2; have r3 := obj_cell hx 3; have r4 := obj_cell hx 4; have r5 := obj_cell hx 5; have r6 := obj_cell hx 6; replace HX := Lib.hid hx; replace HB := Lib.hid (HB.out.trans (hb.mono HB.out.size)); clear hb hx )
          | (go_at_call 63; refine (HF.out _).mono ?_; rintro e w2 ⟨rfl, rfl⟩)
          | (go_at_call 64; refine (HM.out _).mono ?_; rintro e w2 ⟨rfl, rfl⟩))
        all_goals (go_ret; exact ⟨by rw [HV.out]; rfl, HB.out⟩)
  | false =>
    have HV : Hid (C = 2) := Lib.hid (by rw [HC.out]; simp [*])
    clear HC
    go_enter Tryz.func36, Tryz.ntmps36
    go_wp2_with (first
      | (go_at_call 48; with_reducible refine (HN.out _).mono ?_; rintro e w1 ⟨rfl, hb⟩; have hx := (hb.block w.heap.size (lt_of_block HX.out)).trans HX.out; have r0 := obj_cell hx 0; have r1 := obj_cell hx 1; have r2 := obj_cell hx 2; have r3 := obj_cell hx 3; have r4 := obj_cell hx 4; have r5 := obj_cell hx 5; have r6 := obj_cell hx 6; replace HX := Lib.hid hx; replace HB := Lib.hid (HB.out.trans (hb.mono HB.out.size)); clear hb hx )
      | (go_at_call 48; with_reducible refine (HO.out _).mono ?_; rintro e w1 ⟨rfl, hb⟩; have hx := (hb.block w.heap.size (lt_of_block HX.out)).trans HX.out; have r0 := obj_cell hx 0; have r1 := obj_cell hx 1; have r2 := obj_cell hx 2; have r3 := obj_cell hx 3; have r4 := obj_cell hx 4; have r5 := obj_cell hx 5; have r6 := obj_cell hx 6; replace HX := Lib.hid hx; replace HB := Lib.hid (HB.out.trans (hb.mono HB.out.size)); clear hb hx )
      | (go_at_call 48; with_reducible refine (HR.out _).mono ?_; rintro e w1 ⟨rfl, hb⟩; have hx := (hb.block w.heap.size (lt_of_block HX.out)).trans HX.out; have r0 := obj_cell hx 0; have r1 := obj_cell hx 1; have r2 := obj_cell hx 2; have r3 := obj_cell hx 3; have r4 := obj_cell hx 4; have r5 := obj_cell hx 5; have r6 := obj_cell hx 6; replace HX := Lib.hid hx; replace HB := Lib.hid (HB.out.trans (hb.mono HB.out.size)); clear hb hx )
      | (go_at_call 63; refine (HF.out _).mono ?_; rintro e w2 ⟨rfl, rfl⟩)
      | (go_at_call 64; refine (HM.out _).mono ?_; rintro e w2 ⟨rfl, rfl⟩))
    all_goals (go_ret; exact ⟨by rw [HV.out]; rfl, HB.out⟩)
end Go.Proofs.YtjogamffdbedkaaGreatDoor
