/- FieldOnes' walk. Conditions: those that each theorem names. -/
import Derived.Test.YtnbjpeefndcheaaDoorFlLaw
import Derived.Test.YtnbjpeefndcheaaDoorRegLit
namespace Go.Proofs.YtnbjpeefndcheaaDoor
open Go.RowKit
set_option linter.unusedVariables false
set_option maxRecDepth 100000

set_option maxHeartbeats 8000000 in
theorem fieldones_walk {E : World → Prop} (ok : FieldOk E) (w : World) (env : E w) (f : Fd) (hc : Came f) : Calls Tryd.prog 5 #[fdV f] w fun e w' => e = .returned (.bool true) ∧ Below w.heap.size w w' := by
  have HENV := Lib.hid env
  have HRID := Lib.hid ok.erides
  have HLV : Hid (∀ w, E w → Calls Tryd.prog 7 #[] w fun e w' => e = .returned (.bool true) ∧ Below w.heap.size w w') := Lib.hid (fllive_any ok)
  have HSM := Lib.hid (fun u => flsmall_any f hc u)
  have HP := Lib.hid (fun u e => ok.packed f u e hc)
  have HH := Lib.hid (fun u e => ok.hidden f u e hc)
  have HNB := not_both f
  obtain ⟨pk, hpk⟩ : ∃ pk, pk = packedT f := ⟨_, rfl⟩
  obtain ⟨hd, hhd⟩ : ∃ hd, hd = hiddenT f := ⟨_, rfl⟩
  rw [← hpk] at HP HNB
  rw [← hhd] at HH HNB
  have hcB : Brief f → Came (noOne f) ∧ Brief (noOne f) ∧ Came (looser f) ∧ Brief (looser f) := fun hs => by
    obtain ⟨c1, c2, c3, c4, c5⟩ := hc
    unfold Brief at hs ⊢
    refine ⟨⟨c1, c2, c3, c4, by simp [noOne]⟩, ?_, ⟨c1, c2, c3, c4, by simp [looser]⟩, ?_⟩
    · simp only [noOne, List.length_nil]; omega
    · simp only [looser, List.length_nil]; omega
  by_cases hs : Brief f
  · have hs0 := hs
    unfold Brief at hs0
    rw [decide_eq_true hs0] at HSM
    have HCK := Lib.hid (fun u e => ok.check f u e hc (Brief.short hs))
    by_cases h0 : fcheckT f = 0
    · obtain ⟨n1, n2, l1, l2⟩ := hcB hs
      rw [h0] at HCK
      have HCG := Lib.hid (fun u e => ok.check (noOne f) u e n1 (Brief.short n2))
      have HTG := Lib.hid (fun u e => ok.text (noOne f) u e n1 (Brief.short n2))
      have HTF := Lib.hid (fun u e => ok.text f u e hc (Brief.short hs))
      have HCL := Lib.hid (fun u e => ok.check (looser f) u e l1 (Brief.short l2))
      have HPL := Lib.hid (fun u e => ok.packed (looser f) u e l1)
      rw [noOne_ok h0] at HCG
      rw [noOne_text h0] at HTG
      rw [looser_un] at HPL
      have hlo : pk = true → fcheckT (looser f) = 0 := fun hp => looser_ok h0 (by rw [← hpk, hp])
      obtain ⟨T, hT⟩ : ∃ T, T = strOf (ftextT f) := ⟨_, rfl⟩
      rw [← hT] at HTG HTF
      obtain ⟨C, hC⟩ : ∃ C, C = fcheckT (looser f) := ⟨_, rfl⟩
      rw [← hC] at HCL hlo
      obtain ⟨name, num, ty, ref, rep, loose, one⟩ := f
      unfold fdV at HSM HP HH HCK HTF HCG HTG HCL HPL ⊢
      unfold noOne at HCG HTG
      unfold looser at HCL HPL
      dsimp only at HSM HP HH HCK HTF HCG HTG HCL HPL ⊢
      rw [show strOf [] = ⟨#[]⟩ from rfl] at HCG HTG HCL HPL
      obtain ⟨sn, hsn⟩ : ∃ s, s = strOf name := ⟨_, rfl⟩
      obtain ⟨sr, hsr⟩ : ∃ s, s = strOf ref := ⟨_, rfl⟩
      obtain ⟨so, hso⟩ : ∃ s, s = strOf one := ⟨_, rfl⟩
      rw [← hsn, ← hsr] at HSM HP HH HCK HTF HCG HTG HCL HPL ⊢
      rw [← hso] at HSM HP HH HCK HTF ⊢
      have HB : Hid (Below w.heap.size w (w.alloc (.cells #[.string sn, .int .i64 num, .int .i64 ty, .string sr, .bool rep, .bool loose, .string so] 23))) := Lib.hid ((Below.refl _ w).alloc (Nat.le_refl _) _)
      have HX : Hid ((w.alloc (.cells #[.string sn, .int .i64 num, .int .i64 ty, .string sr, .bool rep, .bool loose, .string so] 23)).heap[w.heap.size]? = some (.cells #[.string sn, .int .i64 num, .int .i64 ty, .string sr, .bool rep, .bool loose, .string so] 23 (0, 0))) := Lib.hid (heap_alloc_new w _)
      clear ok env hc hcB hC hpk hhd hs hs0 hT h0 n1 n2 l1 l2 hsn hsr hso
      cases pk with
      | false =>
        clear hlo HNB
        go_enter Tryd.func5, Tryd.ntmps5
        go_wp2_with (first
          | (go_at_call 6; refine (HSM.out _).mono ?_; rintro e w1 ⟨rfl, hb⟩; have hx := (hb.block w.heap.size (lt_of_block HX.out)).trans HX.out; have r0 := obj_cell hx 0; have r1 := obj_cell hx 1; have r2 := obj_cell hx 2; have r3 := obj_cell hx 3; have r4 := obj_cell hx 4; have r5 := obj_cell hx 5; have r6 := obj_cell hx 6; have hb' := bel_next HB.out hb rfl rfl rfl rfl (by have := HB.out.size; omega); replace HX := Lib.hid hx; replace HB := Lib.hid hb'; clear hb hx hb')
          | (go_at_call 9; refine (HCK.out _ (by first | exact HRID.out _ _ HENV.out HB.out | exact HRID.out _ _ (HRID.out _ _ HENV.out HB.out) ⟨rfl, rfl, rfl, Nat.le_refl _, fun _ _ => rfl⟩)).mono ?_; rintro e w1 ⟨rfl, hb⟩; have hx := (hb.block w.heap.size (lt_of_block HX.out)).trans HX.out; have r0 := obj_cell hx 0; have r1 := obj_cell hx 1; have r2 := obj_cell hx 2; have r3 := obj_cell hx 3; have r4 := obj_cell hx 4; have r5 := obj_cell hx 5; have r6 := obj_cell hx 6; have hb' := bel_next HB.out hb rfl rfl rfl rfl (by have := HB.out.size; omega); replace HX := Lib.hid hx; replace HB := Lib.hid hb'; clear hb hx hb')
          | (go_at_call 8; refine (fnum_any _ _).mono ?_; rintro e w2 ⟨rfl, rfl⟩))
        have HBA : Hid (Below w.heap.size w (w1.alloc (.cells #[.string sn, .int .i64 num, .int .i64 ty, .string sr, .bool rep, .bool loose, .string ⟨#[]⟩] 23))) := Lib.hid (HB.out.alloc HB.out.size _)
        have HXA : Hid ((w1.alloc (.cells #[.string sn, .int .i64 num, .int .i64 ty, .string sr, .bool rep, .bool loose, .string ⟨#[]⟩] 23)).heap[w.heap.size]? = some (.cells #[.string sn, .int .i64 num, .int .i64 ty, .string sr, .bool rep, .bool loose, .string so] 23 (0, 0))) := Lib.hid ((heap_alloc_old w1 _ (lt_of_block HX.out)).trans HX.out)
        have HYA : Hid ((w1.alloc (.cells #[.string sn, .int .i64 num, .int .i64 ty, .string sr, .bool rep, .bool loose, .string ⟨#[]⟩] 23)).heap[w1.heap.size]? = some (.cells #[.string sn, .int .i64 num, .int .i64 ty, .string sr, .bool rep, .bool loose, .string ⟨#[]⟩] 23 (0, 0))) := Lib.hid (heap_alloc_new w1 _)
        have HG : Hid (w.heap.size ≤ w1.heap.size) := Lib.hid HB.out.size
        clear HB HX
        have HB := HBA
        have HX := HXA
        have HY := HYA
        clear HBA HXA HYA
        obtain ⟨w2, hw2⟩ : ∃ w2, w2 = w1.alloc (.cells #[.string sn, .int .i64 num, .int .i64 ty, .string sr, .bool rep, .bool loose, .string ⟨#[]⟩] 23) := ⟨_, rfl⟩
        obtain ⟨B2, hB2⟩ : ∃ B2, B2 = w1.heap.size := ⟨_, rfl⟩
        rw [← hw2, ← hB2] at HY
        rw [← hw2] at HB HX ⊢
        rw [← hB2] at HG ⊢
        clear hw2 hB2
        have hx := HX.out; have r0 := obj_cell hx 0; have r1 := obj_cell hx 1; have r2 := obj_cell hx 2; have r3 := obj_cell hx 3; have r4 := obj_cell hx 4; have r5 := obj_cell hx 5; have r6 := obj_cell hx 6
        have hy := HY.out; have s0 := obj_cell hy 0; have s1 := obj_cell hy 1; have s2 := obj_cell hy 2; have s3 := obj_cell hy 3; have s4 := obj_cell hy 4; have s5 := obj_cell hy 5; have s6 := obj_cell hy 6; have t0 := obj_free hy 0; have t1 := obj_free hy 1; have t2 := obj_free hy 2; have t3 := obj_free hy 3; have t4 := obj_free hy 4; have t5 := obj_free hy 5; have t6 := obj_free hy 6
        clear hx hy
        refine wp_region_noPanic ?_
        refine wp_region_held_drew (S := fun w' => w'.cell? ⟨w.heap.size, 0, none⟩ = some (.string sn) ∧ w'.cell? ⟨w.heap.size, 1, none⟩ = some (.int .i64 num) ∧ w'.cell? ⟨w.heap.size, 2, none⟩ = some (.int .i64 ty) ∧ w'.cell? ⟨w.heap.size, 3, none⟩ = some (.string sr) ∧ w'.cell? ⟨w.heap.size, 4, none⟩ = some (.bool rep) ∧ w'.cell? ⟨w.heap.size, 5, none⟩ = some (.bool loose) ∧ w'.cell? ⟨w.heap.size, 6, none⟩ = some (.string so) ∧ w'.cell? ⟨B2, 0, none⟩ = some (.string sn) ∧ w'.cell? ⟨B2, 1, none⟩ = some (.int .i64 num) ∧ w'.cell? ⟨B2, 2, none⟩ = some (.int .i64 ty) ∧ w'.cell? ⟨B2, 3, none⟩ = some (.string sr) ∧ w'.cell? ⟨B2, 4, none⟩ = some (.bool rep) ∧ w'.cell? ⟨B2, 5, none⟩ = some (.bool loose) ∧ w'.cell? ⟨B2, 6, none⟩ = some (.string ⟨#[]⟩)) (by kernel_rfl) ⟨r0, r1, r2, r3, r4, r5, r6, s0, s1, s2, s3, s4, s5, s6⟩ (fun hHeld => ?_)
        refine take_at (i := 0) (v := ?_) rfl (by kernel_rfl) (by kernel_rfl) (by kernel_rfl) (fun _ _ _ h => h) (Or.inl ⟨by rfl, ?_⟩) hHeld ?_
        case refine_2 => (intro w hSw; (try dsimp only at hSw); go_simp <;> with_reducible rfl)
        try simp only [Act.put, List.setIfInBounds_toArray, List.set_cons_zero, List.set_cons_succ]
        refine wpAnyH_ready (rs := [1]) (by kernel_rfl) (by simp) ?_
        refine ready_at (i := 1) rfl (fun K hK => ?_)
        go_simp
        (go_at_call 9; (with_reducible refine (HCG.out _ ?_).mono ?_); (first | exact HRID.out _ _ HENV.out HB.out | exact HRID.out _ _ (HRID.out _ _ HENV.out HB.out) ⟨rfl, rfl, rfl, Nat.le_refl _, fun _ _ => rfl⟩); rintro e w1 ⟨rfl, hb⟩; have hx := (hb.block w.heap.size (lt_of_block HX.out)).trans HX.out; have hy := (hb.block B2 (lt_of_block HY.out)).trans HY.out; have r0 := obj_cell hx 0; have r1 := obj_cell hx 1; have r2 := obj_cell hx 2; have r3 := obj_cell hx 3; have r4 := obj_cell hx 4; have r5 := obj_cell hx 5; have r6 := obj_cell hx 6; have s0 := obj_cell hy 0; have s1 := obj_cell hy 1; have s2 := obj_cell hy 2; have s3 := obj_cell hy 3; have s4 := obj_cell hy 4; have s5 := obj_cell hy 5; have s6 := obj_cell hy 6; have t0 := obj_free hy 0; have t1 := obj_free hy 1; have t2 := obj_free hy 2; have t3 := obj_free hy 3; have t4 := obj_free hy 4; have t5 := obj_free hy 5; have t6 := obj_free hy 6; have hb' := bel_next HB.out hb rfl rfl rfl rfl (by have := HB.out.size; omega); replace HX := Lib.hid hx; replace HY := Lib.hid hy; replace HB := Lib.hid hb'; clear hb hx hy hb')
        clear hHeld
        refine hK.out _ _ ⟨r0, r1, r2, r3, r4, r5, r6, s0, s1, s2, s3, s4, s5, s6⟩ (fun hHeld => ?_)
        clear hK K
        try simp only [Act.put, List.setIfInBounds_toArray, List.set_cons_zero, List.set_cons_succ]
        refine wpAnyH_ready (rs := [2]) (by kernel_rfl) (by simp) ?_
        refine ready_at (i := 2) rfl (fun K hK => ?_)
        go_simp
        (go_at_call 8; refine (fnum_any _ _).mono ?_; rintro e w2 ⟨rfl, rfl⟩)
        replace hHeld := hHeld
        refine hK.out _ _ hHeld (fun hHeld => ?_)
        clear hK K
        try simp only [Act.put, List.setIfInBounds_toArray, List.set_cons_zero, List.set_cons_succ]
        refine take_at (i := 3) (v := ?_) rfl (by kernel_rfl) (by kernel_rfl) (by kernel_rfl) (fun _ _ _ h => h) (Or.inl ⟨by rfl, ?_⟩) hHeld ?_
        case refine_2 => (intro w hSw; (try dsimp only at hSw); go_simp <;> with_reducible rfl)
        try simp only [Act.put, List.setIfInBounds_toArray, List.set_cons_zero, List.set_cons_succ]
        refine take_at (i := 4) (v := ?_) rfl (by kernel_rfl) (by kernel_rfl) (by kernel_rfl) (fun _ _ _ h => h) (Or.inl ⟨by rfl, ?_⟩) hHeld ?_
        case refine_2 => (intro w hSw; (try dsimp only at hSw); go_simp <;> with_reducible rfl)
        try simp only [Act.put, List.setIfInBounds_toArray, List.set_cons_zero, List.set_cons_succ]
        refine take_at (i := 5) (v := ?_) rfl (by kernel_rfl) (by kernel_rfl) (by kernel_rfl) (fun _ _ _ h => h) (Or.inl ⟨by rfl, ?_⟩) hHeld ?_
        case refine_2 => (intro w hSw; (try dsimp only at hSw); go_simp <;> with_reducible rfl)
        try simp only [Act.put, List.setIfInBounds_toArray, List.set_cons_zero, List.set_cons_succ]
        refine take_at (i := 7) (v := ?_) rfl (by kernel_rfl) (by kernel_rfl) (by kernel_rfl) (fun _ _ _ h => h) (Or.inl ⟨by rfl, ?_⟩) hHeld ?_
        case refine_2 => (intro w hSw; (try dsimp only at hSw); go_simp <;> with_reducible rfl)
        try simp only [Act.put, List.setIfInBounds_toArray, List.set_cons_zero, List.set_cons_succ]
        refine wpAnyH_ready (rs := [6]) (by kernel_rfl) (by simp) ?_
        refine ready_at (i := 6) rfl (fun K hK => ?_)
        go_simp
        (go_at_call 11; (with_reducible refine (HTG.out _ ?_).mono ?_); (first | exact HRID.out _ _ HENV.out HB.out | exact HRID.out _ _ (HRID.out _ _ HENV.out HB.out) ⟨rfl, rfl, rfl, Nat.le_refl _, fun _ _ => rfl⟩); rintro e w1 ⟨rfl, hb⟩; have hx := (hb.block w.heap.size (lt_of_block HX.out)).trans HX.out; have hy := (hb.block B2 (lt_of_block HY.out)).trans HY.out; have r0 := obj_cell hx 0; have r1 := obj_cell hx 1; have r2 := obj_cell hx 2; have r3 := obj_cell hx 3; have r4 := obj_cell hx 4; have r5 := obj_cell hx 5; have r6 := obj_cell hx 6; have s0 := obj_cell hy 0; have s1 := obj_cell hy 1; have s2 := obj_cell hy 2; have s3 := obj_cell hy 3; have s4 := obj_cell hy 4; have s5 := obj_cell hy 5; have s6 := obj_cell hy 6; have t0 := obj_free hy 0; have t1 := obj_free hy 1; have t2 := obj_free hy 2; have t3 := obj_free hy 3; have t4 := obj_free hy 4; have t5 := obj_free hy 5; have t6 := obj_free hy 6; have hb' := bel_next HB.out hb rfl rfl rfl rfl (by have := HB.out.size; omega); replace HX := Lib.hid hx; replace HY := Lib.hid hy; replace HB := Lib.hid hb'; clear hb hx hy hb')
        clear hHeld
        refine hK.out _ _ ⟨r0, r1, r2, r3, r4, r5, r6, s0, s1, s2, s3, s4, s5, s6⟩ (fun hHeld => ?_)
        clear hK K
        try simp only [Act.put, List.setIfInBounds_toArray, List.set_cons_zero, List.set_cons_succ]
        refine wpAnyH_ready (rs := [8]) (by kernel_rfl) (by simp) ?_
        refine ready_at (i := 8) rfl (fun K hK => ?_)
        go_simp
        (go_at_call 11; (with_reducible refine (HTF.out _ ?_).mono ?_); (first | exact HRID.out _ _ HENV.out HB.out | exact HRID.out _ _ (HRID.out _ _ HENV.out HB.out) ⟨rfl, rfl, rfl, Nat.le_refl _, fun _ _ => rfl⟩); rintro e w1 ⟨rfl, hb⟩; have hx := (hb.block w.heap.size (lt_of_block HX.out)).trans HX.out; have hy := (hb.block B2 (lt_of_block HY.out)).trans HY.out; have r0 := obj_cell hx 0; have r1 := obj_cell hx 1; have r2 := obj_cell hx 2; have r3 := obj_cell hx 3; have r4 := obj_cell hx 4; have r5 := obj_cell hx 5; have r6 := obj_cell hx 6; have s0 := obj_cell hy 0; have s1 := obj_cell hy 1; have s2 := obj_cell hy 2; have s3 := obj_cell hy 3; have s4 := obj_cell hy 4; have s5 := obj_cell hy 5; have s6 := obj_cell hy 6; have t0 := obj_free hy 0; have t1 := obj_free hy 1; have t2 := obj_free hy 2; have t3 := obj_free hy 3; have t4 := obj_free hy 4; have t5 := obj_free hy 5; have t6 := obj_free hy 6; have hb' := bel_next HB.out hb rfl rfl rfl rfl (by have := HB.out.size; omega); replace HX := Lib.hid hx; replace HY := Lib.hid hy; replace HB := Lib.hid hb'; clear hb hx hy hb')
        clear hHeld
        refine hK.out _ _ ⟨r0, r1, r2, r3, r4, r5, r6, s0, s1, s2, s3, s4, s5, s6⟩ (fun hHeld => ?_)
        clear hK K
        try simp only [Act.put, List.setIfInBounds_toArray, List.set_cons_zero, List.set_cons_succ]
        refine take_at (i := 9) (v := ?_) rfl (by kernel_rfl) (by kernel_rfl) (by kernel_rfl) (fun _ _ _ h => h) (Or.inl ⟨by rfl, ?_⟩) hHeld ?_
        case refine_2 => (intro w hSw; (try dsimp only at hSw); go_simp <;> with_reducible rfl)
        try simp only [Act.put, List.setIfInBounds_toArray, List.set_cons_zero, List.set_cons_succ]
        refine take_at (i := 10) (v := ?_) rfl (by kernel_rfl) (by kernel_rfl) (by kernel_rfl) (fun _ _ _ h => h) (Or.inl ⟨by rfl, ?_⟩) hHeld ?_
        case refine_2 => (intro w hSw; (try dsimp only at hSw); go_simp <;> with_reducible rfl)
        try simp only [Act.put, List.setIfInBounds_toArray, List.set_cons_zero, List.set_cons_succ]
        refine take_at (i := 11) (v := ?_) rfl (by kernel_rfl) (by kernel_rfl) (by kernel_rfl) (fun _ _ _ h => h) (Or.inl ⟨by rfl, ?_⟩) hHeld ?_
        case refine_2 => (intro w hSw; (try dsimp only at hSw); go_simp <;> with_reducible rfl)
        try simp only [Act.put, List.setIfInBounds_toArray, List.set_cons_zero, List.set_cons_succ]
        refine take_at (i := 12) (v := ?_) rfl (by kernel_rfl) (by kernel_rfl) (by kernel_rfl) (fun _ _ _ h => h) (Or.inl ⟨by rfl, ?_⟩) hHeld ?_
        case refine_2 => (intro w hSw; (try dsimp only at hSw); go_simp <;> with_reducible rfl)
        try simp only [Act.put, List.setIfInBounds_toArray, List.set_cons_zero, List.set_cons_succ]
        refine wpAnyH_ready (rs := [13]) (by kernel_rfl) (by simp) ?_
        refine ready_at (i := 13) rfl (fun K hK => ?_)
        go_simp
        (go_at_call 13; (with_reducible refine (HP.out _ ?_).mono ?_); (first | exact HRID.out _ _ HENV.out HB.out | exact HRID.out _ _ (HRID.out _ _ HENV.out HB.out) ⟨rfl, rfl, rfl, Nat.le_refl _, fun _ _ => rfl⟩); rintro e w1 ⟨rfl, hb⟩; have hx := (hb.block w.heap.size (lt_of_block HX.out)).trans HX.out; have hy := (hb.block B2 (lt_of_block HY.out)).trans HY.out; have r0 := obj_cell hx 0; have r1 := obj_cell hx 1; have r2 := obj_cell hx 2; have r3 := obj_cell hx 3; have r4 := obj_cell hx 4; have r5 := obj_cell hx 5; have r6 := obj_cell hx 6; have s0 := obj_cell hy 0; have s1 := obj_cell hy 1; have s2 := obj_cell hy 2; have s3 := obj_cell hy 3; have s4 := obj_cell hy 4; have s5 := obj_cell hy 5; have s6 := obj_cell hy 6; have t0 := obj_free hy 0; have t1 := obj_free hy 1; have t2 := obj_free hy 2; have t3 := obj_free hy 3; have t4 := obj_free hy 4; have t5 := obj_free hy 5; have t6 := obj_free hy 6; have hb' := bel_next HB.out hb rfl rfl rfl rfl (by have := HB.out.size; omega); replace HX := Lib.hid hx; replace HY := Lib.hid hy; replace HB := Lib.hid hb'; clear hb hx hy hb')
        clear hHeld
        refine hK.out _ _ ⟨r0, r1, r2, r3, r4, r5, r6, s0, s1, s2, s3, s4, s5, s6⟩ (fun hHeld => ?_)
        clear hK K
        try simp only [Act.put, List.setIfInBounds_toArray, List.set_cons_zero, List.set_cons_succ]
        refine take_at (i := 14) (v := ?_) rfl (by kernel_rfl) (by kernel_rfl) (by kernel_rfl) (fun _ _ _ h => h) (Or.inl ⟨by rfl, ?_⟩) hHeld ?_
        case refine_2 => (intro w hSw; (try dsimp only at hSw); go_simp <;> with_reducible rfl)
        try simp only [Act.put, List.setIfInBounds_toArray, List.set_cons_zero, List.set_cons_succ]
        refine take_at (i := 15) (v := undef) rfl (by kernel_rfl) (by kernel_rfl) (by kernel_rfl) (fun _ _ _ h => h) (Or.inr ⟨by rfl, rfl⟩) hHeld ?_
        try simp only [Act.put, List.setIfInBounds_toArray, List.set_cons_zero, List.set_cons_succ]
        refine take_at (i := 16) (v := undef) rfl (by kernel_rfl) (by kernel_rfl) (by kernel_rfl) (fun _ _ _ h => h) (Or.inr ⟨by rfl, rfl⟩) hHeld ?_
        try simp only [Act.put, List.setIfInBounds_toArray, List.set_cons_zero, List.set_cons_succ]
        refine take_at (i := 17) (v := ?_) rfl (by kernel_rfl) (by kernel_rfl) (by kernel_rfl) (fun _ _ _ h => h) (Or.inl ⟨by rfl, ?_⟩) hHeld ?_
        case refine_2 => (intro w hSw; (try dsimp only at hSw); go_simp <;> with_reducible rfl)
        try simp only [Act.put, List.setIfInBounds_toArray, List.set_cons_zero, List.set_cons_succ]
        refine take_at (i := 18) (v := ?_) rfl (by kernel_rfl) (by kernel_rfl) (by kernel_rfl) (fun _ _ _ h => h) (Or.inl ⟨by rfl, ?_⟩) hHeld ?_
        case refine_2 => (intro w hSw; (try dsimp only at hSw); go_simp <;> with_reducible rfl)
        try simp only [Act.put, List.setIfInBounds_toArray, List.set_cons_zero, List.set_cons_succ]
        refine wpAnyH_done (by kernel_rfl) ?_ _
        refine NoPanic.normal ?_
        go_wp2_with (first
          | (go_at_call 13; (with_reducible refine (HP.out _ ?_).mono ?_); (first | exact HRID.out _ _ HENV.out HB.out | exact HRID.out _ _ (HRID.out _ _ HENV.out HB.out) ⟨rfl, rfl, rfl, Nat.le_refl _, fun _ _ => rfl⟩); rintro e w1 ⟨rfl, hb⟩; have hx := (hb.block w.heap.size (lt_of_block HX.out)).trans HX.out; have hy := (hb.block B2 (lt_of_block HY.out)).trans HY.out; have r0 := obj_cell hx 0; have r1 := obj_cell hx 1; have r2 := obj_cell hx 2; have r3 := obj_cell hx 3; have r4 := obj_cell hx 4; have r5 := obj_cell hx 5; have r6 := obj_cell hx 6; have s0 := obj_cell hy 0; have s1 := obj_cell hy 1; have s2 := obj_cell hy 2; have s3 := obj_cell hy 3; have s4 := obj_cell hy 4; have s5 := obj_cell hy 5; have s6 := obj_cell hy 6; have t0 := obj_free hy 0; have t1 := obj_free hy 1; have t2 := obj_free hy 2; have t3 := obj_free hy 3; have t4 := obj_free hy 4; have t5 := obj_free hy 5; have t6 := obj_free hy 6; have hb' := bel_next HB.out hb rfl rfl rfl rfl (by have := HB.out.size; omega); replace HX := Lib.hid hx; replace HY := Lib.hid hy; replace HB := Lib.hid hb'; clear hb hx hy hb')
          | (go_at_call 7; (with_reducible refine (HLV.out _ ?_).mono ?_); (first | exact HRID.out _ _ HENV.out HB.out | exact HRID.out _ _ (HRID.out _ _ HENV.out HB.out) ⟨rfl, rfl, rfl, Nat.le_refl _, fun _ _ => rfl⟩); rintro e w1 ⟨rfl, hb⟩; have hx := (hb.block w.heap.size (lt_of_block HX.out)).trans HX.out; have hy := (hb.block B2 (lt_of_block HY.out)).trans HY.out; have r0 := obj_cell hx 0; have r1 := obj_cell hx 1; have r2 := obj_cell hx 2; have r3 := obj_cell hx 3; have r4 := obj_cell hx 4; have r5 := obj_cell hx 5; have r6 := obj_cell hx 6; have s0 := obj_cell hy 0; have s1 := obj_cell hy 1; have s2 := obj_cell hy 2; have s3 := obj_cell hy 3; have s4 := obj_cell hy 4; have s5 := obj_cell hy 5; have s6 := obj_cell hy 6; have t0 := obj_free hy 0; have t1 := obj_free hy 1; have t2 := obj_free hy 2; have t3 := obj_free hy 3; have t4 := obj_free hy 4; have t5 := obj_free hy 5; have t6 := obj_free hy 6; have hb' := bel_next HB.out hb rfl rfl rfl rfl (by have := HB.out.size; omega); replace HX := Lib.hid hx; replace HY := Lib.hid hy; replace HB := Lib.hid hb'; clear hb hx hy hb'))
        go_ret
        exact ⟨rfl, HB.out⟩
      | true =>
        obtain rfl : C = 0 := hlo rfl
        obtain rfl : hd = false := by simpa using HNB
        clear hlo HNB
        go_enter Tryd.func5, Tryd.ntmps5
        go_wp2_with (first
          | (go_at_call 6; refine (HSM.out _).mono ?_; rintro e w1 ⟨rfl, hb⟩; have hx := (hb.block w.heap.size (lt_of_block HX.out)).trans HX.out; have r0 := obj_cell hx 0; have r1 := obj_cell hx 1; have r2 := obj_cell hx 2; have r3 := obj_cell hx 3; have r4 := obj_cell hx 4; have r5 := obj_cell hx 5; have r6 := obj_cell hx 6; have hb' := bel_next HB.out hb rfl rfl rfl rfl (by have := HB.out.size; omega); replace HX := Lib.hid hx; replace HB := Lib.hid hb'; clear hb hx hb')
          | (go_at_call 9; refine (HCK.out _ (by first | exact HRID.out _ _ HENV.out HB.out | exact HRID.out _ _ (HRID.out _ _ HENV.out HB.out) ⟨rfl, rfl, rfl, Nat.le_refl _, fun _ _ => rfl⟩)).mono ?_; rintro e w1 ⟨rfl, hb⟩; have hx := (hb.block w.heap.size (lt_of_block HX.out)).trans HX.out; have r0 := obj_cell hx 0; have r1 := obj_cell hx 1; have r2 := obj_cell hx 2; have r3 := obj_cell hx 3; have r4 := obj_cell hx 4; have r5 := obj_cell hx 5; have r6 := obj_cell hx 6; have hb' := bel_next HB.out hb rfl rfl rfl rfl (by have := HB.out.size; omega); replace HX := Lib.hid hx; replace HB := Lib.hid hb'; clear hb hx hb')
          | (go_at_call 8; refine (fnum_any _ _).mono ?_; rintro e w2 ⟨rfl, rfl⟩))
        have HBA : Hid (Below w.heap.size w (w1.alloc (.cells #[.string sn, .int .i64 num, .int .i64 ty, .string sr, .bool rep, .bool loose, .string ⟨#[]⟩] 23))) := Lib.hid (HB.out.alloc HB.out.size _)
        have HXA : Hid ((w1.alloc (.cells #[.string sn, .int .i64 num, .int .i64 ty, .string sr, .bool rep, .bool loose, .string ⟨#[]⟩] 23)).heap[w.heap.size]? = some (.cells #[.string sn, .int .i64 num, .int .i64 ty, .string sr, .bool rep, .bool loose, .string so] 23 (0, 0))) := Lib.hid ((heap_alloc_old w1 _ (lt_of_block HX.out)).trans HX.out)
        have HYA : Hid ((w1.alloc (.cells #[.string sn, .int .i64 num, .int .i64 ty, .string sr, .bool rep, .bool loose, .string ⟨#[]⟩] 23)).heap[w1.heap.size]? = some (.cells #[.string sn, .int .i64 num, .int .i64 ty, .string sr, .bool rep, .bool loose, .string ⟨#[]⟩] 23 (0, 0))) := Lib.hid (heap_alloc_new w1 _)
        have HG : Hid (w.heap.size ≤ w1.heap.size) := Lib.hid HB.out.size
        clear HB HX
        have HB := HBA
        have HX := HXA
        have HY := HYA
        clear HBA HXA HYA
        obtain ⟨w2, hw2⟩ : ∃ w2, w2 = w1.alloc (.cells #[.string sn, .int .i64 num, .int .i64 ty, .string sr, .bool rep, .bool loose, .string ⟨#[]⟩] 23) := ⟨_, rfl⟩
        obtain ⟨B2, hB2⟩ : ∃ B2, B2 = w1.heap.size := ⟨_, rfl⟩
        rw [← hw2, ← hB2] at HY
        rw [← hw2] at HB HX ⊢
        rw [← hB2] at HG ⊢
        clear hw2 hB2
        have hx := HX.out; have r0 := obj_cell hx 0; have r1 := obj_cell hx 1; have r2 := obj_cell hx 2; have r3 := obj_cell hx 3; have r4 := obj_cell hx 4; have r5 := obj_cell hx 5; have r6 := obj_cell hx 6
        have hy := HY.out; have s0 := obj_cell hy 0; have s1 := obj_cell hy 1; have s2 := obj_cell hy 2; have s3 := obj_cell hy 3; have s4 := obj_cell hy 4; have s5 := obj_cell hy 5; have s6 := obj_cell hy 6; have t0 := obj_free hy 0; have t1 := obj_free hy 1; have t2 := obj_free hy 2; have t3 := obj_free hy 3; have t4 := obj_free hy 4; have t5 := obj_free hy 5; have t6 := obj_free hy 6
        clear hx hy
        go_region_held3 (fun w' => w'.cell? ⟨w.heap.size, 0, none⟩ = some (.string sn) ∧ w'.cell? ⟨w.heap.size, 1, none⟩ = some (.int .i64 num) ∧ w'.cell? ⟨w.heap.size, 2, none⟩ = some (.int .i64 ty) ∧ w'.cell? ⟨w.heap.size, 3, none⟩ = some (.string sr) ∧ w'.cell? ⟨w.heap.size, 4, none⟩ = some (.bool rep) ∧ w'.cell? ⟨w.heap.size, 5, none⟩ = some (.bool loose) ∧ w'.cell? ⟨w.heap.size, 6, none⟩ = some (.string so) ∧ w'.cell? ⟨B2, 0, none⟩ = some (.string sn) ∧ w'.cell? ⟨B2, 1, none⟩ = some (.int .i64 num) ∧ w'.cell? ⟨B2, 2, none⟩ = some (.int .i64 ty) ∧ w'.cell? ⟨B2, 3, none⟩ = some (.string sr) ∧ w'.cell? ⟨B2, 4, none⟩ = some (.bool rep) ∧ w'.cell? ⟨B2, 5, none⟩ = some (.bool loose) ∧ w'.cell? ⟨B2, 6, none⟩ = some (.string ⟨#[]⟩))
              (first | exact ⟨r0, r1, r2, r3, r4, r5, r6, s0, s1, s2, s3, s4, s5, s6⟩ | go_keep)
              (first
                | (go_at_call 9; (with_reducible refine (HCG.out _ ?_).mono ?_); (first | exact HRID.out _ _ HENV.out HB.out | exact HRID.out _ _ (HRID.out _ _ HENV.out HB.out) ⟨rfl, rfl, rfl, Nat.le_refl _, fun _ _ => rfl⟩); rintro e w1 ⟨rfl, hb⟩; have hx := (hb.block w.heap.size (lt_of_block HX.out)).trans HX.out; have hy := (hb.block B2 (lt_of_block HY.out)).trans HY.out; have r0 := obj_cell hx 0; have r1 := obj_cell hx 1; have r2 := obj_cell hx 2; have r3 := obj_cell hx 3; have r4 := obj_cell hx 4; have r5 := obj_cell hx 5; have r6 := obj_cell hx 6; have s0 := obj_cell hy 0; have s1 := obj_cell hy 1; have s2 := obj_cell hy 2; have s3 := obj_cell hy 3; have s4 := obj_cell hy 4; have s5 := obj_cell hy 5; have s6 := obj_cell hy 6; have t0 := obj_free hy 0; have t1 := obj_free hy 1; have t2 := obj_free hy 2; have t3 := obj_free hy 3; have t4 := obj_free hy 4; have t5 := obj_free hy 5; have t6 := obj_free hy 6; have hb' := bel_next HB.out hb rfl rfl rfl rfl (by have := HB.out.size; omega); replace HX := Lib.hid hx; replace HY := Lib.hid hy; replace HB := Lib.hid hb'; clear hb hx hy hb')
                | (go_at_call 11; (with_reducible refine (HTG.out _ ?_).mono ?_); (first | exact HRID.out _ _ HENV.out HB.out | exact HRID.out _ _ (HRID.out _ _ HENV.out HB.out) ⟨rfl, rfl, rfl, Nat.le_refl _, fun _ _ => rfl⟩); rintro e w1 ⟨rfl, hb⟩; have hx := (hb.block w.heap.size (lt_of_block HX.out)).trans HX.out; have hy := (hb.block B2 (lt_of_block HY.out)).trans HY.out; have r0 := obj_cell hx 0; have r1 := obj_cell hx 1; have r2 := obj_cell hx 2; have r3 := obj_cell hx 3; have r4 := obj_cell hx 4; have r5 := obj_cell hx 5; have r6 := obj_cell hx 6; have s0 := obj_cell hy 0; have s1 := obj_cell hy 1; have s2 := obj_cell hy 2; have s3 := obj_cell hy 3; have s4 := obj_cell hy 4; have s5 := obj_cell hy 5; have s6 := obj_cell hy 6; have t0 := obj_free hy 0; have t1 := obj_free hy 1; have t2 := obj_free hy 2; have t3 := obj_free hy 3; have t4 := obj_free hy 4; have t5 := obj_free hy 5; have t6 := obj_free hy 6; have hb' := bel_next HB.out hb rfl rfl rfl rfl (by have := HB.out.size; omega); replace HX := Lib.hid hx; replace HY := Lib.hid hy; replace HB := Lib.hid hb'; clear hb hx hy hb')
                | (go_at_call 11; (with_reducible refine (HTF.out _ ?_).mono ?_); (first | exact HRID.out _ _ HENV.out HB.out | exact HRID.out _ _ (HRID.out _ _ HENV.out HB.out) ⟨rfl, rfl, rfl, Nat.le_refl _, fun _ _ => rfl⟩); rintro e w1 ⟨rfl, hb⟩; have hx := (hb.block w.heap.size (lt_of_block HX.out)).trans HX.out; have hy := (hb.block B2 (lt_of_block HY.out)).trans HY.out; have r0 := obj_cell hx 0; have r1 := obj_cell hx 1; have r2 := obj_cell hx 2; have r3 := obj_cell hx 3; have r4 := obj_cell hx 4; have r5 := obj_cell hx 5; have r6 := obj_cell hx 6; have s0 := obj_cell hy 0; have s1 := obj_cell hy 1; have s2 := obj_cell hy 2; have s3 := obj_cell hy 3; have s4 := obj_cell hy 4; have s5 := obj_cell hy 5; have s6 := obj_cell hy 6; have t0 := obj_free hy 0; have t1 := obj_free hy 1; have t2 := obj_free hy 2; have t3 := obj_free hy 3; have t4 := obj_free hy 4; have t5 := obj_free hy 5; have t6 := obj_free hy 6; have hb' := bel_next HB.out hb rfl rfl rfl rfl (by have := HB.out.size; omega); replace HX := Lib.hid hx; replace HY := Lib.hid hy; replace HB := Lib.hid hb'; clear hb hx hy hb')
                | (go_at_call 13; (with_reducible refine (HP.out _ ?_).mono ?_); (first | exact HRID.out _ _ HENV.out HB.out | exact HRID.out _ _ (HRID.out _ _ HENV.out HB.out) ⟨rfl, rfl, rfl, Nat.le_refl _, fun _ _ => rfl⟩); rintro e w1 ⟨rfl, hb⟩; have hx := (hb.block w.heap.size (lt_of_block HX.out)).trans HX.out; have hy := (hb.block B2 (lt_of_block HY.out)).trans HY.out; have r0 := obj_cell hx 0; have r1 := obj_cell hx 1; have r2 := obj_cell hx 2; have r3 := obj_cell hx 3; have r4 := obj_cell hx 4; have r5 := obj_cell hx 5; have r6 := obj_cell hx 6; have s0 := obj_cell hy 0; have s1 := obj_cell hy 1; have s2 := obj_cell hy 2; have s3 := obj_cell hy 3; have s4 := obj_cell hy 4; have s5 := obj_cell hy 5; have s6 := obj_cell hy 6; have t0 := obj_free hy 0; have t1 := obj_free hy 1; have t2 := obj_free hy 2; have t3 := obj_free hy 3; have t4 := obj_free hy 4; have t5 := obj_free hy 5; have t6 := obj_free hy 6; have hb' := bel_next HB.out hb rfl rfl rfl rfl (by have := HB.out.size; omega); replace HX := Lib.hid hx; replace HY := Lib.hid hy; replace HB := Lib.hid hb'; clear hb hx hy hb')
                | (go_at_call 15; (with_reducible refine (HH.out _ ?_).mono ?_); (first | exact HRID.out _ _ HENV.out HB.out | exact HRID.out _ _ (HRID.out _ _ HENV.out HB.out) ⟨rfl, rfl, rfl, Nat.le_refl _, fun _ _ => rfl⟩); rintro e w1 ⟨rfl, hb⟩; have hx := (hb.block w.heap.size (lt_of_block HX.out)).trans HX.out; have hy := (hb.block B2 (lt_of_block HY.out)).trans HY.out; have r0 := obj_cell hx 0; have r1 := obj_cell hx 1; have r2 := obj_cell hx 2; have r3 := obj_cell hx 3; have r4 := obj_cell hx 4; have r5 := obj_cell hx 5; have r6 := obj_cell hx 6; have s0 := obj_cell hy 0; have s1 := obj_cell hy 1; have s2 := obj_cell hy 2; have s3 := obj_cell hy 3; have s4 := obj_cell hy 4; have s5 := obj_cell hy 5; have s6 := obj_cell hy 6; have t0 := obj_free hy 0; have t1 := obj_free hy 1; have t2 := obj_free hy 2; have t3 := obj_free hy 3; have t4 := obj_free hy 4; have t5 := obj_free hy 5; have t6 := obj_free hy 6; have hb' := bel_next HB.out hb rfl rfl rfl rfl (by have := HB.out.size; omega); replace HX := Lib.hid hx; replace HY := Lib.hid hy; replace HB := Lib.hid hb'; clear hb hx hy hb')
                | (go_at_call 8; refine (fnum_any _ _).mono ?_; rintro e w2 ⟨rfl, rfl⟩))
        go_wp2_with (first
          | (go_at_call 13; (with_reducible refine (HP.out _ ?_).mono ?_); (first | exact HRID.out _ _ HENV.out HB.out | exact HRID.out _ _ (HRID.out _ _ HENV.out HB.out) ⟨rfl, rfl, rfl, Nat.le_refl _, fun _ _ => rfl⟩); rintro e w1 ⟨rfl, hb⟩; have hx := (hb.block w.heap.size (lt_of_block HX.out)).trans HX.out; have hy := (hb.block B2 (lt_of_block HY.out)).trans HY.out; have r0 := obj_cell hx 0; have r1 := obj_cell hx 1; have r2 := obj_cell hx 2; have r3 := obj_cell hx 3; have r4 := obj_cell hx 4; have r5 := obj_cell hx 5; have r6 := obj_cell hx 6; have s0 := obj_cell hy 0; have s1 := obj_cell hy 1; have s2 := obj_cell hy 2; have s3 := obj_cell hy 3; have s4 := obj_cell hy 4; have s5 := obj_cell hy 5; have s6 := obj_cell hy 6; have t0 := obj_free hy 0; have t1 := obj_free hy 1; have t2 := obj_free hy 2; have t3 := obj_free hy 3; have t4 := obj_free hy 4; have t5 := obj_free hy 5; have t6 := obj_free hy 6; have hb' := bel_next HB.out hb rfl rfl rfl rfl (by have := HB.out.size; omega); replace HX := Lib.hid hx; replace HY := Lib.hid hy; replace HB := Lib.hid hb'; clear hb hx hy hb' HP)
          | (go_at_call 9; refine (HCL.out _ (HRID.out _ _ HENV.out (HB.out.setCell (p := ⟨B2, 5, none⟩) HG.out _))).mono ?_; rintro e w3 ⟨rfl, hb⟩; have hy := (hb.block B2 (by have := lt_of_block HY.out; simp; omega)).trans (obj_set HY.out 5 (.bool true)); have u0 := obj_cell hy 0; have u1 := obj_cell hy 1; have u2 := obj_cell hy 2; have u3 := obj_cell hy 3; have u4 := obj_cell hy 4; have u5 := obj_cell hy 5; have u6 := obj_cell hy 6; have hb' := (HB.out.setCell (p := ⟨B2, 5, none⟩) HG.out (.bool true)).trans (hb.mono (by have := HB.out.size; simp; omega)); replace HY := Lib.hid hy; replace HB := Lib.hid hb'; clear hb hy hb')
          | (go_at_call 8; refine (fnum_any _ _).mono ?_; rintro e w2 ⟨rfl, rfl⟩)
          | (go_at_call 13; refine (HPL.out _ (HRID.out _ _ HENV.out HB.out)).mono ?_; rintro e w4 ⟨rfl, hb⟩; have hb' := bel_next HB.out hb rfl rfl rfl rfl HB.out.size; replace HB := Lib.hid hb'; clear hb hb')
          | (go_at_call 7; refine (HLV.out _ (HRID.out _ _ HENV.out HB.out)).mono ?_; rintro e w5 ⟨rfl, hb⟩; have hb' := bel_next HB.out hb rfl rfl rfl rfl HB.out.size; replace HB := Lib.hid hb'; clear hb hb'))
        go_ret
        exact ⟨rfl, HB.out⟩
    · obtain ⟨C, hC⟩ : ∃ C, C = fcheckT f := ⟨_, rfl⟩
      rw [← hC] at h0 HCK
      have e0 : (C == 0) = false := beq_false_of_ne h0
      have e1 : (C != 0) = true := by simp [h0]
      have e2 : ¬ C = 0 := h0
      obtain ⟨name, num, ty, ref, rep, loose, one⟩ := f
      unfold fdV at HSM HP HH HCK ⊢
      dsimp only at HSM HP HH HCK ⊢
      obtain ⟨sn, hsn⟩ : ∃ s, s = strOf name := ⟨_, rfl⟩
      obtain ⟨sr, hsr⟩ : ∃ s, s = strOf ref := ⟨_, rfl⟩
      obtain ⟨so, hso⟩ : ∃ s, s = strOf one := ⟨_, rfl⟩
      rw [← hsn, ← hsr, ← hso] at HSM HP HH HCK ⊢
      have HB : Hid (Below w.heap.size w (w.alloc (.cells #[.string sn, .int .i64 num, .int .i64 ty, .string sr, .bool rep, .bool loose, .string so] 23))) := Lib.hid ((Below.refl _ w).alloc (Nat.le_refl _) _)
      have HX : Hid ((w.alloc (.cells #[.string sn, .int .i64 num, .int .i64 ty, .string sr, .bool rep, .bool loose, .string so] 23)).heap[w.heap.size]? = some (.cells #[.string sn, .int .i64 num, .int .i64 ty, .string sr, .bool rep, .bool loose, .string so] 23 (0, 0))) := Lib.hid (heap_alloc_new w _)
      clear ok env hc hcB hpk hhd hs hs0 h0 hC hsn hsr hso
      cases pk with
      | false =>
        clear HNB
        go_enter Tryd.func5, Tryd.ntmps5
        go_wp2_with (first
          | (go_at_call 6; refine (HSM.out _).mono ?_; rintro e w1 ⟨rfl, hb⟩; have hx := (hb.block w.heap.size (lt_of_block HX.out)).trans HX.out; have r0 := obj_cell hx 0; have r1 := obj_cell hx 1; have r2 := obj_cell hx 2; have r3 := obj_cell hx 3; have r4 := obj_cell hx 4; have r5 := obj_cell hx 5; have r6 := obj_cell hx 6; have hb' := bel_next HB.out hb rfl rfl rfl rfl (by have := HB.out.size; omega); replace HX := Lib.hid hx; replace HB := Lib.hid hb'; clear hb hx hb')
          | (go_at_call 9; refine (HCK.out _ (by first | exact HRID.out _ _ HENV.out HB.out | exact HRID.out _ _ (HRID.out _ _ HENV.out HB.out) ⟨rfl, rfl, rfl, Nat.le_refl _, fun _ _ => rfl⟩)).mono ?_; rintro e w1 ⟨rfl, hb⟩; have hx := (hb.block w.heap.size (lt_of_block HX.out)).trans HX.out; have r0 := obj_cell hx 0; have r1 := obj_cell hx 1; have r2 := obj_cell hx 2; have r3 := obj_cell hx 3; have r4 := obj_cell hx 4; have r5 := obj_cell hx 5; have r6 := obj_cell hx 6; have hb' := bel_next HB.out hb rfl rfl rfl rfl (by have := HB.out.size; omega); replace HX := Lib.hid hx; replace HB := Lib.hid hb'; clear hb hx hb')
          | (go_at_call 8; refine (fnum_any _ _).mono ?_; rintro e w2 ⟨rfl, rfl⟩)
          | (go_at_call 13; refine (HP.out _ (by first | exact HRID.out _ _ HENV.out HB.out | exact HRID.out _ _ (HRID.out _ _ HENV.out HB.out) ⟨rfl, rfl, rfl, Nat.le_refl _, fun _ _ => rfl⟩)).mono ?_; rintro e w1 ⟨rfl, hb⟩; have hx := (hb.block w.heap.size (lt_of_block HX.out)).trans HX.out; have r0 := obj_cell hx 0; have r1 := obj_cell hx 1; have r2 := obj_cell hx 2; have r3 := obj_cell hx 3; have r4 := obj_cell hx 4; have r5 := obj_cell hx 5; have r6 := obj_cell hx 6; have hb' := bel_next HB.out hb rfl rfl rfl rfl (by have := HB.out.size; omega); replace HX := Lib.hid hx; replace HB := Lib.hid hb'; clear hb hx hb')
          | (go_at_call 15; refine (HH.out _ (by first | exact HRID.out _ _ HENV.out HB.out | exact HRID.out _ _ (HRID.out _ _ HENV.out HB.out) ⟨rfl, rfl, rfl, Nat.le_refl _, fun _ _ => rfl⟩)).mono ?_; rintro e w1 ⟨rfl, hb⟩; have hx := (hb.block w.heap.size (lt_of_block HX.out)).trans HX.out; have r0 := obj_cell hx 0; have r1 := obj_cell hx 1; have r2 := obj_cell hx 2; have r3 := obj_cell hx 3; have r4 := obj_cell hx 4; have r5 := obj_cell hx 5; have r6 := obj_cell hx 6; have hb' := bel_next HB.out hb rfl rfl rfl rfl (by have := HB.out.size; omega); replace HX := Lib.hid hx; replace HB := Lib.hid hb'; clear hb hx hb')
          | (go_at_call 7; refine (HLV.out _ (by first | exact HRID.out _ _ HENV.out HB.out | exact HRID.out _ _ (HRID.out _ _ HENV.out HB.out) ⟨rfl, rfl, rfl, Nat.le_refl _, fun _ _ => rfl⟩)).mono ?_; rintro e w1 ⟨rfl, hb⟩; have hx := (hb.block w.heap.size (lt_of_block HX.out)).trans HX.out; have r0 := obj_cell hx 0; have r1 := obj_cell hx 1; have r2 := obj_cell hx 2; have r3 := obj_cell hx 3; have r4 := obj_cell hx 4; have r5 := obj_cell hx 5; have r6 := obj_cell hx 6; have hb' := bel_next HB.out hb rfl rfl rfl rfl (by have := HB.out.size; omega); replace HX := Lib.hid hx; replace HB := Lib.hid hb'; clear hb hx hb'))
        go_ret
        exact ⟨rfl, HB.out⟩
      | true =>
        obtain rfl : hd = false := by simpa using HNB
        clear HNB
        go_enter Tryd.func5, Tryd.ntmps5
        go_wp2_with (first
          | (go_at_call 6; refine (HSM.out _).mono ?_; rintro e w1 ⟨rfl, hb⟩; have hx := (hb.block w.heap.size (lt_of_block HX.out)).trans HX.out; have r0 := obj_cell hx 0; have r1 := obj_cell hx 1; have r2 := obj_cell hx 2; have r3 := obj_cell hx 3; have r4 := obj_cell hx 4; have r5 := obj_cell hx 5; have r6 := obj_cell hx 6; have hb' := bel_next HB.out hb rfl rfl rfl rfl (by have := HB.out.size; omega); replace HX := Lib.hid hx; replace HB := Lib.hid hb'; clear hb hx hb')
          | (go_at_call 9; refine (HCK.out _ (by first | exact HRID.out _ _ HENV.out HB.out | exact HRID.out _ _ (HRID.out _ _ HENV.out HB.out) ⟨rfl, rfl, rfl, Nat.le_refl _, fun _ _ => rfl⟩)).mono ?_; rintro e w1 ⟨rfl, hb⟩; have hx := (hb.block w.heap.size (lt_of_block HX.out)).trans HX.out; have r0 := obj_cell hx 0; have r1 := obj_cell hx 1; have r2 := obj_cell hx 2; have r3 := obj_cell hx 3; have r4 := obj_cell hx 4; have r5 := obj_cell hx 5; have r6 := obj_cell hx 6; have hb' := bel_next HB.out hb rfl rfl rfl rfl (by have := HB.out.size; omega); replace HX := Lib.hid hx; replace HB := Lib.hid hb'; clear hb hx hb')
          | (go_at_call 8; refine (fnum_any _ _).mono ?_; rintro e w2 ⟨rfl, rfl⟩)
          | (go_at_call 13; refine (HP.out _ (by first | exact HRID.out _ _ HENV.out HB.out | exact HRID.out _ _ (HRID.out _ _ HENV.out HB.out) ⟨rfl, rfl, rfl, Nat.le_refl _, fun _ _ => rfl⟩)).mono ?_; rintro e w1 ⟨rfl, hb⟩; have hx := (hb.block w.heap.size (lt_of_block HX.out)).trans HX.out; have r0 := obj_cell hx 0; have r1 := obj_cell hx 1; have r2 := obj_cell hx 2; have r3 := obj_cell hx 3; have r4 := obj_cell hx 4; have r5 := obj_cell hx 5; have r6 := obj_cell hx 6; have hb' := bel_next HB.out hb rfl rfl rfl rfl (by have := HB.out.size; omega); replace HX := Lib.hid hx; replace HB := Lib.hid hb'; clear hb hx hb')
          | (go_at_call 15; refine (HH.out _ (by first | exact HRID.out _ _ HENV.out HB.out | exact HRID.out _ _ (HRID.out _ _ HENV.out HB.out) ⟨rfl, rfl, rfl, Nat.le_refl _, fun _ _ => rfl⟩)).mono ?_; rintro e w1 ⟨rfl, hb⟩; have hx := (hb.block w.heap.size (lt_of_block HX.out)).trans HX.out; have r0 := obj_cell hx 0; have r1 := obj_cell hx 1; have r2 := obj_cell hx 2; have r3 := obj_cell hx 3; have r4 := obj_cell hx 4; have r5 := obj_cell hx 5; have r6 := obj_cell hx 6; have hb' := bel_next HB.out hb rfl rfl rfl rfl (by have := HB.out.size; omega); replace HX := Lib.hid hx; replace HB := Lib.hid hb'; clear hb hx hb')
          | (go_at_call 7; refine (HLV.out _ (by first | exact HRID.out _ _ HENV.out HB.out | exact HRID.out _ _ (HRID.out _ _ HENV.out HB.out) ⟨rfl, rfl, rfl, Nat.le_refl _, fun _ _ => rfl⟩)).mono ?_; rintro e w1 ⟨rfl, hb⟩; have hx := (hb.block w.heap.size (lt_of_block HX.out)).trans HX.out; have r0 := obj_cell hx 0; have r1 := obj_cell hx 1; have r2 := obj_cell hx 2; have r3 := obj_cell hx 3; have r4 := obj_cell hx 4; have r5 := obj_cell hx 5; have r6 := obj_cell hx 6; have hb' := bel_next HB.out hb rfl rfl rfl rfl (by have := HB.out.size; omega); replace HX := Lib.hid hx; replace HB := Lib.hid hb'; clear hb hx hb'))
        go_ret
        exact ⟨rfl, HB.out⟩
  · have hs0 : ¬ f.name.length + f.ref.length + f.one.length < 1000 := hs
    rw [decide_eq_false hs0] at HSM
    clear hs0
    obtain ⟨name, num, ty, ref, rep, loose, one⟩ := f
    unfold fdV at HSM HP HH ⊢
    dsimp only at HSM HP HH ⊢
    obtain ⟨sn, hsn⟩ : ∃ s, s = strOf name := ⟨_, rfl⟩
    obtain ⟨sr, hsr⟩ : ∃ s, s = strOf ref := ⟨_, rfl⟩
    obtain ⟨so, hso⟩ : ∃ s, s = strOf one := ⟨_, rfl⟩
    rw [← hsn, ← hsr, ← hso] at HSM HP HH ⊢
    have HB : Hid (Below w.heap.size w (w.alloc (.cells #[.string sn, .int .i64 num, .int .i64 ty, .string sr, .bool rep, .bool loose, .string so] 23))) := Lib.hid ((Below.refl _ w).alloc (Nat.le_refl _) _)
    have HX : Hid ((w.alloc (.cells #[.string sn, .int .i64 num, .int .i64 ty, .string sr, .bool rep, .bool loose, .string so] 23)).heap[w.heap.size]? = some (.cells #[.string sn, .int .i64 num, .int .i64 ty, .string sr, .bool rep, .bool loose, .string so] 23 (0, 0))) := Lib.hid (heap_alloc_new w _)
    clear ok env hc hcB hpk hhd hs hsn hsr hso
    cases pk with
    | false =>
      clear HNB
      go_enter Tryd.func5, Tryd.ntmps5
      go_wp2_with (first
        | (go_at_call 6; refine (HSM.out _).mono ?_; rintro e w1 ⟨rfl, hb⟩; have hx := (hb.block w.heap.size (lt_of_block HX.out)).trans HX.out; have r0 := obj_cell hx 0; have r1 := obj_cell hx 1; have r2 := obj_cell hx 2; have r3 := obj_cell hx 3; have r4 := obj_cell hx 4; have r5 := obj_cell hx 5; have r6 := obj_cell hx 6; have hb' := bel_next HB.out hb rfl rfl rfl rfl (by have := HB.out.size; omega); replace HX := Lib.hid hx; replace HB := Lib.hid hb'; clear hb hx hb')
        | (go_at_call 13; refine (HP.out _ (by first | exact HRID.out _ _ HENV.out HB.out | exact HRID.out _ _ (HRID.out _ _ HENV.out HB.out) ⟨rfl, rfl, rfl, Nat.le_refl _, fun _ _ => rfl⟩)).mono ?_; rintro e w1 ⟨rfl, hb⟩; have hx := (hb.block w.heap.size (lt_of_block HX.out)).trans HX.out; have r0 := obj_cell hx 0; have r1 := obj_cell hx 1; have r2 := obj_cell hx 2; have r3 := obj_cell hx 3; have r4 := obj_cell hx 4; have r5 := obj_cell hx 5; have r6 := obj_cell hx 6; have hb' := bel_next HB.out hb rfl rfl rfl rfl (by have := HB.out.size; omega); replace HX := Lib.hid hx; replace HB := Lib.hid hb'; clear hb hx hb')
        | (go_at_call 15; refine (HH.out _ (by first | exact HRID.out _ _ HENV.out HB.out | exact HRID.out _ _ (HRID.out _ _ HENV.out HB.out) ⟨rfl, rfl, rfl, Nat.le_refl _, fun _ _ => rfl⟩)).mono ?_; rintro e w1 ⟨rfl, hb⟩; have hx := (hb.block w.heap.size (lt_of_block HX.out)).trans HX.out; have r0 := obj_cell hx 0; have r1 := obj_cell hx 1; have r2 := obj_cell hx 2; have r3 := obj_cell hx 3; have r4 := obj_cell hx 4; have r5 := obj_cell hx 5; have r6 := obj_cell hx 6; have hb' := bel_next HB.out hb rfl rfl rfl rfl (by have := HB.out.size; omega); replace HX := Lib.hid hx; replace HB := Lib.hid hb'; clear hb hx hb')
        | (go_at_call 7; refine (HLV.out _ (by first | exact HRID.out _ _ HENV.out HB.out | exact HRID.out _ _ (HRID.out _ _ HENV.out HB.out) ⟨rfl, rfl, rfl, Nat.le_refl _, fun _ _ => rfl⟩)).mono ?_; rintro e w1 ⟨rfl, hb⟩; have hx := (hb.block w.heap.size (lt_of_block HX.out)).trans HX.out; have r0 := obj_cell hx 0; have r1 := obj_cell hx 1; have r2 := obj_cell hx 2; have r3 := obj_cell hx 3; have r4 := obj_cell hx 4; have r5 := obj_cell hx 5; have r6 := obj_cell hx 6; have hb' := bel_next HB.out hb rfl rfl rfl rfl (by have := HB.out.size; omega); replace HX := Lib.hid hx; replace HB := Lib.hid hb'; clear hb hx hb'))
      go_ret
      exact ⟨rfl, HB.out⟩
    | true =>
      obtain rfl : hd = false := by simpa using HNB
      clear HNB
      go_enter Tryd.func5, Tryd.ntmps5
      go_wp2_with (first
        | (go_at_call 6; refine (HSM.out _).mono ?_; rintro e w1 ⟨rfl, hb⟩; have hx := (hb.block w.heap.size (lt_of_block HX.out)).trans HX.out; have r0 := obj_cell hx 0; have r1 := obj_cell hx 1; have r2 := obj_cell hx 2; have r3 := obj_cell hx 3; have r4 := obj_cell hx 4; have r5 := obj_cell hx 5; have r6 := obj_cell hx 6; have hb' := bel_next HB.out hb rfl rfl rfl rfl (by have := HB.out.size; omega); replace HX := Lib.hid hx; replace HB := Lib.hid hb'; clear hb hx hb')
        | (go_at_call 13; refine (HP.out _ (by first | exact HRID.out _ _ HENV.out HB.out | exact HRID.out _ _ (HRID.out _ _ HENV.out HB.out) ⟨rfl, rfl, rfl, Nat.le_refl _, fun _ _ => rfl⟩)).mono ?_; rintro e w1 ⟨rfl, hb⟩; have hx := (hb.block w.heap.size (lt_of_block HX.out)).trans HX.out; have r0 := obj_cell hx 0; have r1 := obj_cell hx 1; have r2 := obj_cell hx 2; have r3 := obj_cell hx 3; have r4 := obj_cell hx 4; have r5 := obj_cell hx 5; have r6 := obj_cell hx 6; have hb' := bel_next HB.out hb rfl rfl rfl rfl (by have := HB.out.size; omega); replace HX := Lib.hid hx; replace HB := Lib.hid hb'; clear hb hx hb')
        | (go_at_call 15; refine (HH.out _ (by first | exact HRID.out _ _ HENV.out HB.out | exact HRID.out _ _ (HRID.out _ _ HENV.out HB.out) ⟨rfl, rfl, rfl, Nat.le_refl _, fun _ _ => rfl⟩)).mono ?_; rintro e w1 ⟨rfl, hb⟩; have hx := (hb.block w.heap.size (lt_of_block HX.out)).trans HX.out; have r0 := obj_cell hx 0; have r1 := obj_cell hx 1; have r2 := obj_cell hx 2; have r3 := obj_cell hx 3; have r4 := obj_cell hx 4; have r5 := obj_cell hx 5; have r6 := obj_cell hx 6; have hb' := bel_next HB.out hb rfl rfl rfl rfl (by have := HB.out.size; omega); replace HX := Lib.hid hx; replace HB := Lib.hid hb'; clear hb hx hb')
        | (go_at_call 7; refine (HLV.out _ (by first | exact HRID.out _ _ HENV.out HB.out | exact HRID.out _ _ (HRID.out _ _ HENV.out HB.out) ⟨rfl, rfl, rfl, Nat.le_refl _, fun _ _ => rfl⟩)).mono ?_; rintro e w1 ⟨rfl, hb⟩; have hx := (hb.block w.heap.size (lt_of_block HX.out)).trans HX.out; have r0 := obj_cell hx 0; have r1 := obj_cell hx 1; have r2 := obj_cell hx 2; have r3 := obj_cell hx 3; have r4 := obj_cell hx 4; have r5 := obj_cell hx 5; have r6 := obj_cell hx 6; have hb' := bel_next HB.out hb rfl rfl rfl rfl (by have := HB.out.size; omega); replace HX := Lib.hid hx; replace HB := Lib.hid hb'; clear hb hx hb'))
      go_ret
      exact ⟨rfl, HB.out⟩
end Go.Proofs.YtnbjpeefndcheaaDoor
