/- The program's layer 13: of, as, Conv, Digits, Read; all that is asked of it holds. Conditions: those that each theorem names. -/
import Derived.Test.YtdenhfhdobcfiaaDoorScQ
import Derived.Test.YtdenhfhdobcfiaaDoorLwD
import Derived.Test.YtdenhfhdobcfiaaDoorCvMath
import Derived.Test.YtdenhfhdobcfiaaDoorConvLaw
namespace Go.Proofs.YtdenhfhdobcfiaaDoor
open Go.RowKit
set_option linter.unusedVariables false
set_option maxRecDepth 100000

def kindV (k : Bool × Bool) : Value := .agg #[.bool k.1, .bool k.2]
/-- What the layer wants of the world. -/
def CvEnv (w : World) : Prop := ScEnv w ∧ DecEnv w
theorem CvEnv.ferry {w w' : World} (h : CvEnv w) (hb : Below w.heap.size w w') : CvEnv w' := ⟨h.1.rides hb, h.2.along hb⟩
theorem run_neq_kind (a b : Bool × Bool) (w : World) : (binOp .neq 41 (.agg #[.bool a.1, .bool a.2]) (.agg #[.bool b.1, .bool b.2])).run Tryd.prog w = .ok (.bool (decide (a ≠ b))) w := by
  rcases a with ⟨_ | _, _ | _⟩ <;> rcases b with ⟨_ | _, _ | _⟩ <;> kernel_rfl
theorem wrap_low {n : Nat} (hn : n < 18446744073709551616) : decide (wrap64 (n : Int) < 0) = decide (9223372036854775808 ≤ n) := by
  apply decide_eq_decide.2
  unfold wrap64
  omega

set_option maxHeartbeats 4000000 in
theorem cvof_any (ty : Int) (n : Nat) (w : World) (env : ScEnv w) (hn : n < 18446744073709551616) :
    Calls Tryd.prog 18 #[.int .i64 ty, .int .u64 (n : Int)] w fun e w' => e = .returned (kindV (kT ty n)) ∧ Below w.heap.size w w' := by
  have HB0 : Hid (Below w.heap.size w (w.alloc (.cells #[.bool false, .bool false] 41))) := Lib.hid ((Below.refl _ w).alloc (Nat.le_refl _) _)
  have HX0 : Hid ((w.alloc (.cells #[.bool false, .bool false] 41)).heap[w.heap.size]? = some (.cells #[.bool false, .bool false] 41 (0, 0))) := Lib.hid (heap_alloc_new w _)
  have HW := Lib.hid (fun w' (hb : Below w.heap.size w w') => pwhole_any ty w' (env.rides hb))
  have HM := Lib.hid (fun w' (hb : Below w.heap.size w w') => pmay_any ty n w' (env.rides hb) hn)
  have HS := Lib.hid (fun w' (hb : Below w.heap.size w w') => psigned_any ty w' (env.rides hb))
  have HRES : Hid (Tryd.f18.results = #[.cell 4 41]) := Lib.hid (by kernel_rfl)
  clear env
  cases hw : wholeT ty with
  | false =>
    have HK := Lib.hid (kT_none (n := n) (fun e => by rw [hw] at e; cases e.1))
    rw [hw] at HW
    clear hw
    go_enter Tryd.func18, Tryd.ntmps18
    go_wp2_with (first
      | (go_at_call 27; refine (HW.out _ HB0.out).mono ?_; rintro e w1 ⟨rfl, hb⟩; have hx := (hb.block w.heap.size (lt_of_block HX0.out)).trans HX0.out; have HX1 := Lib.hid hx; have HB1 := Lib.hid (HB0.out.trans (hb.mono HB0.out.size)); have r0 := obj_cell hx 0; have r1 := obj_cell hx 1; have z0 := obj_free hx 0; have z1 := obj_free hx 1; clear hb hx))
    have x0 := obj_set HX1.out 0 (.bool false)
    have x1 := obj_set x0 1 (.bool false)
    have y0 := obj_cell x1 0
    have y1 := obj_cell x1 1
    refine bodyPost_ret (v := kindV (false, false)) ?_ rfl ⟨by rw [HK.out], (HB1.out.setCell (Nat.le_refl _) _).setCell (Nat.le_refl _) _⟩
    simp only [results, HRES.out, kindV]
    go_simp
  | true =>
    rw [hw] at HW
    cases hm : mayT ty n with
    | false =>
      have HK := Lib.hid (kT_none (ty := ty) (n := n) (fun e => by rw [hm] at e; cases e.2))
      rw [hm] at HM
      clear hw hm
      go_enter Tryd.func18, Tryd.ntmps18
      go_wp2_with (first
        | (go_at_call 27; refine (HW.out _ HB0.out).mono ?_; rintro e w1 ⟨rfl, hb⟩; have hx := (hb.block w.heap.size (lt_of_block HX0.out)).trans HX0.out; have HX1 := Lib.hid hx; have HB1 := Lib.hid (HB0.out.trans (hb.mono HB0.out.size)); have r0 := obj_cell hx 0; have r1 := obj_cell hx 1; have z0 := obj_free hx 0; have z1 := obj_free hx 1; clear hb hx)
        | (go_at_call 28; refine (HM.out _ HB1.out).mono ?_; rintro e w2 ⟨rfl, hb⟩; clear r0 r1 z0 z1; have hx := (hb.block w.heap.size (lt_of_block HX1.out)).trans HX1.out; have HX2 := Lib.hid hx; have HB2 := Lib.hid (HB1.out.trans (hb.mono HB1.out.size)); have r0 := obj_cell hx 0; have r1 := obj_cell hx 1; have z0 := obj_free hx 0; have z1 := obj_free hx 1; clear hb hx))
      have x0 := obj_set HX2.out 0 (.bool false)
      have x1 := obj_set x0 1 (.bool false)
      have y0 := obj_cell x1 0
      have y1 := obj_cell x1 1
      refine bodyPost_ret (v := kindV (false, false)) ?_ rfl ⟨by rw [HK.out], (HB2.out.setCell (Nat.le_refl _) _).setCell (Nat.le_refl _) _⟩
      simp only [results, HRES.out, kindV]
      go_simp
    | true =>
      rw [hm] at HM
      cases hs : signedT ty with
      | false =>
        have HK := Lib.hid (kT_some ⟨hw, hm⟩)
        rw [hs, Bool.false_and] at HK
        rw [hs] at HS
        clear hw hm hs
        go_enter Tryd.func18, Tryd.ntmps18
        go_wp2_with (first
          | (go_at_call 27; refine (HW.out _ HB0.out).mono ?_; rintro e w1 ⟨rfl, hb⟩; have hx := (hb.block w.heap.size (lt_of_block HX0.out)).trans HX0.out; have HX1 := Lib.hid hx; have HB1 := Lib.hid (HB0.out.trans (hb.mono HB0.out.size)); have r0 := obj_cell hx 0; have r1 := obj_cell hx 1; have z0 := obj_free hx 0; have z1 := obj_free hx 1; clear hb hx)
          | (go_at_call 28; refine (HM.out _ HB1.out).mono ?_; rintro e w2 ⟨rfl, hb⟩; clear r0 r1 z0 z1; have hx := (hb.block w.heap.size (lt_of_block HX1.out)).trans HX1.out; have HX2 := Lib.hid hx; have HB2 := Lib.hid (HB1.out.trans (hb.mono HB1.out.size)); have r0 := obj_cell hx 0; have r1 := obj_cell hx 1; have z0 := obj_free hx 0; have z1 := obj_free hx 1; clear hb hx)
          | (go_at_call 29; refine (HS.out _ HB2.out).mono ?_; rintro e w3 ⟨rfl, hb⟩; clear r0 r1 z0 z1; have hx := (hb.block w.heap.size (lt_of_block HX2.out)).trans HX2.out; have HX3 := Lib.hid hx; have HB3 := Lib.hid (HB2.out.trans (hb.mono HB2.out.size)); have r0 := obj_cell hx 0; have r1 := obj_cell hx 1; have z0 := obj_free hx 0; have z1 := obj_free hx 1; clear hb hx))
        have x0 := obj_set HX3.out 0 (.bool true)
        have x1 := obj_set x0 1 (.bool false)
        have y0 := obj_cell x1 0
        have y1 := obj_cell x1 1
        refine bodyPost_ret (v := kindV (true, false)) ?_ rfl ⟨by rw [HK.out], (HB3.out.setCell (Nat.le_refl _) _).setCell (Nat.le_refl _) _⟩
        simp only [results, HRES.out, kindV]
        go_simp
      | true =>
        have HK := Lib.hid (kT_some ⟨hw, hm⟩)
        have hlow := wrap_low hn
        obtain ⟨b, hb0⟩ : ∃ b, b = decide (9223372036854775808 ≤ n) := ⟨_, rfl⟩
        rw [← hb0] at hlow
        rw [hs, ← hb0, Bool.true_and] at HK
        rw [hs] at HS
        clear hw hm hs hb0
        go_enter Tryd.func18, Tryd.ntmps18
        go_wp2_with (first
          | (go_at_call 27; refine (HW.out _ HB0.out).mono ?_; rintro e w1 ⟨rfl, hb⟩; have hx := (hb.block w.heap.size (lt_of_block HX0.out)).trans HX0.out; have HX1 := Lib.hid hx; have HB1 := Lib.hid (HB0.out.trans (hb.mono HB0.out.size)); have r0 := obj_cell hx 0; have r1 := obj_cell hx 1; have z0 := obj_free hx 0; have z1 := obj_free hx 1; clear hb hx)
          | (go_at_call 28; refine (HM.out _ HB1.out).mono ?_; rintro e w2 ⟨rfl, hb⟩; clear r0 r1 z0 z1; have hx := (hb.block w.heap.size (lt_of_block HX1.out)).trans HX1.out; have HX2 := Lib.hid hx; have HB2 := Lib.hid (HB1.out.trans (hb.mono HB1.out.size)); have r0 := obj_cell hx 0; have r1 := obj_cell hx 1; have z0 := obj_free hx 0; have z1 := obj_free hx 1; clear hb hx)
          | (go_at_call 29; refine (HS.out _ HB2.out).mono ?_; rintro e w3 ⟨rfl, hb⟩; clear r0 r1 z0 z1; have hx := (hb.block w.heap.size (lt_of_block HX2.out)).trans HX2.out; have HX3 := Lib.hid hx; have HB3 := Lib.hid (HB2.out.trans (hb.mono HB2.out.size)); have r0 := obj_cell hx 0; have r1 := obj_cell hx 1; have z0 := obj_free hx 0; have z1 := obj_free hx 1; clear hb hx))
        have x0 := obj_set HX3.out 0 (.bool true)
        have x1 := obj_set x0 1 (.bool b)
        have y0 := obj_cell x1 0
        have y1 := obj_cell x1 1
        refine bodyPost_ret (v := kindV (true, b)) ?_ rfl ⟨by rw [HK.out], (HB3.out.setCell (Nat.le_refl _) _).setCell (Nat.le_refl _) _⟩
        simp only [results, HRES.out, kindV]
        go_simp
set_option maxHeartbeats 4000000 in
theorem cvas_any (ty : Int) (n : Nat) (k1 k2 : Bool) (w : World) (env : ScEnv w) (hn : n < 18446744073709551616) :
    Calls Tryd.prog 17 #[.int .i64 ty, .int .u64 (n : Int), .agg #[.bool k1, .bool k2]] w fun e w' => e = .returned (pairV (asT ty n (k1, k2))) ∧ Below w.heap.size w w' := by
  have HO := Lib.hid (rfl : asT ty n (k1, k2) = asT ty n (k1, k2))
  conv at HO => arg 1; rhs; unfold asT
  obtain ⟨W0, hW0⟩ : ∃ W0, W0 = w.alloc (.cells #[.bool k1, .bool k2] 41) := ⟨_, rfl⟩
  have hb0 : Below w.heap.size w W0 := by rw [hW0]; exact (Below.refl _ w).alloc (Nat.le_refl _) _
  have hx0 : W0.heap[w.heap.size]? = some (.cells #[.bool k1, .bool k2] 41 (0, 0)) := by rw [hW0]; exact heap_alloc_new w _
  have hb0' : Below w.heap.size w W0.drew := hb0.drew
  have HK := Lib.hid (cvof_any ty n W0.drew (env.rides hb0') hn)
  obtain ⟨q, hq⟩ : ∃ q, q = kT ty n := ⟨_, rfl⟩
  rw [← hq] at HK HO
  unfold kindV at HK
  have HN := fun w => run_neq_kind q (k1, k2) w
  dsimp only at HN
  rw [hW0] at hb0 hx0 HK
  have HX0 := Lib.hid hx0
  have HB0 := Lib.hid hb0
  have r0 := obj_cell hx0 0
  have r1 := obj_cell hx0 1
  clear hb0 hx0 hb0' hW0 W0 env hq
  cases k1 with
  | false =>
    rw [if_neg (show ¬ (((false, k2) : Bool × Bool).1 = true ∧ q = (false, k2)) from fun e => by cases e.1)] at HO
    go_enter Tryd.func17, Tryd.ntmps17
    go_wp2
    go_quiet (fail)
    go_wp2
    go_ret2
    exact ⟨by rw [HO.out]; rfl, HB0.out.trans ⟨rfl, rfl, rfl, Nat.le_refl _, fun _ _ => rfl⟩⟩
  | true =>
    by_cases he : q = (true, k2)
    · rw [if_pos ⟨rfl, he⟩] at HO
      have hd : decide (q ≠ (true, k2)) = false := decide_eq_false (fun e => e he)
      rw [hd] at HN
      clear hd he
      go_enter Tryd.func17, Tryd.ntmps17
      go_wp2
      go_region_held3 (fun w' => w'.cell? ⟨w.heap.size, 0, none⟩ = some (.bool true) ∧ w'.cell? ⟨w.heap.size, 1, none⟩ = some (.bool k2))
        (first | exact ⟨r0, r1⟩ | exact ⟨k0, k1⟩ | go_keep)
        (first | (go_at_call 18; refine HK.out.mono ?_; rintro e w1 ⟨rfl, hb⟩; have k0 := (hb.cell (p := ⟨w.heap.size, 0, none⟩) (World.block_lt_of_cell? _ _ r0)).trans r0; have k1 := (hb.cell (p := ⟨w.heap.size, 1, none⟩) (World.block_lt_of_cell? _ _ r1)).trans r1; have HB1 := Lib.hid (HB0.out.drew.trans (hb.mono HB0.out.drew.size)); clear hb))
      go_wp2
      go_ret2
      exact ⟨by rw [HO.out]; rfl, HB1.out⟩
    · rw [if_neg (show ¬ (((true, k2) : Bool × Bool).1 = true ∧ q = (true, k2)) from fun e => he e.2)] at HO
      have hd : decide (q ≠ (true, k2)) = true := decide_eq_true he
      rw [hd] at HN
      clear hd he
      go_enter Tryd.func17, Tryd.ntmps17
      go_wp2
      go_region_held3 (fun w' => w'.cell? ⟨w.heap.size, 0, none⟩ = some (.bool true) ∧ w'.cell? ⟨w.heap.size, 1, none⟩ = some (.bool k2))
        (first | exact ⟨r0, r1⟩ | exact ⟨k0, k1⟩ | go_keep)
        (first | (go_at_call 18; refine HK.out.mono ?_; rintro e w1 ⟨rfl, hb⟩; have k0 := (hb.cell (p := ⟨w.heap.size, 0, none⟩) (World.block_lt_of_cell? _ _ r0)).trans r0; have k1 := (hb.cell (p := ⟨w.heap.size, 1, none⟩) (World.block_lt_of_cell? _ _ r1)).trans r1; have HB1 := Lib.hid (HB0.out.drew.trans (hb.mono HB0.out.drew.size)); clear hb))
      go_wp2
      go_ret2
      exact ⟨by rw [HO.out]; rfl, HB1.out⟩

set_option maxHeartbeats 4000000 in
theorem cvconv_any (a b : Int) (n : Nat) (w : World) (env : ScEnv w) (hn : n < 18446744073709551616) :
    Calls Tryd.prog 7 #[.int .i64 a, .int .i64 b, .int .u64 (n : Int)] w fun e w' => e = .returned (pairV (convT a b n)) ∧ Below w.heap.size w w' := by
  have HK := Lib.hid (cvof_any a n w env hn)
  have HO := Lib.hid (conv_as a b n hn)
  obtain ⟨⟨q1, q2⟩, hq⟩ : ∃ q, q = kT a n := ⟨_, rfl⟩
  have HA := Lib.hid (fun w' (hb : Below w.heap.size w w') => cvas_any b n q1 q2 w' (env.rides hb) hn)
  rw [← hq] at HK HO
  unfold kindV at HK
  dsimp only at HK
  clear env hq
  go_enter Tryd.func7, Tryd.ntmps7
  go_wp2_with (first
    | (go_at_call 18; refine HK.out.mono ?_; rintro e w1 ⟨rfl, hb⟩; have HB1 := Lib.hid hb; clear hb)
    | (go_at_call 17; refine (HA.out _ HB1.out).mono ?_; rintro e w2 ⟨rfl, hb⟩; have HB2 := Lib.hid (HB1.out.trans (hb.mono HB1.out.size)); clear hb; unfold pairV))
  go_ret2
  exact ⟨by rw [HO.out]; rfl, HB2.out⟩

theorem neg_wrap {n : Nat} (hn : n < 18446744073709551616) : IntKind.u64.wrap (-(n : Int)) = (negN n : Int) := by
  rw [IntKind.wrap_u64]; unfold negN; omega
theorem negN_lt (n : Nat) : negN n < 18446744073709551616 := Nat.mod_lt _ (by decide)

set_option maxHeartbeats 4000000 in
theorem cvread_any (ty : Int) (n : Nat) (neg : Bool) (w : World) (env : ScEnv w) (hn : n < 18446744073709551616) :
    Calls Tryd.prog 11 #[.int .i64 ty, .int .u64 (n : Int), .bool neg] w fun e w' => e = .returned (pairV (readT ty n neg)) ∧ Below w.heap.size w w' := by
  have HO := Lib.hid (read_as ty n neg hn)
  cases neg with
  | false =>
    rw [if_neg (by decide), Bool.false_and] at HO
    have HA := Lib.hid (cvas_any ty n true false w env hn)
    clear env
    go_enter Tryd.func11, Tryd.ntmps11
    go_wp2_with (first
      | (go_at_call 17; refine HA.out.mono ?_; rintro e w2 ⟨rfl, hb⟩; have HB2 := Lib.hid hb; clear hb; unfold pairV))
    go_ret2
    exact ⟨by rw [HO.out]; rfl, HB2.out⟩
  | true =>
    rw [if_pos rfl, Bool.true_and] at HO
    have hw := neg_wrap hn
    have hlt := negN_lt n
    have hz : decide ((negN n : Int) ≠ 0) = decide (0 < n) := decide_eq_decide.2 (by unfold negN; omega)
    obtain ⟨m, hm⟩ : ∃ m, m = negN n := ⟨_, rfl⟩
    rw [← hm] at hw HO hlt hz
    obtain ⟨b, hb0⟩ : ∃ b, b = decide (0 < n) := ⟨_, rfl⟩
    rw [← hb0] at HO hz
    have HA := Lib.hid (cvas_any ty m true b w env hlt)
    clear env hm hb0
    cases b with
    | false =>
      obtain rfl : m = 0 := by
        rcases Nat.eq_zero_or_pos m with e | e
        · exact e
        · exact absurd hz (by rw [decide_eq_true (by omega)]; decide)
      rw [show ((0 : Nat) : Int) = 0 from rfl] at hw HA
      clear hz hlt
      go_enter Tryd.func11, Tryd.ntmps11
      go_wp2_with (first
        | (go_at_call 17; refine HA.out.mono ?_; rintro e w2 ⟨rfl, hb⟩; have HB2 := Lib.hid hb; clear hb; unfold pairV))
      go_ret2
      exact ⟨by rw [HO.out]; rfl, HB2.out⟩
    | true =>
      have h1 : (m : Int) ≠ 0 := of_decide_eq_true hz
      have h2 : ((m : Int) == 0) = false := beq_false_of_ne h1
      have h3 : ((m : Int) != 0) = true := by rw [bne, h2]; rfl
      clear hz hlt
      go_enter Tryd.func11, Tryd.ntmps11
      go_wp2_with (first
        | (go_at_call 17; refine HA.out.mono ?_; rintro e w2 ⟨rfl, hb⟩; have HB2 := Lib.hid hb; clear hb; unfold pairV))
      go_ret2
      exact ⟨by rw [HO.out]; rfl, HB2.out⟩

set_option maxHeartbeats 4000000 in
theorem cvdigits_any (ty : Int) (n : Nat) (w : World) (env : CvEnv w) (hn : n < 18446744073709551616) :
    Calls Tryd.prog 13 #[.int .i64 ty, .int .u64 (n : Int)] w fun e w' => e = .returned (.string (strOf (cdigT ty n))) ∧ Below w.heap.size w w' := by
  have HK := Lib.hid (cvof_any ty n w env.1 hn)
  have HO := Lib.hid (cdig_k ty n hn)
  obtain ⟨⟨q1, q2⟩, hq⟩ : ∃ q, q = kT ty n := ⟨_, rfl⟩
  rw [← hq] at HK HO
  unfold kindV at HK
  dsimp only at HK HO
  have HD := Lib.hid (fun m (hm : m < 18446744073709551616) w' (hb : Below w.heap.size w w') => pdigits_any m q2 w' (env.2.along hb) hm)
  have hw := neg_wrap hn
  have HLT := Lib.hid (negN_lt n)
  have HLN := Lib.hid hn
  obtain ⟨m, hm⟩ : ∃ m, m = negN n := ⟨_, rfl⟩
  rw [← hm] at hw HO HLT
  clear env hq hm
  cases q1 with
  | false =>
    rw [if_neg (by decide)] at HO
    go_enter Tryd.func13, Tryd.ntmps13
    go_wp2_with (first
      | (go_at_call 18; refine HK.out.mono ?_; rintro e w1 ⟨rfl, hb⟩; have HB1 := Lib.hid (hb.alloc hb.size (.cells #[.bool false, .bool q2] 41)); clear hb))
    go_ret
    exact ⟨by rw [HO.out]; rfl, HB1.out⟩
  | true =>
    rw [if_pos rfl] at HO
    cases q2
    all_goals
      first | rw [if_pos rfl] at HO | rw [if_neg (by decide)] at HO
      go_enter Tryd.func13, Tryd.ntmps13
      go_wp2_with (first
        | (go_at_call 18; refine HK.out.mono ?_; rintro e w1 ⟨rfl, hb⟩; have HB1 := Lib.hid (fun o => hb.alloc hb.size o); clear hb)
        | (go_at_call 23; (first | with_reducible refine (HD.out m HLT.out _ (HB1.out _)).mono ?_ | with_reducible refine (HD.out n HLN.out _ (HB1.out _)).mono ?_); rintro e w2 ⟨rfl, hb⟩; have HB2 := Lib.hid ((HB1.out _).trans (hb.mono (HB1.out _).size)); clear hb))
      go_ret
      exact ⟨by rw [HO.out]; rfl, HB2.out⟩

theorem conv_ok : ConvOk CvEnv where
  erides := fun _ _ h hb => h.ferry hb
  conv := fun a b n w env _ _ hn => cvconv_any a b n w env.1 hn
  digits := fun ty n w env _ hn => cvdigits_any ty n w env hn
  read := fun ty n neg w env _ hn => cvread_any ty n neg w env.1 hn

end Go.Proofs.YtdenhfhdobcfiaaDoor
