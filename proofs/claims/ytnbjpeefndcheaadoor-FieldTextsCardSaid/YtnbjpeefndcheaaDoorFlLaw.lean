/- What is asked of the program's layer 14, and its laws. Conditions: those that each theorem names. -/
import Derived.Test.YtnbjpeefndcheaaDoorRfB
namespace Go.Proofs.YtnbjpeefndcheaaDoor
open Go.RowKit
set_option linter.unusedVariables false
set_option maxRecDepth 100000

/-- A field as it may come in. -/
structure Came (f : Fd) : Prop where
  num : Int64 f.num
  ty : Int64 f.ty
  name : f.name.length ≤ 140737488351232
  ref : f.ref.length ≤ 140737488351232
  one : f.one.length ≤ 140737488351232
def Brief (f : Fd) : Prop := f.name.length + f.ref.length + f.one.length < 1000
/-- What a caller keeps to. -/
def Short (f : Fd) : Prop := f.name.length + f.ref.length + f.one.length < 100000
theorem Brief.short {f : Fd} (h : Brief f) : Short f := by unfold Brief at h; unfold Short; omega
/-- What is asked. -/
structure FieldOk (E : World → Prop) : Prop where
  erides : ∀ w w', E w → Below w.heap.size w w' → E w'
  check : ∀ f w, E w → Came f → Short f → Calls Tryd.prog 9 #[fdV f] w fun e w' => e = .returned (.int .i64 (fcheckT f)) ∧ Below w.heap.size w w'
  text : ∀ f w, E w → Came f → Short f → Calls Tryd.prog 11 #[fdV f] w fun e w' => e = .returned (.string (strOf (ftextT f))) ∧ Below w.heap.size w w'
  packed : ∀ f w, E w → Came f → Calls Tryd.prog 13 #[fdV f] w fun e w' => e = .returned (.bool (packedT f)) ∧ Below w.heap.size w w'
  hidden : ∀ f w, E w → Came f → Calls Tryd.prog 15 #[fdV f] w fun e w' => e = .returned (.bool (hiddenT f)) ∧ Below w.heap.size w w'

theorem fnum_any (k : Int) (w : World) : Calls Tryd.prog 8 #[.int .i64 k] w fun e w' => e = .returned (.int .i64 k) ∧ w = w' := by
  go_enter Tryd.func8, Tryd.ntmps8
  go_wp2
  go_ret
  exact ⟨rfl, rfl⟩
def liveF : Fd := ⟨[97], 1, 1, [], true, false, []⟩
theorem live_check : fcheckT liveF = 0 := fcheck_of (f := liveF) (by decide +kernel) (.inl rfl) (.inr ⟨by decide +kernel, rfl⟩) (by decide +kernel) (by decide) (by decide) (.inr rfl) (.inl rfl)
theorem live_text : ftextT liveF = [114, 101, 112, 101, 97, 116, 101, 100, 32, 105, 110, 116, 51, 50, 32, 97, 32, 61, 32, 49, 59] := by
  unfold ftextT
  rw [if_pos live_check, if_neg (by decide), if_pos (show liveF.rep = true from rfl)]
  unfold ftextB
  rw [show digitsT liveF.num.toNat false = [49] by
    show digitsT 1 false = _
    unfold digitsT
    rw [if_neg (by decide), if_neg (by decide), decOf_pos (by decide), show 1 / 10 = 0 from rfl, decOf_zero]; rfl]
  decide +kernel
theorem fllive_any {E : World → Prop} (ok : FieldOk E) (w : World) (env : E w) : Calls Tryd.prog 7 #[] w fun e w' => e = .returned (.bool true) ∧ Below w.heap.size w w' := by
  have HT := Lib.hid (fun u e => ok.text liveF u e ⟨by show Int64 1; unfold Int64; omega, by show Int64 1; unfold Int64; omega, by decide, by decide, by decide⟩ (by unfold Short; decide))
  rw [live_text] at HT
  unfold fdV liveF at HT
  dsimp only at HT
  rw [show strOf [97] = ⟨#[97]⟩ from rfl, show strOf [] = ⟨#[]⟩ from rfl, show strOf [114, 101, 112, 101, 97, 116, 101, 100, 32, 105, 110, 116, 51, 50, 32, 97, 32, 61, 32, 49, 59] = ⟨#[114, 101, 112, 101, 97, 116, 101, 100, 32, 105, 110, 116, 51, 50, 32, 97, 32, 61, 32, 49, 59]⟩ from rfl] at HT
  clear ok
  go_enter Tryd.func7, Tryd.ntmps7
  go_wp2_with (go_at_call 11; refine (HT.out _ env).mono ?_; rintro e w1 ⟨rfl, hb⟩)
  go_ret
  exact ⟨rfl, hb⟩
theorem flsmall_any (f : Fd) (hc : Came f) (w : World) : Calls Tryd.prog 6 #[fdV f] w fun e w' => e = .returned (.bool (decide (f.name.length + f.ref.length + f.one.length < 1000))) ∧ Below w.heap.size w w' := by
  have HB : Hid (∀ o, Below w.heap.size w (w.alloc o)) := Lib.hid (fun o => (Below.refl _ w).alloc (Nat.le_refl _) o)
  obtain ⟨_, _, hn, hr, ho⟩ := hc
  obtain ⟨name, num, ty, ref, rep, loose, one⟩ := f
  unfold fdV
  dsimp only at hn hr ho ⊢
  obtain ⟨a, ha⟩ : ∃ a, a = name.length := ⟨_, rfl⟩
  obtain ⟨b, hb⟩ : ∃ b, b = ref.length := ⟨_, rfl⟩
  obtain ⟨c, hc⟩ : ∃ c, c = one.length := ⟨_, rfl⟩
  obtain ⟨sn, hsn⟩ : ∃ s, s = strOf name := ⟨_, rfl⟩
  obtain ⟨sr, hsr⟩ : ∃ s, s = strOf ref := ⟨_, rfl⟩
  obtain ⟨so, hso⟩ : ∃ s, s = strOf one := ⟨_, rfl⟩
  have z1 : sn.size = a := by rw [hsn, str_size, ha]
  have z2 : sr.size = b := by rw [hsr, str_size, hb]
  have z3 : so.size = c := by rw [hso, str_size, hc]
  rw [← ha] at hn
  rw [← hb] at hr
  rw [← hc] at ho
  rw [← ha, ← hb, ← hc, ← hsn, ← hsr, ← hso]
  clear ha hb hc hsn hsr hso
  by_cases h : a + b + c < 1000
  · have g : decide ((a : Int) + (b : Int) + (c : Int) < 1000) = true := decide_eq_true (by omega)
    have g2 : (a : Int) + (b : Int) + (c : Int) < 1000 := by omega
    rw [decide_eq_true h]
    clear h
    go_enter Tryd.func6, Tryd.ntmps6
    go_wp2
    go_ret
    exact ⟨rfl, HB.out _⟩
  · have g : decide ((a : Int) + (b : Int) + (c : Int) < 1000) = false := decide_eq_false (by omega)
    have g2 : ¬ (a : Int) + (b : Int) + (c : Int) < 1000 := by omega
    rw [decide_eq_false h]
    clear h
    go_enter Tryd.func6, Tryd.ntmps6
    go_wp2
    go_ret
    exact ⟨rfl, HB.out _⟩
theorem bel_next {B : Nat} {w a a' b : World} (h : Below B w a) (hb : Below a'.heap.size a' b) (ho : a'.os = a.os) (ht : a'.tape = a.tape) (hp : a'.output = a.output) (hh : a'.heap = a.heap) (hB : B ≤ a.heap.size) : Below B w b :=
  h.trans ⟨hb.os.trans ho, hb.tape.trans ht, hb.output.trans hp, by have := hb.size; rw [hh] at this; exact this, fun k hk => (hb.block k (by rw [hh]; exact Nat.lt_of_lt_of_le hk hB)).trans (by rw [hh])⟩

set_option maxHeartbeats 8000000 in
theorem fieldchecks_walk {E : World → Prop} (ok : FieldOk E) (w : World) (env : E w) (f : Fd) (hc : Came f) : Calls Tryd.prog 3 #[fdV f] w fun e w' => e = .returned (.bool true) ∧ Below w.heap.size w w' := by
  have HENV := Lib.hid env
  have HRID := Lib.hid ok.erides
  have HLV : Hid (∀ w, E w → Calls Tryd.prog 7 #[] w fun e w' => e = .returned (.bool true) ∧ Below w.heap.size w w') := Lib.hid (fllive_any ok)
  have HSM := Lib.hid (fun u => flsmall_any f hc u)
  have HRC := Lib.hid (fun u => rfcheck_any f u)
  obtain ⟨C, hC⟩ : ∃ C, C = fcheckT f := ⟨_, rfl⟩
  by_cases hs : f.name.length + f.ref.length + f.one.length < 1000
  · rw [decide_eq_true hs] at HSM
    have HCK := Lib.hid (fun u e => ok.check f u e hc (Brief.short hs))
    rw [← hC] at HRC HCK
    obtain ⟨name, num, ty, ref, rep, loose, one⟩ := f
    unfold fdV at HSM HRC HCK ⊢
    dsimp only at HSM HRC HCK ⊢
    obtain ⟨sn, hsn⟩ : ∃ s, s = strOf name := ⟨_, rfl⟩
    obtain ⟨sr, hsr⟩ : ∃ s, s = strOf ref := ⟨_, rfl⟩
    obtain ⟨so, hso⟩ : ∃ s, s = strOf one := ⟨_, rfl⟩
    rw [← hsn, ← hsr, ← hso] at HSM HRC HCK ⊢
    have HB : Hid (Below w.heap.size w (w.alloc (.cells #[.string sn, .int .i64 num, .int .i64 ty, .string sr, .bool rep, .bool loose, .string so] 23))) := Lib.hid ((Below.refl _ w).alloc (Nat.le_refl _) _)
    have HX : Hid ((w.alloc (.cells #[.string sn, .int .i64 num, .int .i64 ty, .string sr, .bool rep, .bool loose, .string so] 23)).heap[w.heap.size]? = some (.cells #[.string sn, .int .i64 num, .int .i64 ty, .string sr, .bool rep, .bool loose, .string so] 23 (0, 0))) := Lib.hid (heap_alloc_new w _)
    clear ok env hc hC hs hsn hsr hso
    go_enter Tryd.func3, Tryd.ntmps3
    go_wp2_with (first
      | (go_at_call 6; refine (HSM.out _).mono ?_; rintro e w1 ⟨rfl, hb⟩; have hx := (hb.block w.heap.size (lt_of_block HX.out)).trans HX.out; have r0 := obj_cell hx 0; have r1 := obj_cell hx 1; have r2 := obj_cell hx 2; have r3 := obj_cell hx 3; have r4 := obj_cell hx 4; have r5 := obj_cell hx 5; have r6 := obj_cell hx 6; have hb' := bel_next HB.out hb rfl rfl rfl rfl (by have := HB.out.size; omega); replace HX := Lib.hid hx; replace HB := Lib.hid hb'; clear hb hx hb'))
    go_region_held3 (fun w' => w'.cell? ⟨w.heap.size, 0, none⟩ = some (.string sn) ∧ w'.cell? ⟨w.heap.size, 1, none⟩ = some (.int .i64 num) ∧ w'.cell? ⟨w.heap.size, 2, none⟩ = some (.int .i64 ty) ∧ w'.cell? ⟨w.heap.size, 3, none⟩ = some (.string sr) ∧ w'.cell? ⟨w.heap.size, 4, none⟩ = some (.bool rep) ∧ w'.cell? ⟨w.heap.size, 5, none⟩ = some (.bool loose) ∧ w'.cell? ⟨w.heap.size, 6, none⟩ = some (.string so))
      (first | exact ⟨r0, r1, r2, r3, r4, r5, r6⟩ | go_keep)
      (first
      | (go_at_call 9; refine (HCK.out _ (by first | exact HRID.out _ _ HENV.out HB.out | exact HRID.out _ _ (HRID.out _ _ HENV.out HB.out) ⟨rfl, rfl, rfl, Nat.le_refl _, fun _ _ => rfl⟩)).mono ?_; rintro e w1 ⟨rfl, hb⟩; have hx := (hb.block w.heap.size (lt_of_block HX.out)).trans HX.out; have r0 := obj_cell hx 0; have r1 := obj_cell hx 1; have r2 := obj_cell hx 2; have r3 := obj_cell hx 3; have r4 := obj_cell hx 4; have r5 := obj_cell hx 5; have r6 := obj_cell hx 6; have hb' := bel_next HB.out hb rfl rfl rfl rfl (by have := HB.out.size; omega); replace HX := Lib.hid hx; replace HB := Lib.hid hb'; clear hb hx hb')
      | (go_at_call 10; refine (HRC.out _).mono ?_; rintro e w1 ⟨rfl, hb⟩; have hx := (hb.block w.heap.size (lt_of_block HX.out)).trans HX.out; have r0 := obj_cell hx 0; have r1 := obj_cell hx 1; have r2 := obj_cell hx 2; have r3 := obj_cell hx 3; have r4 := obj_cell hx 4; have r5 := obj_cell hx 5; have r6 := obj_cell hx 6; have hb' := bel_next HB.out hb rfl rfl rfl rfl (by have := HB.out.size; omega); replace HX := Lib.hid hx; replace HB := Lib.hid hb'; clear hb hx hb')
      | (go_at_call 8; refine (fnum_any _ _).mono ?_; rintro e w2 ⟨rfl, rfl⟩)
      | (go_at_call 7; refine (HLV.out _ (by first | exact HRID.out _ _ HENV.out HB.out | exact HRID.out _ _ (HRID.out _ _ HENV.out HB.out) ⟨rfl, rfl, rfl, Nat.le_refl _, fun _ _ => rfl⟩)).mono ?_; rintro e w1 ⟨rfl, hb⟩; have hx := (hb.block w.heap.size (lt_of_block HX.out)).trans HX.out; have r0 := obj_cell hx 0; have r1 := obj_cell hx 1; have r2 := obj_cell hx 2; have r3 := obj_cell hx 3; have r4 := obj_cell hx 4; have r5 := obj_cell hx 5; have r6 := obj_cell hx 6; have hb' := bel_next HB.out hb rfl rfl rfl rfl (by have := HB.out.size; omega); replace HX := Lib.hid hx; replace HB := Lib.hid hb'; clear hb hx hb'))
    go_wp2
    go_ret
    exact ⟨rfl, HB.out⟩
  · rw [decide_eq_false hs] at HSM
    obtain ⟨name, num, ty, ref, rep, loose, one⟩ := f
    unfold fdV at HSM ⊢
    dsimp only at HSM ⊢
    obtain ⟨sn, hsn⟩ : ∃ s, s = strOf name := ⟨_, rfl⟩
    obtain ⟨sr, hsr⟩ : ∃ s, s = strOf ref := ⟨_, rfl⟩
    obtain ⟨so, hso⟩ : ∃ s, s = strOf one := ⟨_, rfl⟩
    rw [← hsn, ← hsr, ← hso] at HSM ⊢
    have HB : Hid (Below w.heap.size w (w.alloc (.cells #[.string sn, .int .i64 num, .int .i64 ty, .string sr, .bool rep, .bool loose, .string so] 23))) := Lib.hid ((Below.refl _ w).alloc (Nat.le_refl _) _)
    have HX : Hid ((w.alloc (.cells #[.string sn, .int .i64 num, .int .i64 ty, .string sr, .bool rep, .bool loose, .string so] 23)).heap[w.heap.size]? = some (.cells #[.string sn, .int .i64 num, .int .i64 ty, .string sr, .bool rep, .bool loose, .string so] 23 (0, 0))) := Lib.hid (heap_alloc_new w _)
    clear ok env hc hC hs hsn hsr hso HRC
    go_enter Tryd.func3, Tryd.ntmps3
    go_wp2_with (first
      | (go_at_call 6; refine (HSM.out _).mono ?_; rintro e w1 ⟨rfl, hb⟩; have hx := (hb.block w.heap.size (lt_of_block HX.out)).trans HX.out; have r0 := obj_cell hx 0; have r1 := obj_cell hx 1; have r2 := obj_cell hx 2; have r3 := obj_cell hx 3; have r4 := obj_cell hx 4; have r5 := obj_cell hx 5; have r6 := obj_cell hx 6; have hb' := bel_next HB.out hb rfl rfl rfl rfl (by have := HB.out.size; omega); replace HX := Lib.hid hx; replace HB := Lib.hid hb'; clear hb hx hb')
      | (go_at_call 7; refine (HLV.out _ (by first | exact HRID.out _ _ HENV.out HB.out | exact HRID.out _ _ (HRID.out _ _ HENV.out HB.out) ⟨rfl, rfl, rfl, Nat.le_refl _, fun _ _ => rfl⟩)).mono ?_; rintro e w1 ⟨rfl, hb⟩; have hx := (hb.block w.heap.size (lt_of_block HX.out)).trans HX.out; have r0 := obj_cell hx 0; have r1 := obj_cell hx 1; have r2 := obj_cell hx 2; have r3 := obj_cell hx 3; have r4 := obj_cell hx 4; have r5 := obj_cell hx 5; have r6 := obj_cell hx 6; have hb' := bel_next HB.out hb rfl rfl rfl rfl (by have := HB.out.size; omega); replace HX := Lib.hid hx; replace HB := Lib.hid hb'; clear hb hx hb'))
    go_ret
    exact ⟨rfl, HB.out⟩

set_option maxHeartbeats 8000000 in
theorem fieldtexts_walk {E : World → Prop} (ok : FieldOk E) (w : World) (env : E w) (f : Fd) (hc : Came f) : Calls Tryd.prog 4 #[fdV f] w fun e w' => e = .returned (.bool true) ∧ Below w.heap.size w w' := by
  have HENV := Lib.hid env
  have HRID := Lib.hid ok.erides
  have HLV : Hid (∀ w, E w → Calls Tryd.prog 7 #[] w fun e w' => e = .returned (.bool true) ∧ Below w.heap.size w w') := Lib.hid (fllive_any ok)
  have HSM := Lib.hid (fun u => flsmall_any f hc u)
  have HRC := Lib.hid (fun u => rftext_any f u)
  have HP := Lib.hid (fun u e => ok.packed f u e hc)
  have HH := Lib.hid (fun u e => ok.hidden f u e hc)
  have HRP := Lib.hid (fun u => rfpacked_any f u)
  have HRH := Lib.hid (fun u => rfhidden_any f u)
  obtain ⟨C, hC⟩ : ∃ C, C = strOf (ftextT f) := ⟨_, rfl⟩
  obtain ⟨pk, hpk⟩ : ∃ pk, pk = packedT f := ⟨_, rfl⟩
  obtain ⟨hd, hhd⟩ : ∃ hd, hd = hiddenT f := ⟨_, rfl⟩
  rw [← hpk] at HP HRP
  rw [← hhd] at HH HRH
  by_cases hs : f.name.length + f.ref.length + f.one.length < 1000
  · rw [decide_eq_true hs] at HSM
    have HCK := Lib.hid (fun u e => ok.text f u e hc (Brief.short hs))
    rw [← hC] at HRC HCK
    obtain ⟨name, num, ty, ref, rep, loose, one⟩ := f
    unfold fdV at HSM HRC HCK HP HH HRP HRH ⊢
    dsimp only at HSM HRC HCK HP HH HRP HRH ⊢
    obtain ⟨sn, hsn⟩ : ∃ s, s = strOf name := ⟨_, rfl⟩
    obtain ⟨sr, hsr⟩ : ∃ s, s = strOf ref := ⟨_, rfl⟩
    obtain ⟨so, hso⟩ : ∃ s, s = strOf one := ⟨_, rfl⟩
    rw [← hsn, ← hsr, ← hso] at HSM HRC HCK HP HH HRP HRH ⊢
    have HB : Hid (Below w.heap.size w (w.alloc (.cells #[.string sn, .int .i64 num, .int .i64 ty, .string sr, .bool rep, .bool loose, .string so] 23))) := Lib.hid ((Below.refl _ w).alloc (Nat.le_refl _) _)
    have HX : Hid ((w.alloc (.cells #[.string sn, .int .i64 num, .int .i64 ty, .string sr, .bool rep, .bool loose, .string so] 23)).heap[w.heap.size]? = some (.cells #[.string sn, .int .i64 num, .int .i64 ty, .string sr, .bool rep, .bool loose, .string so] 23 (0, 0))) := Lib.hid (heap_alloc_new w _)
    clear ok env hc hC hpk hhd hs hsn hsr hso
    go_enter Tryd.func4, Tryd.ntmps4
    go_wp2_with (first
      | (go_at_call 6; refine (HSM.out _).mono ?_; rintro e w1 ⟨rfl, hb⟩; have hx := (hb.block w.heap.size (lt_of_block HX.out)).trans HX.out; have r0 := obj_cell hx 0; have r1 := obj_cell hx 1; have r2 := obj_cell hx 2; have r3 := obj_cell hx 3; have r4 := obj_cell hx 4; have r5 := obj_cell hx 5; have r6 := obj_cell hx 6; have hb' := bel_next HB.out hb rfl rfl rfl rfl (by have := HB.out.size; omega); replace HX := Lib.hid hx; replace HB := Lib.hid hb'; clear hb hx hb'))
    go_region_held3 (fun w' => w'.cell? ⟨w.heap.size, 0, none⟩ = some (.string sn) ∧ w'.cell? ⟨w.heap.size, 1, none⟩ = some (.int .i64 num) ∧ w'.cell? ⟨w.heap.size, 2, none⟩ = some (.int .i64 ty) ∧ w'.cell? ⟨w.heap.size, 3, none⟩ = some (.string sr) ∧ w'.cell? ⟨w.heap.size, 4, none⟩ = some (.bool rep) ∧ w'.cell? ⟨w.heap.size, 5, none⟩ = some (.bool loose) ∧ w'.cell? ⟨w.heap.size, 6, none⟩ = some (.string so))
      (first | exact ⟨r0, r1, r2, r3, r4, r5, r6⟩ | go_keep)
      (first
      | (go_at_call 11; refine (HCK.out _ (by first | exact HRID.out _ _ HENV.out HB.out | exact HRID.out _ _ (HRID.out _ _ HENV.out HB.out) ⟨rfl, rfl, rfl, Nat.le_refl _, fun _ _ => rfl⟩)).mono ?_; rintro e w1 ⟨rfl, hb⟩; have hx := (hb.block w.heap.size (lt_of_block HX.out)).trans HX.out; have r0 := obj_cell hx 0; have r1 := obj_cell hx 1; have r2 := obj_cell hx 2; have r3 := obj_cell hx 3; have r4 := obj_cell hx 4; have r5 := obj_cell hx 5; have r6 := obj_cell hx 6; have hb' := bel_next HB.out hb rfl rfl rfl rfl (by have := HB.out.size; omega); replace HX := Lib.hid hx; replace HB := Lib.hid hb'; clear hb hx hb')
      | (go_at_call 13; refine (HP.out _ (by first | exact HRID.out _ _ HENV.out HB.out | exact HRID.out _ _ (HRID.out _ _ HENV.out HB.out) ⟨rfl, rfl, rfl, Nat.le_refl _, fun _ _ => rfl⟩)).mono ?_; rintro e w1 ⟨rfl, hb⟩; have hx := (hb.block w.heap.size (lt_of_block HX.out)).trans HX.out; have r0 := obj_cell hx 0; have r1 := obj_cell hx 1; have r2 := obj_cell hx 2; have r3 := obj_cell hx 3; have r4 := obj_cell hx 4; have r5 := obj_cell hx 5; have r6 := obj_cell hx 6; have hb' := bel_next HB.out hb rfl rfl rfl rfl (by have := HB.out.size; omega); replace HX := Lib.hid hx; replace HB := Lib.hid hb'; clear hb hx hb')
      | (go_at_call 15; refine (HH.out _ (by first | exact HRID.out _ _ HENV.out HB.out | exact HRID.out _ _ (HRID.out _ _ HENV.out HB.out) ⟨rfl, rfl, rfl, Nat.le_refl _, fun _ _ => rfl⟩)).mono ?_; rintro e w1 ⟨rfl, hb⟩; have hx := (hb.block w.heap.size (lt_of_block HX.out)).trans HX.out; have r0 := obj_cell hx 0; have r1 := obj_cell hx 1; have r2 := obj_cell hx 2; have r3 := obj_cell hx 3; have r4 := obj_cell hx 4; have r5 := obj_cell hx 5; have r6 := obj_cell hx 6; have hb' := bel_next HB.out hb rfl rfl rfl rfl (by have := HB.out.size; omega); replace HX := Lib.hid hx; replace HB := Lib.hid hb'; clear hb hx hb')
      | (go_at_call 12; refine (HRC.out _).mono ?_; rintro e w1 ⟨rfl, hb⟩; have hx := (hb.block w.heap.size (lt_of_block HX.out)).trans HX.out; have r0 := obj_cell hx 0; have r1 := obj_cell hx 1; have r2 := obj_cell hx 2; have r3 := obj_cell hx 3; have r4 := obj_cell hx 4; have r5 := obj_cell hx 5; have r6 := obj_cell hx 6; have hb' := bel_next HB.out hb rfl rfl rfl rfl (by have := HB.out.size; omega); replace HX := Lib.hid hx; replace HB := Lib.hid hb'; clear hb hx hb')
      | (go_at_call 14; refine (HRP.out _).mono ?_; rintro e w1 ⟨rfl, hb⟩; have hx := (hb.block w.heap.size (lt_of_block HX.out)).trans HX.out; have r0 := obj_cell hx 0; have r1 := obj_cell hx 1; have r2 := obj_cell hx 2; have r3 := obj_cell hx 3; have r4 := obj_cell hx 4; have r5 := obj_cell hx 5; have r6 := obj_cell hx 6; have hb' := bel_next HB.out hb rfl rfl rfl rfl (by have := HB.out.size; omega); replace HX := Lib.hid hx; replace HB := Lib.hid hb'; clear hb hx hb')
      | (go_at_call 16; refine (HRH.out _).mono ?_; rintro e w1 ⟨rfl, hb⟩; have hx := (hb.block w.heap.size (lt_of_block HX.out)).trans HX.out; have r0 := obj_cell hx 0; have r1 := obj_cell hx 1; have r2 := obj_cell hx 2; have r3 := obj_cell hx 3; have r4 := obj_cell hx 4; have r5 := obj_cell hx 5; have r6 := obj_cell hx 6; have hb' := bel_next HB.out hb rfl rfl rfl rfl (by have := HB.out.size; omega); replace HX := Lib.hid hx; replace HB := Lib.hid hb'; clear hb hx hb')
      | (go_at_call 7; refine (HLV.out _ (by first | exact HRID.out _ _ HENV.out HB.out | exact HRID.out _ _ (HRID.out _ _ HENV.out HB.out) ⟨rfl, rfl, rfl, Nat.le_refl _, fun _ _ => rfl⟩)).mono ?_; rintro e w1 ⟨rfl, hb⟩; have hx := (hb.block w.heap.size (lt_of_block HX.out)).trans HX.out; have r0 := obj_cell hx 0; have r1 := obj_cell hx 1; have r2 := obj_cell hx 2; have r3 := obj_cell hx 3; have r4 := obj_cell hx 4; have r5 := obj_cell hx 5; have r6 := obj_cell hx 6; have hb' := bel_next HB.out hb rfl rfl rfl rfl (by have := HB.out.size; omega); replace HX := Lib.hid hx; replace HB := Lib.hid hb'; clear hb hx hb'))
    go_wp2
    go_ret
    exact ⟨rfl, HB.out⟩
  · rw [decide_eq_false hs] at HSM
    obtain ⟨name, num, ty, ref, rep, loose, one⟩ := f
    unfold fdV at HSM ⊢
    dsimp only at HSM ⊢
    obtain ⟨sn, hsn⟩ : ∃ s, s = strOf name := ⟨_, rfl⟩
    obtain ⟨sr, hsr⟩ : ∃ s, s = strOf ref := ⟨_, rfl⟩
    obtain ⟨so, hso⟩ : ∃ s, s = strOf one := ⟨_, rfl⟩
    rw [← hsn, ← hsr, ← hso] at HSM ⊢
    have HB : Hid (Below w.heap.size w (w.alloc (.cells #[.string sn, .int .i64 num, .int .i64 ty, .string sr, .bool rep, .bool loose, .string so] 23))) := Lib.hid ((Below.refl _ w).alloc (Nat.le_refl _) _)
    have HX : Hid ((w.alloc (.cells #[.string sn, .int .i64 num, .int .i64 ty, .string sr, .bool rep, .bool loose, .string so] 23)).heap[w.heap.size]? = some (.cells #[.string sn, .int .i64 num, .int .i64 ty, .string sr, .bool rep, .bool loose, .string so] 23 (0, 0))) := Lib.hid (heap_alloc_new w _)
    clear ok env hc hC hpk hhd hs hsn hsr hso HRC HP HH HRP HRH
    go_enter Tryd.func4, Tryd.ntmps4
    go_wp2_with (first
      | (go_at_call 6; refine (HSM.out _).mono ?_; rintro e w1 ⟨rfl, hb⟩; have hx := (hb.block w.heap.size (lt_of_block HX.out)).trans HX.out; have r0 := obj_cell hx 0; have r1 := obj_cell hx 1; have r2 := obj_cell hx 2; have r3 := obj_cell hx 3; have r4 := obj_cell hx 4; have r5 := obj_cell hx 5; have r6 := obj_cell hx 6; have hb' := bel_next HB.out hb rfl rfl rfl rfl (by have := HB.out.size; omega); replace HX := Lib.hid hx; replace HB := Lib.hid hb'; clear hb hx hb')
      | (go_at_call 7; refine (HLV.out _ (by first | exact HRID.out _ _ HENV.out HB.out | exact HRID.out _ _ (HRID.out _ _ HENV.out HB.out) ⟨rfl, rfl, rfl, Nat.le_refl _, fun _ _ => rfl⟩)).mono ?_; rintro e w1 ⟨rfl, hb⟩; have hx := (hb.block w.heap.size (lt_of_block HX.out)).trans HX.out; have r0 := obj_cell hx 0; have r1 := obj_cell hx 1; have r2 := obj_cell hx 2; have r3 := obj_cell hx 3; have r4 := obj_cell hx 4; have r5 := obj_cell hx 5; have r6 := obj_cell hx 6; have hb' := bel_next HB.out hb rfl rfl rfl rfl (by have := HB.out.size; omega); replace HX := Lib.hid hx; replace HB := Lib.hid hb'; clear hb hx hb'))
    go_ret
    exact ⟨rfl, HB.out⟩
end Go.Proofs.YtnbjpeefndcheaaDoor
