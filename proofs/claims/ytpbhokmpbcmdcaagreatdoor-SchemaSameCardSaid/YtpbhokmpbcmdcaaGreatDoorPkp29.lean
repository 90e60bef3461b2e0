/- Several texts in one: SchSame. What each proves, and its conditions, stands at its own head. -/
import Derived.Test.YtpbhokmpbcmdcaaGreatDoorPkp28
import Derived.Test.YtpbhokmpbcmdcaaGreatDoorPkp18
import Derived.Test.YtpbhokmpbcmdcaaGreatDoorPkp26
import Derived.Test.YtpbhokmpbcmdcaaGreatDoorPkp24
import Derived.Test.YtpbhokmpbcmdcaaGreatDoorPkp16
/- What is asked of the program's Same and Copy, and the laws: SchemaSame. Conditions: those that each theorem names. -/
namespace Go.Proofs.YtpbhokmpbcmdcaaGreatDoor
open Go.RowKit
set_option linter.unusedVariables false
set_option maxRecDepth 100000

/-- What is asked. -/
structure SchSameOk (E : World → Prop) : Prop where
  ssame : ∀ (S T : Nat → Nat → Prop) w A n cap A2 n2 cap2 s B m cb B2 m2 cb2 t, E w → ScAt S w A n cap A2 n2 cap2 s → ScAt T w B m cb B2 m2 cb2 t → ScOk s → ScOk t → smallT s = true → smallT t = true →
    Calls Tryz.prog 13 #[.agg #[.slice A n cap, .slice A2 n2 cap2], .agg #[.slice B m cb, .slice B2 m2 cb2]] w fun e w' => e = .returned (.bool (decide (s = t))) ∧ Below w.heap.size w w'
  scopy : ∀ (S : Nat → Nat → Prop) w A n cap A2 n2 cap2 s, E w → ScAt S w A n cap A2 n2 cap2 s → ScOk s → smallT s = true →
    Calls Tryz.prog 12 #[.agg #[.slice A n cap, .slice A2 n2 cap2]] w fun e w' => ∃ B m cb B2 m2 cb2, e = .returned (.agg #[.slice B m cb, .slice B2 m2 cb2]) ∧ ScAt (fun _ g => w.heap.size ≤ g) w' B m cb B2 m2 cb2 s ∧ Below w.heap.size w w'

/-- Message i of the shape: its place, its two lists, and that it may be written to. -/
theorem sh_msg {base top : Nat} {wr : World} {B B2 : Option Addr} {s : Sc} {i : Nat} {x : Ms} (h : Shp base top wr B B2 s) (hi : s.msgs[i]? = some x) :
    ∃ g o A c A' c', B2 = some ⟨g, o, none⟩ ∧ (base ≤ g ∧ g < top ∧ ∃ cs, wr.heap[g]? = some (.cells cs 37 (0, 0))) ∧ (∃ v, wr.cell? ⟨g, o + i * 3, none⟩ = some v) ∧ wr.frozen? ⟨g, o + i * 3, none⟩ = false ∧
      wr.cell? ⟨g, o + i * 3 + 1, none⟩ = some (.slice A x.fields.length c) ∧ wr.cell? ⟨g, o + i * 3 + 2, none⟩ = some (.slice A' x.barred.length c') ∧ (x.fields.length ≤ c ∧ c ≤ 9223372036854775807 ∧ x.barred.length ≤ c' ∧ c' ≤ 9223372036854775807) ∧
      (∀ k, k < x.fields.length → ∃ g1 o1 v, A = some ⟨g1, o1, none⟩ ∧ (base ≤ g1 ∧ g1 < top ∧ ∃ cs, wr.heap[g1]? = some (.cells cs 39 (0, 0))) ∧ wr.cell? ⟨g1, o1 + k * 7, none⟩ = some v ∧ wr.frozen? ⟨g1, o1 + k * 7, none⟩ = false) ∧
      ∀ k, k < x.barred.length → ∃ g1 o1 v, A' = some ⟨g1, o1, none⟩ ∧ (base ≤ g1 ∧ g1 < top ∧ ∃ cs, wr.heap[g1]? = some (.cells cs 3 (0, 0))) ∧ wr.cell? ⟨g1, o1 + k, none⟩ = some v ∧ wr.frozen? ⟨g1, o1 + k, none⟩ = false := by
  obtain ⟨A, c, A', c', ⟨v, h0⟩, h1, h2, hl, h3, h4⟩ := h.sh_m i x hi
  obtain ⟨g, o, cs, rfl, a1, a2, a3, a4, a5⟩ := hd_cell h0
  obtain ⟨g', o', cs', e', b1, b2, b3, b4, b5⟩ := hd_cell h1
  obtain ⟨g2, o2, cs2, e2, d1, d2, d3, d4, d5⟩ := hd_cell h2
  injection e' with e'
  injection e' with e1 e3
  injection e2 with e2
  injection e2 with e4 e5
  subst e1 e3 e4 e5
  rw [Nat.add_zero] at a4 a5
  refine ⟨g, o, A, c, A', c', rfl, ⟨a1, a2, cs, a3⟩, ⟨v, a4⟩, a5, b4, d4, hl, fun k hk => ?_, fun k hk => ?_⟩
  · obtain ⟨v, hv⟩ := h3 k hk
    obtain ⟨g1, o1, cs1, rfl, k1, k2, k3, k4, k5⟩ := hd_cell hv
    rw [Nat.add_zero] at k4 k5
    exact ⟨g1, o1, v, rfl, ⟨k1, k2, cs1, k3⟩, k4, k5⟩
  · obtain ⟨v, hv⟩ := h4 k hk
    obtain ⟨g1, o1, cs1, rfl, k1, k2, k3, k4, k5⟩ := hd_cell hv
    rw [Nat.add_zero, Nat.mul_one] at k4 k5
    exact ⟨g1, o1, v, rfl, ⟨k1, k2, cs1, k3⟩, k4, k5⟩
/-- Enum i of the shape. -/
theorem sh_enm {base top : Nat} {wr : World} {B B2 : Option Addr} {s : Sc} {i : Nat} {x : En} (h : Shp base top wr B B2 s) (hi : s.enums[i]? = some x) :
    ∃ g o A c, B = some ⟨g, o, none⟩ ∧ (base ≤ g ∧ g < top ∧ ∃ cs, wr.heap[g]? = some (.cells cs 42 (0, 0))) ∧ (∃ v, wr.cell? ⟨g, o + i * 2, none⟩ = some v) ∧ wr.frozen? ⟨g, o + i * 2, none⟩ = false ∧
      wr.cell? ⟨g, o + i * 2 + 1, none⟩ = some (.slice A x.values.length c) ∧ (x.values.length ≤ c ∧ c ≤ 9223372036854775807) ∧
      ∀ k, k < x.values.length → ∃ g1 o1 v, A = some ⟨g1, o1, none⟩ ∧ (base ≤ g1 ∧ g1 < top ∧ ∃ cs, wr.heap[g1]? = some (.cells cs 44 (0, 0))) ∧ wr.cell? ⟨g1, o1 + k * 2 + 1, none⟩ = some v ∧ wr.frozen? ⟨g1, o1 + k * 2 + 1, none⟩ = false := by
  obtain ⟨A, c, ⟨v, h0⟩, h1, hl, h3⟩ := h.sh_e i x hi
  obtain ⟨g, o, cs, rfl, a1, a2, a3, a4, a5⟩ := hd_cell h0
  obtain ⟨g', o', cs', e', b1, b2, b3, b4, b5⟩ := hd_cell h1
  injection e' with e'
  injection e' with e1 e3
  subst e1 e3
  rw [Nat.add_zero] at a4 a5
  refine ⟨g, o, A, c, rfl, ⟨a1, a2, cs, a3⟩, ⟨v, a4⟩, a5, b4, hl, fun k hk => ?_⟩
  obtain ⟨v, hv⟩ := h3 k hk
  obtain ⟨g1, o1, cs1, rfl, k1, k2, k3, k4, k5⟩ := hd_cell hv
  exact ⟨g1, o1, v, rfl, ⟨k1, k2, cs1, k3⟩, k4, k5⟩

set_option maxHeartbeats 16000000 in
theorem schemasame_walk {E : World → Prop} (okc : SchCheckOk E) (ok : SchSameOk E) (w : World) (env : E w) {S T : Nat → Nat → Prop} {A A2 C C2 : Option Addr} {n cap n2 cap2 k ck k2 ck2 : Nat} {s t : Sc} (h : ScAt S w A n cap A2 n2 cap2 s) (hS : ∀ k g, S k g → g < w.heap.size) (hok : ScOk s) (h' : ScAt T w C k ck C2 k2 ck2 t) (hok' : ScOk t) :
    Calls Tryz.prog 4 #[.agg #[.slice A n cap, .slice A2 n2 cap2], .agg #[.slice C k ck, .slice C2 k2 ck2]] w fun e w' => e = .returned (.bool true) ∧ Below w.heap.size w w' := by
  have HLV := Lib.hid (fun u (hb : Below w.heap.size w u) => schlive_any okc u (okc.serides _ _ env hb))
  have HSA := Lib.hid (fun u (hb : Below w.heap.size w u) => rvsmall_any u (scAt_bel h hb) hok)
  have HSB := Lib.hid (fun u (hb : Below w.heap.size w u) => rvsmall_any u (scAt_bel h' hb) hok')
  have HBX := Lib.hid (bx2_start w #[.slice A n cap, .slice A2 n2 cap2] #[.slice C k ck, .slice C2 k2 ck2] 25 25)
  have r0 := obj_cell HBX.out.b2_one 0
  have r1 := obj_cell HBX.out.b2_one 1
  have q0 := obj_cell HBX.out.b2_two 0
  have q1 := obj_cell HBX.out.b2_two 1
  cases hs : smallT s with
  | false =>
    rw [hs] at HSA
    clear ok okc env h h' hok hok' hS hs
    go_enter Tryz.func4, Tryz.ntmps4
    go_wp2_with (first
      | (go_at_call 6; refine (HSA.out _ HBX.out.b2_bel).mono ?_; rintro e w1 ⟨rfl, hb⟩; replace HBX := Lib.hid (bx2_step HBX.out hb); clear hb)
      | (go_at_call 7; refine (HLV.out _ HBX.out.b2_bel).mono ?_; rintro e w4 ⟨rfl, hb⟩; replace HBX := Lib.hid (bx2_step HBX.out hb); clear hb))
    go_ret
    exact ⟨rfl, HBX.out.b2_bel⟩
  | true =>
    cases ht : smallT t with
    | false =>
      rw [hs] at HSA
      rw [ht] at HSB
      clear ok okc env h h' hok hok' hS hs ht
      go_enter Tryz.func4, Tryz.ntmps4
      go_wp2_with (first
        | (go_at_call 6; first
            | (refine (HSA.out _ HBX.out.b2_bel).mono ?_; rintro e w1 ⟨rfl, hb⟩; replace HBX := Lib.hid (bx2_step HBX.out hb); replace r0 := obj_cell HBX.out.b2_one 0; replace r1 := obj_cell HBX.out.b2_one 1; replace q0 := obj_cell HBX.out.b2_two 0; replace q1 := obj_cell HBX.out.b2_two 1; clear hb HSA)
            | (refine (HSB.out _ HBX.out.b2_bel).mono ?_; rintro e w2 ⟨rfl, hb⟩; replace HBX := Lib.hid (bx2_step HBX.out hb); clear hb))
        | (go_at_call 7; refine (HLV.out _ HBX.out.b2_bel).mono ?_; rintro e w4 ⟨rfl, hb⟩; replace HBX := Lib.hid (bx2_step HBX.out hb); clear hb))
      go_ret
      exact ⟨rfl, HBX.out.b2_bel⟩
    | true =>
      have HRC := Lib.hid (fun u (hb : Below w.heap.size w u) => rvcopy_any u (scAt_bel h hb) (by have := small_sizes hs; rw [h.s_ne, h.s_nm]; exact this))
      rw [hs] at HSA
      rw [ht] at HSB
      obtain ⟨D, hD⟩ : ∃ D, D = decide (s = t) := ⟨_, rfl⟩
      have HCP : Hid (∀ u B m cb B2 m2 cb2 (S : Nat → Nat → Prop), Below w.heap.size w u → ScAt S u B m cb B2 m2 cb2 s → _) := Lib.hid (fun u B m cb B2 m2 cb2 S hb hx => ok.scopy S u B m cb B2 m2 cb2 s (okc.serides _ _ env hb) hx hok hs)
      have HAB := Lib.hid (fun u (hb : Below w.heap.size w u) => ok.ssame S T u _ _ _ _ _ _ _ _ _ _ _ _ _ _ (okc.serides _ _ env hb) (scAt_bel h hb) (scAt_bel h' hb) hok hok' hs ht)
      have HRAB := Lib.hid (fun u (hb : Below w.heap.size w u) => rvsame_any u (scAt_bel h hb) (scAt_bel h' hb))
      have HAC : Hid (∀ u B m cb B2 m2 cb2 (U : Nat → Nat → Prop), Below w.heap.size w u → ScAt U u B m cb B2 m2 cb2 s → Calls Tryz.prog 13 #[.agg #[.slice A n cap, .slice A2 n2 cap2], .agg #[.slice B m cb, .slice B2 m2 cb2]] u fun e w' => e = .returned (.bool true) ∧ Below u.heap.size u w') := Lib.hid (fun u B m cb B2 m2 cb2 U hb hx => by
        have := ok.ssame S U u _ _ _ _ _ _ _ _ _ _ _ _ _ _ (okc.serides _ _ env hb) (scAt_bel h hb) hx hok hok hs hs
        rwa [decide_eq_true (rfl : s = s)] at this)
      have HRAC : Hid (∀ u B m cb B2 m2 cb2 (U : Nat → Nat → Prop), Below w.heap.size w u → ScAt U u B m cb B2 m2 cb2 s → Calls Tryz.prog 14 #[.agg #[.slice A n cap, .slice A2 n2 cap2], .agg #[.slice B m cb, .slice B2 m2 cb2]] u fun e w' => e = .returned (.bool true) ∧ Below u.heap.size u w') := Lib.hid (fun u B m cb B2 m2 cb2 U hb hx => by
        have := rvsame_any u (scAt_bel h hb) hx
        rwa [decide_eq_true (rfl : s = s)] at this)
      rw [← hD] at HAB HRAB
      have HSS := Lib.hid hS
      clear ok okc env h h' hok hok' hS hs ht hD
      go_enter Tryz.func4, Tryz.ntmps4
      go_wp2_with (first
        | (go_at_call 6; first
            | (refine (HSA.out _ HBX.out.b2_bel).mono ?_; rintro e w1 ⟨rfl, hb⟩; have HBY := Lib.hid (bx2_step HBX.out hb); clear HBX; have HBX := HBY; clear HBY; replace r0 := obj_cell HBX.out.b2_one 0; replace r1 := obj_cell HBX.out.b2_one 1; replace q0 := obj_cell HBX.out.b2_two 0; replace q1 := obj_cell HBX.out.b2_two 1; clear hb HSA)
            | (refine (HSB.out _ HBX.out.b2_bel).mono ?_; rintro e w2 ⟨rfl, hb⟩; replace HBX := Lib.hid (bx2_step HBX.out hb); replace r0 := obj_cell HBX.out.b2_one 0; replace r1 := obj_cell HBX.out.b2_one 1; replace q0 := obj_cell HBX.out.b2_two 0; replace q1 := obj_cell HBX.out.b2_two 1; clear hb))
        | (go_at_call 11; refine (HRC.out _ HBX.out.b2_bel).mono ?_; rintro e w3 ⟨B, m, cb, B2, m2, cb2, rfl, hat, hb⟩; have HLW := Lib.hid (And.intro (lt_of_block HBX.out.b2_two) HBX.out.b2_bel); have HAT := Lib.hid hat; have HBC := Lib.hid hb; replace HBX := Lib.hid (bx2_step HBX.out hb); replace r0 := obj_cell HBX.out.b2_one 0; replace r1 := obj_cell HBX.out.b2_one 1; replace q0 := obj_cell HBX.out.b2_two 0; replace q1 := obj_cell HBX.out.b2_two 1; clear hb hat)
        | (go_at_call 12; refine (HCP.out _ _ _ _ _ _ _ _ (HBX.out.b2_bel.alloc HBX.out.b2_bel.size _) (scAt_bel HAT.out ((Below.refl _ _).alloc (Nat.le_refl _) _))).mono ?_; rintro e w4 ⟨B5, m5, cb5, B6, m6, cb6, rfl, hat, hb⟩; have HCT := Lib.hid hat; have HBD := Lib.hid hb; replace HBX := Lib.hid (bx2_step (bx2_step HBX.out ((Below.refl _ _).alloc (Nat.le_refl _) _)) hb); have hxb := (hb.block _ (lt_of_block (heap_alloc_new w3 _))).trans (heap_alloc_new w3 (.cells #[.slice B m cb, .slice B2 m2 cb2] 25)); have HXB := Lib.hid hxb; clear hb hat hxb))
      have HB5 := Lib.hid (bx2_step HBX.out ((Below.refl _ _).alloc (Nat.le_refl _) (.cells #[.slice B5 m5 cb5, .slice B6 m6 cb6] 25)))
      have hcb := heap_alloc_new w4 (.cells #[.slice B5 m5 cb5, .slice B6 m6 cb6] 25)
      have HCB := Lib.hid hcb
      have HCT5 := Lib.hid (scAt_bel HCT.out ((Below.refl _ w4).alloc (Nat.le_refl _) (.cells #[.slice B5 m5 cb5, .slice B6 m6 cb6] 25)))
      obtain ⟨w5, hw5⟩ : ∃ w5, w5 = w4.alloc (.cells #[.slice B5 m5 cb5, .slice B6 m6 cb6] 25) := ⟨_, rfl⟩
      rw [← hw5] at HB5 HCB HCT5 hcb ⊢
      have HWX := Lib.hid hw5
      clear hw5 HBX r0 r1 q0 q1
      have r0 := obj_cell HB5.out.b2_one 0
      have r1 := obj_cell HB5.out.b2_one 1
      have q0 := obj_cell HB5.out.b2_two 0
      have q1 := obj_cell HB5.out.b2_two 1
      have c0 := obj_cell hcb 0
      have c1 := obj_cell hcb 1
      clear hcb
      have HFR := Lib.hid (drewN_under w5 1)
      have HK5 : Hid (∀ w', Below w5.heap.size w5 w' → w'.cell? ⟨w.heap.size, 0, none⟩ = some (.slice A n cap) ∧ w'.cell? ⟨w.heap.size, 1, none⟩ = some (.slice A2 n2 cap2) ∧ w'.cell? ⟨w.heap.size + 1, 0, none⟩ = some (.slice C k ck) ∧ w'.cell? ⟨w.heap.size + 1, 1, none⟩ = some (.slice C2 k2 ck2) ∧ w'.cell? ⟨w4.heap.size, 0, none⟩ = some (.slice B5 m5 cb5) ∧ w'.cell? ⟨w4.heap.size, 1, none⟩ = some (.slice B6 m6 cb6)) := Lib.hid (fun w' hb => ⟨cell_under hb (obj_cell HB5.out.b2_one 0), cell_under hb (obj_cell HB5.out.b2_one 1), cell_under hb (obj_cell HB5.out.b2_two 0), cell_under hb (obj_cell HB5.out.b2_two 1), cell_under hb (obj_cell HCB.out 0), cell_under hb (obj_cell HCB.out 1)⟩)
      have hne : ∀ w, (binOp .neq 4 (.bool D) (.bool D)).run Tryz.prog w = .ok (.bool false) w := by intro w; cases D <;> go_simp
      go_region_held3 (fun w' => w'.cell? ⟨w.heap.size, 0, none⟩ = some (.slice A n cap) ∧ w'.cell? ⟨w.heap.size, 1, none⟩ = some (.slice A2 n2 cap2) ∧ w'.cell? ⟨w.heap.size + 1, 0, none⟩ = some (.slice C k ck) ∧ w'.cell? ⟨w.heap.size + 1, 1, none⟩ = some (.slice C2 k2 ck2) ∧ w'.cell? ⟨w4.heap.size, 0, none⟩ = some (.slice B5 m5 cb5) ∧ w'.cell? ⟨w4.heap.size, 1, none⟩ = some (.slice B6 m6 cb6))
        (exact HK5.out _ HFR.out)
        (first
          | (go_at_call 13; first
            | (refine (HAB.out _ (HB5.out.b2_bel.trans (HFR.out.mono HB5.out.b2_bel.size))).mono ?_; rintro e w6 ⟨rfl, hb⟩; replace HFR := Lib.hid (HFR.out.trans (hb.mono HFR.out.size)); clear hb HAB)
            | (refine (HAC.out _ _ _ _ _ _ _ _ (HB5.out.b2_bel.trans (HFR.out.mono HB5.out.b2_bel.size)) (scAt_bel HCT5.out HFR.out)).mono ?_; rintro e w6 ⟨rfl, hb⟩; replace HFR := Lib.hid (HFR.out.trans (hb.mono HFR.out.size)); clear hb HAC))
          | (go_at_call 14; first
            | (refine (HRAB.out _ (HB5.out.b2_bel.trans (HFR.out.mono HB5.out.b2_bel.size))).mono ?_; rintro e w6 ⟨rfl, hb⟩; replace HFR := Lib.hid (HFR.out.trans (hb.mono HFR.out.size)); clear hb HRAB)
            | (refine (HRAC.out _ _ _ _ _ _ _ _ (HB5.out.b2_bel.trans (HFR.out.mono HB5.out.b2_bel.size)) (scAt_bel HCT5.out HFR.out)).mono ?_; rintro e w6 ⟨rfl, hb⟩; replace HFR := Lib.hid (HFR.out.trans (hb.mono HFR.out.size)); clear hb)))
      have HBEL := Lib.hid (HB5.out.b2_bel.trans (HFR.out.mono HB5.out.b2_bel.size))
      have hw45 : Below w4.heap.size w4 w5 := by rw [HWX.out]; exact (Below.refl _ w4).alloc (Nat.le_refl _) _
      have hb46 : Below w4.heap.size w4 w6 := hw45.trans (HFR.out.mono hw45.size)
      have h3a : Below w3.heap.size w3 (w3.alloc (.cells #[.slice B m cb, .slice B2 m2 cb2] 25)) := (Below.refl _ w3).alloc (Nat.le_refl _) _
      have h34 : Below w3.heap.size w3 w4 := h3a.trans (HBD.out.mono h3a.size)
      have h36 : Below w3.heap.size w3 w6 := h34.trans (hb46.mono h34.size)
      have HXB6 : Hid (w6.heap[w3.heap.size]? = some (.cells #[.slice B m cb, .slice B2 m2 cb2] 25 (0, 0))) := Lib.hid ((hb46.block _ (lt_of_block HXB.out)).trans HXB.out)
      have HSH := Lib.hid (shp_bel (shp_of HAT.out) h36)
      have HCT6 := Lib.hid (scAt_bel HCT5.out HFR.out)
      have HBXA := Lib.hid (And.intro (bx2_step HB5.out HFR.out) ((HFR.out.block _ (lt_of_block HCB.out)).trans HCB.out))
      have HMS : Hid (m2 = s.msgs.length ∧ m = s.enums.length) := Lib.hid ⟨HAT.out.s_nm, HAT.out.s_ne⟩
      have HTOP : Hid (w.heap.size + 1 < w2.heap.size ∧ w2.heap.size ≤ w3.heap.size ∧ w3.heap.size < w4.heap.size) := Lib.hid ⟨HLW.out.1, HBC.out.size, lt_of_block HXB.out⟩
      have hsz := scAt_max HAT.out
      obtain ⟨z1, z2, z3, z4⟩ := hsz
      clear hw45 hb46 h3a h34 h36 HAT HCT HBD HBC HXB HWX HB5 HCB HCT5 HFR HK5 HSB HRC HCP HLW HSS r0 r1 q0 q1 c0 c1 hne
      have x0 := obj_cell HXB6.out 0
      have x1 := obj_cell HXB6.out 1
      go_wp2
      go_loopg [7, 8, 9] m2 (fun gz y7 y8 y9 wr => ∃ i : Nat, y7 = .int .i64 (i : Int) ∧ i + gz = m2 ∧ Shp w2.heap.size w3.heap.size wr B B2 s ∧ Mutd w2.heap.size w3.heap.size w6 wr)
      case atStart => exact ⟨0, rfl, by omega, HSH.out, mutd_refl _ _ _⟩
      case round =>
        obtain ⟨i, rfl, hi, hsh, hmu⟩ := hrel
        clear x0 x1
        have HSH := Lib.hid hsh
        have HMU := Lib.hid hmu
        clear hsh hmu
        obtain ⟨g0, hg0⟩ : ∃ g0, g0 = gk := ⟨_, rfl⟩
        subst hg0
        have hxb := (HMU.out.m_block _ (.inr (Nat.le_refl _))).trans HXB6.out
        have x0 := obj_cell hxb 0
        have x1 := obj_cell hxb 1
        clear hxb
        by_cases hlti : i < m2
        · have ti : decide ((i : Int) < (m2 : Int)) = true := decide_eq_true (by omega)
          obtain ⟨x, hx⟩ : ∃ x, s.msgs[i]? = some x := ⟨_, List.getElem?_eq_getElem (by have := HMS.out.1; omega)⟩
          have HXI := Lib.hid hx
          obtain ⟨nf, hnf⟩ : ∃ nf, nf = x.fields.length := ⟨_, rfl⟩
          obtain ⟨nb, hnb⟩ : ∃ nb, nb = x.barred.length := ⟨_, rfl⟩
          have HNF := Lib.hid hnf
          have HNB := Lib.hid hnb
          clear hx hnf hnb
          obtain ⟨gm, om, A1, ca, A3, cb3, rfl, -, -, -, d1, d2, ⟨e1, e2, e3, e4⟩, -, -⟩ := sh_msg HSH.out HXI.out
          rw [← HNF.out] at d1 e1
          rw [← HNB.out] at d2 e3
          go_wp2
          clear d1 d2 e1 e2 e3 e4 x0 x1
          go_loopg [8] nf (fun gz y8 wr => ∃ k : Nat, y8 = .int .i64 (k : Int) ∧ k + gz = nf ∧ Shp w2.heap.size w3.heap.size wr B (some ⟨gm, om, none⟩) s ∧ Mutd w2.heap.size w3.heap.size w6 wr)
          case atStart => exact ⟨0, rfl, by omega, HSH.out, HMU.out⟩
          case round =>
            obtain ⟨k, rfl, hk, hsh, hmu⟩ := hrel
            clear HSH HMU
            have HSH := Lib.hid hsh
            have HMU := Lib.hid hmu
            clear hsh hmu
            obtain ⟨g1, hg1⟩ : ∃ g1, g1 = gk := ⟨_, rfl⟩
            subst hg1
            have hxb := (HMU.out.m_block _ (.inr (Nat.le_refl _))).trans HXB6.out
            have x0 := obj_cell hxb 0
            have x1 := obj_cell hxb 1
            clear hxb
            obtain ⟨gm', om', A1, ca, A3, cb3, eg, -, -, -, d1, d2, ⟨e1, e2, e3, e4⟩, hF, -⟩ := sh_msg HSH.out HXI.out
            injection eg with eg
            injection eg with eg1 eg2
            subst eg1 eg2
            rw [← HNF.out] at d1 e1
            by_cases hltk : k < nf
            · have tk : decide ((k : Int) < (nf : Int)) = true := decide_eq_true (by omega)
              obtain ⟨gf, of, v, rfl, ⟨f1, f2, cs, f3⟩, f4, f5⟩ := hF k (by have := HNF.out; omega)
              have HF3 := Lib.hid f3
              have HF12 := Lib.hid (And.intro f1 f2)
              clear f1 f2 f3 hF d2 e3 e4
              go_wp2
              go_roundg (g1 - 1)
              case measure => omega
              case rel => exact ⟨k + 1, by go_num, by omega, shp_free HSH.out HF3.out (by decide) (by decide), mutd_set HMU.out HF12.out.1 HF12.out.2 _⟩
            · have tk : decide ((k : Int) < (nf : Int)) = false := decide_eq_false (by omega)
              rw [← HNB.out] at d2 e3
              clear hF
              go_wp2
              clear d1 d2 e1 e2 e3 e4 x0 x1 tk
              go_loopg [9] nb (fun gz y9 wr => ∃ k : Nat, y9 = .int .i64 (k : Int) ∧ k + gz = nb ∧ Shp w2.heap.size w3.heap.size wr B (some ⟨gm, om, none⟩) s ∧ Mutd w2.heap.size w3.heap.size w6 wr)
              case atStart => exact ⟨0, rfl, by omega, HSH.out, HMU.out⟩
              case round =>
                obtain ⟨k2, rfl, hk2, hsh, hmu⟩ := hrel
                clear HSH HMU
                have HSH := Lib.hid hsh
                have HMU := Lib.hid hmu
                clear hsh hmu
                obtain ⟨g2, hg2⟩ : ∃ g2, g2 = gk := ⟨_, rfl⟩
                subst hg2
                have hxb := (HMU.out.m_block _ (.inr (Nat.le_refl _))).trans HXB6.out
                have x0 := obj_cell hxb 0
                have x1 := obj_cell hxb 1
                clear hxb
                obtain ⟨gm', om', A1, ca, A3, cb3, eg, ⟨n1, n2', cs0, n3⟩, ⟨v0, a4⟩, a5, d1, d2, ⟨e1, e2, e3, e4⟩, -, hF⟩ := sh_msg HSH.out HXI.out
                injection eg with eg
                injection eg with eg1 eg2
                subst eg1 eg2
                rw [← HNB.out] at d2 e3
                have HN3 := Lib.hid n3
                have HN12 := Lib.hid (And.intro n1 n2')
                clear n1 n2' n3
                by_cases hltk : k2 < nb
                · have tk : decide ((k2 : Int) < (nb : Int)) = true := decide_eq_true (by omega)
                  obtain ⟨gf, of, v, rfl, ⟨f1, f2, cs, f3⟩, f4, f5⟩ := hF k2 (by have := HNB.out; omega)
                  have HF3 := Lib.hid f3
                  have HF12 := Lib.hid (And.intro f1 f2)
                  clear f1 f2 f3 hF d1 e1 e2 a4 a5
                  go_wp2
                  go_roundg (g2 - 1)
                  case measure => omega
                  case rel => exact ⟨k2 + 1, by go_num, by omega, shp_free HSH.out HF3.out (by decide) (by decide), mutd_set HMU.out HF12.out.1 HF12.out.2 _⟩
                · have tk : decide ((k2 : Int) < (nb : Int)) = false := decide_eq_false (by omega)
                  clear hF d1 e1 e2
                  go_wp2
                  go_roundg (g0 - 1)
                  case measure => omega
                  case rel => exact ⟨i + 1, by go_num, by omega, shp_ms HSH.out HN3.out i, mutd_set HMU.out HN12.out.1 HN12.out.2 _⟩
        · have ti : decide ((i : Int) < (m2 : Int)) = false := decide_eq_false (by omega)
          go_wp2
          clear x0 x1 ti
          go_loopg [10, 11] m (fun gz y10 y11 wr => ∃ i : Nat, y10 = .int .i64 (i : Int) ∧ i + gz = m ∧ Shp w2.heap.size w3.heap.size wr B B2 s ∧ Mutd w2.heap.size w3.heap.size w6 wr)
          case atStart => exact ⟨0, rfl, by omega, HSH.out, HMU.out⟩
          case round =>
            obtain ⟨j, rfl, hj, hsh, hmu⟩ := hrel
            clear HSH HMU
            have HSH := Lib.hid hsh
            have HMU := Lib.hid hmu
            clear hsh hmu
            obtain ⟨g1, hg1⟩ : ∃ g1, g1 = gk := ⟨_, rfl⟩
            subst hg1
            have hxb := (HMU.out.m_block _ (.inr (Nat.le_refl _))).trans HXB6.out
            have x0 := obj_cell hxb 0
            have x1 := obj_cell hxb 1
            clear hxb
            by_cases hltj : j < m
            · have tj : decide ((j : Int) < (m : Int)) = true := decide_eq_true (by omega)
              obtain ⟨x, hx⟩ : ∃ x, s.enums[j]? = some x := ⟨_, List.getElem?_eq_getElem (by have := HMS.out.2; omega)⟩
              have HXI := Lib.hid hx
              obtain ⟨nf, hnf⟩ : ∃ nf, nf = x.values.length := ⟨_, rfl⟩
              have HNF := Lib.hid hnf
              clear hx hnf
              obtain ⟨gm, om, A1, ca, rfl, -, -, -, d1, ⟨e1, e2⟩, -⟩ := sh_enm HSH.out HXI.out
              rw [← HNF.out] at d1 e1
              go_wp2
              clear d1 e1 e2 x0 x1
              go_loopg [11] nf (fun gz y11 wr => ∃ k : Nat, y11 = .int .i64 (k : Int) ∧ k + gz = nf ∧ Shp w2.heap.size w3.heap.size wr (some ⟨gm, om, none⟩) B2 s ∧ Mutd w2.heap.size w3.heap.size w6 wr)
              case atStart => exact ⟨0, rfl, by omega, HSH.out, HMU.out⟩
              case round =>
                obtain ⟨k2, rfl, hk2, hsh, hmu⟩ := hrel
                clear HSH HMU
                have HSH := Lib.hid hsh
                have HMU := Lib.hid hmu
                clear hsh hmu
                obtain ⟨g2, hg2⟩ : ∃ g2, g2 = gk := ⟨_, rfl⟩
                subst hg2
                have hxb := (HMU.out.m_block _ (.inr (Nat.le_refl _))).trans HXB6.out
                have x0 := obj_cell hxb 0
                have x1 := obj_cell hxb 1
                clear hxb
                obtain ⟨gm', om', A1, ca, eg, ⟨n1, n2', cs0, n3⟩, ⟨v0, a4⟩, a5, d1, ⟨e1, e2⟩, hF⟩ := sh_enm HSH.out HXI.out
                injection eg with eg
                injection eg with eg1 eg2
                subst eg1 eg2
                rw [← HNF.out] at d1 e1
                have HN3 := Lib.hid n3
                have HN12 := Lib.hid (And.intro n1 n2')
                clear n1 n2' n3
                by_cases hltk : k2 < nf
                · have tk : decide ((k2 : Int) < (nf : Int)) = true := decide_eq_true (by omega)
                  obtain ⟨gf, of, v, rfl, ⟨f1, f2, cs, f3⟩, f4, f5⟩ := hF k2 (by have := HNF.out; omega)
                  have HF3 := Lib.hid f3
                  have HF12 := Lib.hid (And.intro f1 f2)
                  clear f1 f2 f3 hF a4 a5
                  go_wp2
                  go_roundg (g2 - 1)
                  case measure => omega
                  case rel => exact ⟨k2 + 1, by go_num, by omega, shp_free HSH.out HF3.out (by decide) (by decide), mutd_set HMU.out HF12.out.1 HF12.out.2 _⟩
                · have tk : decide ((k2 : Int) < (nf : Int)) = false := decide_eq_false (by omega)
                  clear hF
                  go_wp2
                  go_roundg (g1 - 1)
                  case measure => omega
                  case rel => exact ⟨j + 1, by go_num, by omega, shp_en HSH.out HN3.out j, mutd_set HMU.out HN12.out.1 HN12.out.2 _⟩
            · have tj : decide ((j : Int) < (m : Int)) = false := decide_eq_false (by omega)
              have hwr := mutd_below HMU.out HBEL.out (by have := HTOP.out; omega)
              have HWR := Lib.hid hwr
              have hbo := HBXA.out.1
              have o0 := obj_cell ((HMU.out.m_block _ (.inl (by have := HTOP.out; omega))).trans hbo.b2_one) 0
              have o1 := obj_cell ((HMU.out.m_block _ (.inl (by have := HTOP.out; omega))).trans hbo.b2_one) 1
              have p0 := obj_cell ((HMU.out.m_block _ (.inr (by have := HTOP.out; omega))).trans HBXA.out.2) 0
              have p1 := obj_cell ((HMU.out.m_block _ (.inr (by have := HTOP.out; omega))).trans HBXA.out.2) 1
              have HRA := Lib.hid (HRAC.out _ _ _ _ _ _ _ _ HWR.out (scAt_mutd HCT6.out HMU.out (fun k g hg => ⟨hg, .inr (by have := HTOP.out; simp at hg; omega)⟩)))
              clear hwr hbo
              go_wp2_with (first
                | (go_at_call 14; refine HRA.out.mono ?_; rintro e w7 ⟨rfl, hb⟩; have HB7 := Lib.hid (HWR.out.trans (hb.mono HWR.out.size)); clear hb)
                | (go_at_call 7; refine (HLV.out _ HB7.out).mono ?_; rintro e w8 ⟨rfl, hb⟩; have HB8 := Lib.hid (HB7.out.trans (hb.mono HB7.out.size)); clear hb))
              go_ret
              exact ⟨rfl, HB8.out⟩
theorem schemasame_came {E : World → Prop} (okc : SchCheckOk E) (ok : SchSameOk E) (w : World) (env : E w) {T : Nat → Nat → Prop} {A A2 C C2 : Option Addr} {n cap n2 cap2 k ck k2 ck2 : Nat} {s t : Sc} (h : ScAt (fun _ g => g < w.heap.size) w A n cap A2 n2 cap2 s) (hok : ScOk s) (h' : ScAt T w C k ck C2 k2 ck2 t) (hok' : ScOk t) :
    Calls Tryz.prog 4 #[.agg #[.slice A n cap, .slice A2 n2 cap2], .agg #[.slice C k ck, .slice C2 k2 ck2]] w fun e w' => e = .returned (.bool true) ∧ Below w.heap.size w w' := schemasame_walk okc ok w env h (fun _ _ hg => hg) hok h' hok'
end Go.Proofs.YtpbhokmpbcmdcaaGreatDoor
