/- What is asked of the program's layer 13, and the four laws over it. Conditions: those that each theorem names. -/
import Derived.Test.YtdenhfhdobcfiaaDoorRcA
import Derived.Test.YtdenhfhdobcfiaaDoorRlG
import Derived.Test.YtdenhfhdobcfiaaDoorRlD
import Derived.Test.YtdenhfhdobcfiaaDoorLexQu
import Derived.Test.YtdenhfhdobcfiaaDoorObj
import Derived.Deep.RegionHeld3
import Derived.Lib.Strings
namespace Go.Proofs.YtdenhfhdobcfiaaDoor
open Go.RowKit
set_option linter.unusedVariables false
set_option maxRecDepth 100000

/-- What is asked. -/
structure ConvOk (E : World → Prop) : Prop where
  erides : ∀ w w', E w → Below w.heap.size w w' → E w'
  conv : ∀ a b (n : Nat) w, E w → Int64 a → Int64 b → n < 18446744073709551616 → Calls Tryd.prog 7 #[.int .i64 a, .int .i64 b, .int .u64 (n : Int)] w fun e w' => e = .returned (pairV (convT a b n)) ∧ Below w.heap.size w w'
  digits : ∀ ty (n : Nat) w, E w → Int64 ty → n < 18446744073709551616 → Calls Tryd.prog 13 #[.int .i64 ty, .int .u64 (n : Int)] w fun e w' => e = .returned (.string (strOf (cdigT ty n))) ∧ Below w.heap.size w w'
  read : ∀ ty (n : Nat) neg w, E w → Int64 ty → n < 18446744073709551616 → Calls Tryd.prog 11 #[.int .i64 ty, .int .u64 (n : Int), .bool neg] w fun e w' => e = .returned (pairV (readT ty n neg)) ∧ Below w.heap.size w w'

theorem conv_live1 : convT 2 3 18446744073709551615 = (0, false) := by decide +kernel
theorem conv_live2 : cdigT 1 18446744073709551615 = [45, 49] := by
  rw [cdigT_some (by decide +kernel), show spT 1 18446744073709551615 = (1, true) by decide +kernel]
  show digitsT 1 true = _
  unfold digitsT
  rw [if_neg (by decide), if_pos rfl, decOf_pos (by decide), show 1 / 10 = 0 from rfl, decOf_zero]
  rfl
theorem convlive_any {E : World → Prop} (ok : ConvOk E) (w : World) (env : E w) : Calls Tryd.prog 10 #[] w fun e w' => e = .returned (.bool true) ∧ Below w.heap.size w w' := by
  have HC := Lib.hid (ok.conv 2 3 18446744073709551615 w env (by unfold Int64; omega) (by unfold Int64; omega) (by omega))
  have HD := Lib.hid (fun w e => ok.digits 1 18446744073709551615 w e (by unfold Int64; omega) (by omega))
  rw [conv_live1] at HC
  rw [conv_live2] at HD
  unfold pairV at HC
  have HENV := Lib.hid env
  have HRID := Lib.hid ok.erides
  clear ok env
  go_enter Tryd.func10, Tryd.ntmps10
  go_wp2_with (first
    | (go_at_call 7; refine HC.out.mono ?_; rintro e w1 ⟨rfl, hb⟩; have HB := Lib.hid hb; clear hb)
    | (go_at_call 13; refine (HD.out _ (HRID.out _ _ HENV.out HB.out)).mono ?_; rintro e w2 ⟨rfl, hb⟩; have HB2 := Lib.hid (HB.out.trans (hb.mono HB.out.size)); clear hb; rw [show strOf [45, 49] = ⟨#[45, 49]⟩ from rfl]))
  go_ret
  exact ⟨rfl, HB2.out⟩

set_option maxHeartbeats 4000000 in
theorem convreads_walk {E : World → Prop} (ok : ConvOk E) (w : World) (env : E w) (ty : Int) (ht : Int64 ty) (n : Nat) (hn : n < 18446744073709551616) (neg : Bool) :
    Calls Tryd.prog 4 #[.int .i64 ty, .int .u64 (n : Int), .bool neg] w fun e w' => e = .returned (.bool true) ∧ Below w.heap.size w w' := by
  have HLV : Hid (∀ w, E w → Calls Tryd.prog 10 #[] w fun e w' => e = .returned (.bool true) ∧ Below w.heap.size w w') := Lib.hid (convlive_any ok)
  have HR := Lib.hid (ok.read ty n neg w env ht hn)
  have HRR := Lib.hid (fun w => rcread_any ty n neg w hn)
  have HENV := Lib.hid env
  have HRID := Lib.hid ok.erides
  obtain ⟨⟨m, k⟩, hR⟩ : ∃ R, R = readT ty n neg := ⟨_, rfl⟩
  rw [← hR] at HR HRR
  unfold pairV at HR HRR
  dsimp only at HR HRR
  clear ok env hR ht
  cases k
  all_goals
    go_enter Tryd.func4, Tryd.ntmps4
    go_wp2_with (first
      | (go_at_call 11; refine HR.out.mono ?_; rintro e w1 ⟨rfl, hb⟩; have HB := Lib.hid hb; clear hb)
      | (go_at_call 12; refine (HRR.out _).mono ?_; rintro e w2 ⟨rfl, rfl⟩)
      | (go_at_call 10; refine (HLV.out _ (HRID.out _ _ HENV.out HB.out)).mono ?_; rintro e w3 ⟨rfl, hb⟩; have HB2 := Lib.hid (HB.out.trans (hb.mono HB.out.size)); clear hb))
    go_ret
    exact ⟨rfl, HB2.out⟩

set_option maxHeartbeats 4000000 in
theorem convconv_walk {E : World → Prop} (ok : ConvOk E) (w : World) (env : E w) (a : Int) (ha : Int64 a) (b : Int) (hb : Int64 b) (n : Nat) (hn : n < 18446744073709551616) :
    Calls Tryd.prog 3 #[.int .i64 a, .int .i64 b, .int .u64 (n : Int)] w fun e w' => e = .returned (.bool true) ∧ Below w.heap.size w w' := by
  have HLV : Hid (∀ w, E w → Calls Tryd.prog 10 #[] w fun e w' => e = .returned (.bool true) ∧ Below w.heap.size w w') := Lib.hid (convlive_any ok)
  have HC := Lib.hid (ok.conv a b n w env ha hb hn)
  have HRC := Lib.hid (fun w => rcconv_any a b n w hn)
  have HENV := Lib.hid env
  have HRID := Lib.hid ok.erides
  obtain ⟨⟨m, k⟩, hR⟩ : ∃ R, R = convT a b n := ⟨_, rfl⟩
  have hm := conv_lt hn hR.symm
  have HC2 := Lib.hid (fun w e => ok.conv b a m w e hb ha hm)
  have HMY := Lib.hid (fun w => rsmay_any b m w hm)
  rw [← hR] at HC HRC
  unfold pairV at HC HRC
  dsimp only at HC HRC
  cases k with
  | true =>
    obtain ⟨h1, h2⟩ := conv_back hn hR.symm
    rw [h1] at HMY
    rw [h2] at HC2
    unfold pairV at HC2
    dsimp only at HC2
    clear ok env hR ha hb h1 h2
    go_enter Tryd.func3, Tryd.ntmps3
    go_wp2_with (first
      | (go_at_call 7; with_reducible refine HC.out.mono ?_; rintro e w1 ⟨rfl, hb⟩; have HB := Lib.hid hb; clear hb HC)
      | (go_at_call 8; refine (HRC.out _).mono ?_; rintro e w2 ⟨rfl, rfl⟩)
      | (go_at_call 7; refine (HC2.out _ (HRID.out _ _ HENV.out HB.out)).mono ?_; rintro e w2 ⟨rfl, hb⟩; have HB2 := Lib.hid (HB.out.trans (hb.mono HB.out.size)); clear hb)
      | (go_at_call 9; refine (HMY.out _).mono ?_; rintro e w2 ⟨rfl, rfl⟩)
      | (go_at_call 10; refine (HLV.out _ (HRID.out _ _ HENV.out HB2.out)).mono ?_; rintro e w3 ⟨rfl, hb⟩; have HB3 := Lib.hid (HB2.out.trans (hb.mono HB2.out.size)); clear hb))
    go_ret
    exact ⟨rfl, HB3.out⟩
  | false =>
    obtain ⟨⟨m2, k2⟩, hR2⟩ : ∃ R, R = convT b a m := ⟨_, rfl⟩
    rw [← hR2] at HC2
    unfold pairV at HC2
    dsimp only at HC2
    clear ok env hR ha hb hR2
    go_enter Tryd.func3, Tryd.ntmps3
    go_wp2_with (first
      | (go_at_call 7; with_reducible refine HC.out.mono ?_; rintro e w1 ⟨rfl, hb⟩; have HB := Lib.hid hb; clear hb HC)
      | (go_at_call 8; refine (HRC.out _).mono ?_; rintro e w2 ⟨rfl, rfl⟩)
      | (go_at_call 7; refine (HC2.out _ (HRID.out _ _ HENV.out HB.out)).mono ?_; rintro e w2 ⟨rfl, hb⟩; have HB2 := Lib.hid (HB.out.trans (hb.mono HB.out.size)); clear hb)
      | (go_at_call 10; refine (HLV.out _ (HRID.out _ _ HENV.out HB2.out)).mono ?_; rintro e w3 ⟨rfl, hb⟩; have HB3 := Lib.hid (HB2.out.trans (hb.mono HB2.out.size)); clear hb))
    go_ret
    exact ⟨rfl, HB3.out⟩
theorem lexT_short (t : List UInt8) (h : t.length ≤ 100) : lexT t 100 = lexT t 1000 := by
  unfold lexT
  rw [if_neg (by omega : ¬ (100 : Int) < (t.length : Int)), if_neg (by omega : ¬ (1000 : Int) < (t.length : Int))]
theorem digitsT_short (n : Nat) (neg : Bool) (hn : n < 18446744073709551616) : (digitsT n neg).length ≤ 100 := by
  have := decOf_len64 hn
  unfold digitsT
  split
  · simp
  · split
    · rw [List.length_cons]; omega
    · omega
/-- The first token's cells. -/
theorem toks_head {w : World} {A : Option Addr} {cap : Nat} {x : Tk} {l : List Tk} (h : Toks w A cap (x :: l)) : ∃ g off, A = some ⟨g, off, none⟩ ∧ w.cell? ⟨g, off, none⟩ = some (.int .i64 x.kind) ∧ w.cell? ⟨g, off + 1, none⟩ = some (.string (strOf x.s)) ∧ w.cell? ⟨g, off + 2, none⟩ = some (.int .u64 (x.n : Int)) ∧ w.cell? ⟨g, off + 3, none⟩ = some (.bool x.neg) := by
  obtain ⟨g, off, e, hc⟩ := h.cells 0 x rfl
  refine ⟨g, off, e, ?_, ?_, ?_, ?_⟩
  · have := hc 0 _ rfl; simpa using this
  · have := hc 1 _ rfl; simpa using this
  · have := hc 2 _ rfl; simpa using this
  · have := hc 3 _ rfl; simpa using this
set_option maxHeartbeats 4000000 in
theorem convtexts_walk {E : World → Prop} (ok : ConvOk E) (w : World) (env : E w) (ty : Int) (ht : Int64 ty) (n : Nat) (hn : n < 18446744073709551616) :
    Calls Tryd.prog 5 #[.int .i64 ty, .int .u64 (n : Int)] w fun e w' => e = .returned (.bool true) ∧ Below w.heap.size w w' := by
  have HLV : Hid (∀ w, E w → Calls Tryd.prog 10 #[] w fun e w' => e = .returned (.bool true) ∧ Below w.heap.size w w') := Lib.hid (convlive_any ok)
  have HD := Lib.hid (ok.digits ty n w env ht hn)
  have HRD := Lib.hid (fun w => rcdigits_any ty n w hn)
  have HW := Lib.hid (fun w => rswhole_any ty w)
  have HM := Lib.hid (fun w => rsmay_any ty n w hn)
  have HENV := Lib.hid env
  have HRID := Lib.hid ok.erides
  obtain ⟨ds, hds⟩ : ∃ ds, ds = strOf (cdigT ty n) := ⟨_, rfl⟩
  rw [← hds] at HD HRD
  by_cases hc : wholeT ty = true ∧ mayT ty n = true
  · have hdg := cdigT_some hc
    have hlt := spT_lt ty n hn
    have hcd := conv_digits hn hc.1 hc.2
    have hpos := spT_pos ty n hn
    obtain ⟨⟨sm, sg⟩, hsp⟩ : ∃ s, s = spT ty n := ⟨_, rfl⟩
    rw [← hsp] at hdg hlt hcd hpos
    dsimp only at hdg hlt hcd hpos
    have hne := digitsT_some sm sg
    have hes1 : (ds.toList == []) = false := by
      have h := strOf_beq (digitsT sm sg) []
      rw [← hdg, ← hds, show (strOf []).toList = [] by rw [Lib.toList_data]; rfl, hdg, decide_eq_false hne] at h
      exact h
    have hes3 : ¬ ds.toList = [] := fun e => by rw [e] at hes1; simp at hes1
    have hes2 : ds.toList.isEmpty = false := by rw [List.isEmpty_eq_false_iff]; exact hes3
    have HA := Lib.hid (fun w => rlall_any num_says (digitsT sm sg) 100 w (by have := digitsT_short sm sg hlt; omega))
    rw [lexT_short _ (digitsT_short sm sg hlt), lex_digits sm sg hlt (fun h => (hpos h).2)] at HA
    unfold RAllTo at HA
    rw [← hdg, ← hds] at HA
    dsimp only [List.length_cons, List.length_nil] at HA
    have HRE := Lib.hid (fun w e => ok.read ty sm (sg && decide (0 < sm)) w e ht hlt)
    rw [hcd] at HRE
    unfold pairV at HRE
    dsimp only at HRE
    obtain ⟨ng, hng⟩ : ∃ ng, ng = (sg && decide (0 < sm)) := ⟨_, rfl⟩
    rw [← hng] at HA HRE
    clear ok env ht hc hdg hcd hpos hsp hne hng hds
    go_enter Tryd.func5, Tryd.ntmps5
    go_wp2_with (first
      | (go_at_call 13; refine HD.out.mono ?_; rintro e w1 ⟨rfl, hb⟩; have HB := Lib.hid hb; clear hb)
      | (go_at_call 14; refine (HRD.out _).mono ?_; rintro e w2 ⟨rfl, hb⟩; have HB2 := Lib.hid (HB.out.trans (hb.mono HB.out.size)); clear hb)
      | (go_at_call 16; refine (HA.out _).mono ?_; rintro e w3 ⟨A3, cap3, rfl, ht3, hb⟩; obtain ⟨g, off, rfl, c0, c1, c2, c3⟩ := toks_head ht3; have hle := ht3.le; have hmx := ht3.max; simp only [List.length_cons, List.length_nil] at hle; have HB3 := Lib.hid (HB2.out.trans (hb.mono HB2.out.size)); clear hb ht3))
    go_region_held3 (fun w' => w'.cell? ⟨g, off + 2, none⟩ = some (.int .u64 (sm : Int)) ∧ w'.cell? ⟨g, off + 3, none⟩ = some (.bool ng))
      (first | exact ⟨c2, c3⟩ | exact ⟨k2, k3⟩ | go_keep)
      (first
      | (go_at_call 11; refine (HRE.out w3.drew (HRID.out _ _ (HRID.out _ _ HENV.out HB3.out) ⟨rfl, rfl, rfl, Nat.le_refl _, fun _ _ => rfl⟩)).mono ?_; rintro e w4 ⟨rfl, hb⟩; have k2 := (hb.cell (p := ⟨g, off + 2, none⟩) (World.block_lt_of_cell? w3 _ c2)).trans c2; have k3 := (hb.cell (p := ⟨g, off + 3, none⟩) (World.block_lt_of_cell? w3 _ c3)).trans c3; have hb' : Below w3.heap.size w3 w4 := ⟨hb.os, hb.tape, hb.output, hb.size, hb.block⟩; have HB4 := Lib.hid (HB3.out.trans (hb'.mono HB3.out.size)); clear hb hb'))
    go_wp2_with (go_at_call 10; refine (HLV.out _ (HRID.out _ _ HENV.out HB4.out)).mono ?_; rintro e w5 ⟨rfl, hb⟩; have HB5 := Lib.hid (HB4.out.trans (hb.mono HB4.out.size)); clear hb)
    go_ret
    exact ⟨rfl, HB5.out⟩
  · have hdg := cdigT_none hc
    have hes3 : ds.toList = [] := by rw [hds, hdg, Lib.toList_data]; rfl
    have hes1 : (ds.toList == []) = true := by rw [hes3]; rfl
    have hes2 : ds.toList.isEmpty = true := by rw [hes3]; rfl
    have hcase : wholeT ty = false ∨ (wholeT ty = true ∧ mayT ty n = false) := by
      cases h1 : wholeT ty with
      | false => exact .inl rfl
      | true => exact .inr ⟨rfl, by cases h2 : mayT ty n; rfl; exact absurd ⟨h1, h2⟩ hc⟩
    clear ok env ht hc hdg hds
    rcases hcase with h1 | ⟨h1, h2⟩
    · rw [h1] at HW
      clear h1
      go_enter Tryd.func5, Tryd.ntmps5
      go_wp2_with (first
        | (go_at_call 13; refine HD.out.mono ?_; rintro e w1 ⟨rfl, hb⟩; have HB := Lib.hid hb; clear hb)
        | (go_at_call 14; refine (HRD.out _).mono ?_; rintro e w2 ⟨rfl, hb⟩; have HB2 := Lib.hid (HB.out.trans (hb.mono HB.out.size)); clear hb)
        | (go_at_call 15; refine (HW.out _).mono ?_; rintro e w3 ⟨rfl, rfl⟩)
        | (go_at_call 10; refine (HLV.out _ (HRID.out _ _ HENV.out HB2.out)).mono ?_; rintro e w5 ⟨rfl, hb⟩; have HB5 := Lib.hid (HB2.out.trans (hb.mono HB2.out.size)); clear hb))
      go_ret
      exact ⟨rfl, HB5.out⟩
    · rw [h1] at HW
      rw [h2] at HM
      clear h1 h2
      go_enter Tryd.func5, Tryd.ntmps5
      go_wp2_with (first
        | (go_at_call 13; refine HD.out.mono ?_; rintro e w1 ⟨rfl, hb⟩; have HB := Lib.hid hb; clear hb)
        | (go_at_call 14; refine (HRD.out _).mono ?_; rintro e w2 ⟨rfl, hb⟩; have HB2 := Lib.hid (HB.out.trans (hb.mono HB.out.size)); clear hb)
        | (go_at_call 15; refine (HW.out _).mono ?_; rintro e w3 ⟨rfl, rfl⟩)
        | (go_at_call 9; refine (HM.out _).mono ?_; rintro e w3 ⟨rfl, rfl⟩)
        | (go_at_call 10; refine (HLV.out _ (HRID.out _ _ HENV.out HB2.out)).mono ?_; rintro e w5 ⟨rfl, hb⟩; have HB5 := Lib.hid (HB2.out.trans (hb.mono HB2.out.size)); clear hb))
      go_ret
      exact ⟨rfl, HB5.out⟩

set_option maxHeartbeats 4000000 in
theorem convways_walk {E : World → Prop} (ok : ConvOk E) (w : World) (env : E w) (a : Int) (ha : Int64 a) (b : Int) (hb : Int64 b) (c : Int) (hc : Int64 c) (n : Nat) (hn : n < 18446744073709551616) :
    Calls Tryd.prog 6 #[.agg #[.int .i64 a, .int .i64 b, .int .i64 c], .int .u64 (n : Int)] w fun e w' => e = .returned (.bool true) ∧ Below w.heap.size w w' := by
  have HLV : Hid (∀ w, E w → Calls Tryd.prog 10 #[] w fun e w' => e = .returned (.bool true) ∧ Below w.heap.size w w') := Lib.hid (convlive_any ok)
  have HENV := Lib.hid env
  have HRID := Lib.hid ok.erides
  have HB0 : Hid (Below w.heap.size w (w.alloc (.cells #[.int .i64 a, .int .i64 b, .int .i64 c] 37))) := Lib.hid ((Below.refl _ w).alloc (Nat.le_refl _) _)
  have HBX : Hid ((w.alloc (.cells #[.int .i64 a, .int .i64 b, .int .i64 c] 37)).heap[w.heap.size]? = some (.cells #[.int .i64 a, .int .i64 b, .int .i64 c] 37 (0, 0))) := Lib.hid (heap_alloc_new w _)
  have H1 := Lib.hid (fun w e => ok.conv a b n w e ha hb hn)
  obtain ⟨⟨m1, k1⟩, h1⟩ : ∃ R, R = convT a b n := ⟨_, rfl⟩
  have hm1 := conv_lt hn h1.symm
  have H2 := Lib.hid (fun w e => ok.conv b c m1 w e hb hc hm1)
  obtain ⟨⟨m2, k2⟩, h2⟩ : ∃ R, R = convT b c m1 := ⟨_, rfl⟩
  have H3 := Lib.hid (fun w e => ok.conv a c n w e ha hc hn)
  obtain ⟨⟨m3, k3⟩, h3⟩ : ∃ R, R = convT a c n := ⟨_, rfl⟩
  have hway : (k1 = true ∧ k2 = true ∧ k3 = true ∧ m3 = m2) ∨ k1 = false ∨ (k1 = true ∧ k2 = false) := by
    cases k1 with
    | false => exact .inr (.inl rfl)
    | true =>
      cases k2 with
      | false => exact .inr (.inr ⟨rfl, rfl⟩)
      | true =>
        have h := conv_ways hn h1.symm h2.symm
        rw [← h3] at h
        injection h with e1 e2
        exact .inl ⟨rfl, rfl, e2, e1⟩
  rw [← h1] at H1
  rw [← h2] at H2
  rw [← h3] at H3
  unfold pairV at H1 H2 H3
  dsimp only at H1 H2 H3
  clear ok env ha hb hc h1 h2 h3
  rcases hway with ⟨rfl, rfl, rfl, rfl⟩ | rfl | ⟨rfl, rfl⟩
  all_goals
    go_enter Tryd.func6, Tryd.ntmps6
    go_wp2_with (first
      | (go_at_call 7; with_reducible refine (H1.out _ (HRID.out _ _ HENV.out HB0.out)).mono ?_; rintro e w1 ⟨rfl, hb⟩; have hx := (hb.block w.heap.size (by simp)).trans HBX.out; have r0 := obj_cell hx 0; have r1 := obj_cell hx 1; have r2 := obj_cell hx 2; have HX1 := Lib.hid hx; have HB1 := Lib.hid (HB0.out.trans (hb.mono HB0.out.size)); clear hb hx H1)
      | (go_at_call 7; with_reducible refine (H2.out _ (HRID.out _ _ HENV.out HB1.out)).mono ?_; rintro e w2 ⟨rfl, hb⟩; have hx := (hb.block w.heap.size (lt_of_block HX1.out)).trans HX1.out; have r0 := obj_cell hx 0; have r1 := obj_cell hx 1; have r2 := obj_cell hx 2; have HX2 := Lib.hid hx; have HB2 := Lib.hid (HB1.out.trans (hb.mono HB1.out.size)); clear hb hx H2)
      | (go_at_call 7; with_reducible refine (H3.out _ (HRID.out _ _ HENV.out HB2.out)).mono ?_; rintro e w3 ⟨rfl, hb⟩; have HB3 := Lib.hid (HB2.out.trans (hb.mono HB2.out.size)); clear hb H3)
      | (go_at_call 10; refine (HLV.out _ (HRID.out _ _ HENV.out HB3.out)).mono ?_; rintro e w5 ⟨rfl, hb⟩; have HB5 := Lib.hid (HB3.out.trans (hb.mono HB3.out.size)); clear hb))
    go_ret
    exact ⟨rfl, HB5.out⟩
end Go.Proofs.YtdenhfhdobcfiaaDoor
