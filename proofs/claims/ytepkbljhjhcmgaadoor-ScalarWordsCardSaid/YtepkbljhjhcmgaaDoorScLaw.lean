/- What is asked of the program's layer 11, and the three laws over it. Conditions: those that each theorem names. -/
import Derived.Test.YtepkbljhjhcmgaaDoorRsB
import Derived.Test.YtepkbljhjhcmgaaDoorScP
namespace Go.Proofs.YtepkbljhjhcmgaaDoor
open Go.RowKit
set_option linter.unusedVariables false
set_option maxRecDepth 100000

/-- What is asked. -/
structure ScalarOk : Prop where
  word : ∀ ty w, ScEnv w → Int64 ty → Calls Tryd.prog 6 #[.int .i64 ty] w fun e w' => e = .returned (.string (strOf (wordT ty))) ∧ Below w.heap.size w w'
  of : ∀ s w, ScEnv w → s.length ≤ 1000 → Calls Tryd.prog 21 #[.string (strOf s)] w fun e w' => e = .returned (.int .i64 (ofT s : Int)) ∧ Below w.heap.size w w'
  wire : ∀ ty w, ScEnv w → Int64 ty → Calls Tryd.prog 8 #[.int .i64 ty] w fun e w' => e = .returned (.int .i64 (wireT ty)) ∧ Below w.heap.size w w'
  whole : ∀ ty w, ScEnv w → Int64 ty → Calls Tryd.prog 10 #[.int .i64 ty] w fun e w' => e = .returned (.bool (wholeT ty)) ∧ Below w.heap.size w w'
  number : ∀ ty w, ScEnv w → Int64 ty → Calls Tryd.prog 12 #[.int .i64 ty] w fun e w' => e = .returned (.bool (numberT ty)) ∧ Below w.heap.size w w'
  signed : ∀ ty w, ScEnv w → Int64 ty → Calls Tryd.prog 14 #[.int .i64 ty] w fun e w' => e = .returned (.bool (signedT ty)) ∧ Below w.heap.size w w'
  wide : ∀ ty w, ScEnv w → Int64 ty → Calls Tryd.prog 16 #[.int .i64 ty] w fun e w' => e = .returned (.bool (wideT ty)) ∧ Below w.heap.size w w'
  may : ∀ ty (n : Nat) w, ScEnv w → Int64 ty → n < 18446744073709551616 → Calls Tryd.prog 18 #[.int .i64 ty, .int .u64 (n : Int)] w fun e w' => e = .returned (.bool (mayT ty n)) ∧ Below w.heap.size w w'

theorem may_live : mayT 1 4294967295 = false := by decide +kernel
theorem sclive_any (ok : ScalarOk) (w : World) (env : ScEnv w) : Calls Tryd.prog 20 #[] w fun e w' => e = .returned (.bool true) ∧ Below w.heap.size w w' := by
  have HO := Lib.hid (fun w' (hb : Below w.heap.size w w') => ok.of [115, 105, 110, 116, 51, 50] w' (env.rides hb) (by decide))
  have HW := Lib.hid (fun w' (hb : Below w.heap.size w w') => ok.wire 5 w' (env.rides hb) (by unfold Int64; omega))
  have HM := Lib.hid (fun w' (hb : Below w.heap.size w w') => ok.may 1 4294967295 w' (env.rides hb) (by unfold Int64; omega) (by omega))
  have HT := Lib.hid (fun w' (hb : Below w.heap.size w w') => ok.word 1 w' (env.rides hb) (by unfold Int64; omega))
  rw [may_live] at HM
  have HB := Lib.hid (Below.refl w.heap.size w)
  clear ok
  go_enter Tryd.func20, Tryd.ntmps20
  go_wp2_with (first
    | (go_at_call 21; refine (HO.out _ HB.out).mono ?_; rintro e w1 ⟨rfl, hb⟩; replace HB := Lib.hid (HB.out.trans (hb.mono HB.out.size)); clear hb; rw [show ofT [115, 105, 110, 116, 51, 50] = 5 from rfl])
    | (go_at_call 8; refine (HW.out _ HB.out).mono ?_; rintro e w1 ⟨rfl, hb⟩; replace HB := Lib.hid (HB.out.trans (hb.mono HB.out.size)); clear hb; rw [show wireT 5 = 0 from rfl])
    | (go_at_call 18; refine (HM.out _ HB.out).mono ?_; rintro e w1 ⟨rfl, hb⟩; replace HB := Lib.hid (HB.out.trans (hb.mono HB.out.size)); clear hb)
    | (go_at_call 6; refine (HT.out _ HB.out).mono ?_; rintro e w1 ⟨rfl, hb⟩; replace HB := Lib.hid (HB.out.trans (hb.mono HB.out.size)); clear hb; rw [show strOf (wordT 1) = ⟨#[105, 110, 116, 51, 50]⟩ from rfl]))
  go_ret
  exact ⟨rfl, HB.out⟩

set_option maxHeartbeats 4000000 in
theorem sctypes_walk (ok : ScalarOk) (w : World) (env : ScEnv w) (ty : Int) (ht : -9223372036854775808 ≤ ty ∧ ty < 9223372036854775808) (n : Nat) (hn : n < 18446744073709551616) :
    Calls Tryd.prog 3 #[.int .i64 ty, .int .u64 (n : Int)] w fun e w' => e = .returned (.bool true) ∧ Below w.heap.size w w' := by
  have HLV : Hid (∀ w', Below w.heap.size w w' → Calls Tryd.prog 20 #[] w' fun e w2 => e = .returned (.bool true) ∧ Below w'.heap.size w' w2) := Lib.hid (fun w' hb => sclive_any ok w' (env.rides hb))
  have HB := Lib.hid (Below.refl w.heap.size w)
  have OK := Lib.hid ok
  have ENV := Lib.hid env
  have HT := Lib.hid ht
  clear ok ht
  obtain ⟨t1, h1⟩ : ∃ t1, t1 = strOf (wordT ty) := ⟨_, rfl⟩
  have hw1 := Lib.hid (fun w' (hb : Below w.heap.size w w') => OK.out.word ty w' (env.rides hb) HT.out)
  have hw2 := Lib.hid (fun w => rsword_any ty w)
  rw [← h1] at hw1 hw2
  clear h1
  go_enter Tryd.func3, Tryd.ntmps3
  go_wp2_with (first
    | (go_at_call 6; refine (hw1.out _ HB.out).mono ?_; rintro e w1 ⟨rfl, hb⟩; replace HB := Lib.hid (HB.out.trans (hb.mono HB.out.size)); clear hb)
    | (go_at_call 7; refine (hw2.out _).mono ?_; rintro e w1 ⟨rfl, hb⟩; replace HB := Lib.hid (HB.out.trans (hb.mono HB.out.size)); clear hb)
    | (go_at_call 8; refine (OK.out.wire ty _ (ENV.out.rides HB.out) HT.out).mono ?_; rintro e w1 ⟨rfl, hb⟩; replace HB := Lib.hid (HB.out.trans (hb.mono HB.out.size)); clear hb)
    | (go_at_call 9; refine (rswire_any ty _).mono ?_; rintro e w1 ⟨rfl, rfl⟩)
    | (go_at_call 10; refine (OK.out.whole ty _ (ENV.out.rides HB.out) HT.out).mono ?_; rintro e w1 ⟨rfl, hb⟩; replace HB := Lib.hid (HB.out.trans (hb.mono HB.out.size)); clear hb)
    | (go_at_call 11; refine (rswhole_any ty _).mono ?_; rintro e w1 ⟨rfl, rfl⟩)
    | (go_at_call 12; refine (OK.out.number ty _ (ENV.out.rides HB.out) HT.out).mono ?_; rintro e w1 ⟨rfl, hb⟩; replace HB := Lib.hid (HB.out.trans (hb.mono HB.out.size)); clear hb)
    | (go_at_call 13; refine (rsnumber_any ty _).mono ?_; rintro e w1 ⟨rfl, rfl⟩)
    | (go_at_call 14; refine (OK.out.signed ty _ (ENV.out.rides HB.out) HT.out).mono ?_; rintro e w1 ⟨rfl, hb⟩; replace HB := Lib.hid (HB.out.trans (hb.mono HB.out.size)); clear hb)
    | (go_at_call 15; refine (rssigned_any ty _).mono ?_; rintro e w1 ⟨rfl, rfl⟩)
    | (go_at_call 16; refine (OK.out.wide ty _ (ENV.out.rides HB.out) HT.out).mono ?_; rintro e w1 ⟨rfl, hb⟩; replace HB := Lib.hid (HB.out.trans (hb.mono HB.out.size)); clear hb)
    | (go_at_call 17; refine (rswide2_any ty _).mono ?_; rintro e w1 ⟨rfl, rfl⟩)
    | (go_at_call 18; refine (OK.out.may ty n _ (ENV.out.rides HB.out) HT.out hn).mono ?_; rintro e w1 ⟨rfl, hb⟩; replace HB := Lib.hid (HB.out.trans (hb.mono HB.out.size)); clear hb)
    | (go_at_call 19; refine (rsmay_any ty n _ hn).mono ?_; rintro e w1 ⟨rfl, rfl⟩)
    | (go_at_call 20; refine (HLV.out _ HB.out).mono ?_; rintro e w1 ⟨rfl, hb⟩; replace HB := Lib.hid (HB.out.trans (hb.mono HB.out.size)); clear hb))
  go_ret
  exact ⟨rfl, HB.out⟩

set_option maxHeartbeats 4000000 in
theorem scwords_walk (ok : ScalarOk) (w : World) (env : ScEnv w) (s : List UInt8) (hs : s.length ≤ 140737488351232) :
    Calls Tryd.prog 4 #[.string (strOf s)] w fun e w' => e = .returned (.bool true) ∧ Below w.heap.size w w' := by
  have HLV : Hid (∀ w', Below w.heap.size w w' → Calls Tryd.prog 20 #[] w' fun e w2 => e = .returned (.bool true) ∧ Below w'.heap.size w' w2) := Lib.hid (fun w' hb => sclive_any ok w' (env.rides hb))
  have HB := Lib.hid (Below.refl w.heap.size w)
  have OK := Lib.hid ok
  have ENV := Lib.hid env
  clear ok
  have hsz : (strOf s).size = s.length := by show s.toArray.size = _; simp
  obtain ⟨N, hN⟩ : ∃ N, N = s.length := ⟨_, rfl⟩
  rw [← hN] at hsz
  have HN := Lib.hid hN
  clear hN
  by_cases h100 : N ≤ 100
  · have g0 : decide ((N : Int) > 100) = false := decide_eq_false (by omega)
    have HO := Lib.hid (fun w' (hb : Below w.heap.size w w') => OK.out.of s w' (env.rides hb) (by have := HN.out; omega))
    have HR := Lib.hid (fun w => rsof_any s w)
    obtain ⟨k, hk⟩ : ∃ k, k = ofT s := ⟨_, rfl⟩
    rw [← hk] at HO HR
    by_cases h0 : k = 0
    · subst h0
      clear hk
      go_enter Tryd.func4, Tryd.ntmps4
      go_wp2_with (first
        | (go_at_call 21; refine (HO.out _ HB.out).mono ?_; rintro e w1 ⟨rfl, hb⟩; replace HB := Lib.hid (HB.out.trans (hb.mono HB.out.size)); clear hb)
        | (go_at_call 22; refine (HR.out _).mono ?_; rintro e w1 ⟨rfl, hb⟩; replace HB := Lib.hid (HB.out.trans (hb.mono HB.out.size)); clear hb)
        | (go_at_call 20; refine (HLV.out _ HB.out).mono ?_; rintro e w1 ⟨rfl, hb⟩; replace HB := Lib.hid (HB.out.trans (hb.mono HB.out.size)); clear hb))
      go_ret
      exact ⟨rfl, HB.out⟩
    · have hw := of_word s (by rw [← hk]; exact h0)
      rw [← hk] at hw
      have HW := Lib.hid (fun w' (hb : Below w.heap.size w w') => OK.out.word (k : Int) w' (env.rides hb) ⟨by omega, by omega⟩)
      rw [hw.1] at HW
      have g1 : ((k : Int) == 0) = false := beq_false_of_ne (by omega)
      have g2 : ¬ (k : Int) = 0 := by omega
      clear hk hw
      go_enter Tryd.func4, Tryd.ntmps4
      go_wp2_with (first
        | (go_at_call 21; refine (HO.out _ HB.out).mono ?_; rintro e w1 ⟨rfl, hb⟩; replace HB := Lib.hid (HB.out.trans (hb.mono HB.out.size)); clear hb)
        | (go_at_call 22; refine (HR.out _).mono ?_; rintro e w1 ⟨rfl, hb⟩; replace HB := Lib.hid (HB.out.trans (hb.mono HB.out.size)); clear hb)
        | (go_at_call 6; refine (HW.out _ HB.out).mono ?_; rintro e w1 ⟨rfl, hb⟩; replace HB := Lib.hid (HB.out.trans (hb.mono HB.out.size)); clear hb)
        | (go_at_call 20; refine (HLV.out _ HB.out).mono ?_; rintro e w1 ⟨rfl, hb⟩; replace HB := Lib.hid (HB.out.trans (hb.mono HB.out.size)); clear hb))
      go_ret
      exact ⟨rfl, HB.out⟩
  · have g0 : decide ((N : Int) > 100) = true := decide_eq_true (by omega)
    go_enter Tryd.func4, Tryd.ntmps4
    go_wp2_with (go_at_call 20; refine (HLV.out _ HB.out).mono ?_; rintro e w1 ⟨rfl, hb⟩; replace HB := Lib.hid (HB.out.trans (hb.mono HB.out.size)); clear hb)
    go_ret
    exact ⟨rfl, HB.out⟩

set_option maxHeartbeats 8000000 in
theorem scall_walk (ok : ScalarOk) (w : World) (env : ScEnv w) (ty : Int) (ht : -9223372036854775808 ≤ ty ∧ ty < 9223372036854775808) :
    Calls Tryd.prog 5 #[.int .i64 ty] w fun e w' => e = .returned (.bool true) ∧ Below w.heap.size w w' := by
  have HLV : Hid (∀ w', Below w.heap.size w w' → Calls Tryd.prog 20 #[] w' fun e w2 => e = .returned (.bool true) ∧ Below w'.heap.size w' w2) := Lib.hid (fun w' hb => sclive_any ok w' (env.rides hb))
  have HB := Lib.hid (Below.refl w.heap.size w)
  have hwd := Lib.hid (fun w' (hb : Below w.heap.size w w') => ok.word ty w' (env.rides hb) ht)
  have hwi := Lib.hid (fun w' (hb : Below w.heap.size w w') => ok.wire ty w' (env.rides hb) ht)
  have hnu := Lib.hid (fun w' (hb : Below w.heap.size w w') => ok.number ty w' (env.rides hb) ht)
  have hsg := Lib.hid (fun w' (hb : Below w.heap.size w w') => ok.signed ty w' (env.rides hb) ht)
  have hwe := Lib.hid (fun w' (hb : Below w.heap.size w w') => ok.wide ty w' (env.rides hb) ht)
  have hwh := Lib.hid (fun w' (hb : Below w.heap.size w w') => ok.whole ty w' (env.rides hb) ht)
  have hma := Lib.hid (fun w' (hb : Below w.heap.size w w') => ok.may ty 0 w' (env.rides hb) ht (by omega))
  clear ok
  by_cases hout : ty < 1 ∨ 15 < ty
  · rw [out_word hout] at hwd
    rw [out_number hout] at hnu
    rw [out_signed hout] at hsg
    rw [out_wide hout] at hwe
    rw [out_may 0 hout] at hma
    rcases hout with h | h
    · have a1 : decide (ty < 1) = true := decide_eq_true h
      have a2 : decide (15 < ty) = false := decide_eq_false (by omega)
      have a3 : decide (ty > 15) = false := decide_eq_false (by omega)
      go_enter Tryd.func5, Tryd.ntmps5
      go_wp2_with (first
        | (go_at_call 6; refine (hwd.out _ HB.out).mono ?_; rintro e w1 ⟨rfl, hb⟩; replace HB := Lib.hid (HB.out.trans (hb.mono HB.out.size)); clear hb; rw [show strOf [] = ⟨#[]⟩ from rfl])
        | (go_at_call 12; refine (hnu.out _ HB.out).mono ?_; rintro e w1 ⟨rfl, hb⟩; replace HB := Lib.hid (HB.out.trans (hb.mono HB.out.size)); clear hb)
        | (go_at_call 14; refine (hsg.out _ HB.out).mono ?_; rintro e w1 ⟨rfl, hb⟩; replace HB := Lib.hid (HB.out.trans (hb.mono HB.out.size)); clear hb)
        | (go_at_call 16; refine (hwe.out _ HB.out).mono ?_; rintro e w1 ⟨rfl, hb⟩; replace HB := Lib.hid (HB.out.trans (hb.mono HB.out.size)); clear hb)
        | (go_at_call 18; refine (hma.out _ HB.out).mono ?_; rintro e w1 ⟨rfl, hb⟩; replace HB := Lib.hid (HB.out.trans (hb.mono HB.out.size)); clear hb)
        | (go_at_call 20; refine (HLV.out _ HB.out).mono ?_; rintro e w1 ⟨rfl, hb⟩; replace HB := Lib.hid (HB.out.trans (hb.mono HB.out.size)); clear hb))
      go_ret
      exact ⟨rfl, HB.out⟩
    · have a1 : decide (ty < 1) = false := decide_eq_false (by omega)
      have a2 : decide (15 < ty) = true := decide_eq_true h
      have a3 : decide (ty > 15) = true := decide_eq_true h
      go_enter Tryd.func5, Tryd.ntmps5
      go_wp2_with (first
        | (go_at_call 6; refine (hwd.out _ HB.out).mono ?_; rintro e w1 ⟨rfl, hb⟩; replace HB := Lib.hid (HB.out.trans (hb.mono HB.out.size)); clear hb; rw [show strOf [] = ⟨#[]⟩ from rfl])
        | (go_at_call 12; refine (hnu.out _ HB.out).mono ?_; rintro e w1 ⟨rfl, hb⟩; replace HB := Lib.hid (HB.out.trans (hb.mono HB.out.size)); clear hb)
        | (go_at_call 14; refine (hsg.out _ HB.out).mono ?_; rintro e w1 ⟨rfl, hb⟩; replace HB := Lib.hid (HB.out.trans (hb.mono HB.out.size)); clear hb)
        | (go_at_call 16; refine (hwe.out _ HB.out).mono ?_; rintro e w1 ⟨rfl, hb⟩; replace HB := Lib.hid (HB.out.trans (hb.mono HB.out.size)); clear hb)
        | (go_at_call 18; refine (hma.out _ HB.out).mono ?_; rintro e w1 ⟨rfl, hb⟩; replace HB := Lib.hid (HB.out.trans (hb.mono HB.out.size)); clear hb)
        | (go_at_call 20; refine (HLV.out _ HB.out).mono ?_; rintro e w1 ⟨rfl, hb⟩; replace HB := Lib.hid (HB.out.trans (hb.mono HB.out.size)); clear hb))
      go_ret
      exact ⟨rfl, HB.out⟩
  · have a1 : decide (ty < 1) = false := decide_eq_false (by omega)
    have a2 : decide (15 < ty) = false := decide_eq_false (by omega)
    have a3 : decide (ty > 15) = false := decide_eq_false (by omega)
    -- what there is of each
    have key : ((!(wireT ty == 2)) = numberT ty) ∧ (wideT ty = true → wholeT ty = true) ∧ mayT ty 0 = true := by
      have hc : ty = 1 ∨ ty = 2 ∨ ty = 3 ∨ ty = 4 ∨ ty = 5 ∨ ty = 6 ∨ ty = 7 ∨ ty = 8 ∨ ty = 9 ∨ ty = 10 ∨ ty = 11 ∨ ty = 12 ∨ ty = 13 ∨ ty = 14 ∨ ty = 15 := by omega
      rcases hc with rfl | rfl | rfl | rfl | rfl | rfl | rfl | rfl | rfl | rfl | rfl | rfl | rfl | rfl | rfl <;> exact ⟨by decide, by decide, by decide +kernel⟩
    obtain ⟨k1, k2, k3⟩ := key
    rw [k3] at hma
    rw [← k1] at hnu
    generalize wireT ty = wi at *
    generalize wideT ty = we at *
    generalize wholeT ty = wo at *
    clear k1 k3 hout
    obtain ⟨q, hq⟩ : ∃ q, q = (wi == 2) := ⟨_, rfl⟩
    rw [← hq] at hnu
    have hq' := hq.symm
    clear hq
    cases we with
    | false =>
      cases q <;>
      · go_enter Tryd.func5, Tryd.ntmps5
        go_wp2_with (first
          | (go_at_call 8; refine (hwi.out _ HB.out).mono ?_; rintro e w1 ⟨rfl, hb⟩; replace HB := Lib.hid (HB.out.trans (hb.mono HB.out.size)); clear hb)
          | (go_at_call 12; refine (hnu.out _ HB.out).mono ?_; rintro e w1 ⟨rfl, hb⟩; replace HB := Lib.hid (HB.out.trans (hb.mono HB.out.size)); clear hb)
          | (go_at_call 16; refine (hwe.out _ HB.out).mono ?_; rintro e w1 ⟨rfl, hb⟩; replace HB := Lib.hid (HB.out.trans (hb.mono HB.out.size)); clear hb)
          | (go_at_call 18; refine (hma.out _ HB.out).mono ?_; rintro e w1 ⟨rfl, hb⟩; replace HB := Lib.hid (HB.out.trans (hb.mono HB.out.size)); clear hb)
          | (go_at_call 20; refine (HLV.out _ HB.out).mono ?_; rintro e w1 ⟨rfl, hb⟩; replace HB := Lib.hid (HB.out.trans (hb.mono HB.out.size)); clear hb))
        go_ret
        exact ⟨rfl, HB.out⟩
    | true =>
      obtain rfl : wo = true := k2 rfl
      cases q <;>
      · go_enter Tryd.func5, Tryd.ntmps5
        go_wp2_with (first
          | (go_at_call 8; refine (hwi.out _ HB.out).mono ?_; rintro e w1 ⟨rfl, hb⟩; replace HB := Lib.hid (HB.out.trans (hb.mono HB.out.size)); clear hb)
          | (go_at_call 12; refine (hnu.out _ HB.out).mono ?_; rintro e w1 ⟨rfl, hb⟩; replace HB := Lib.hid (HB.out.trans (hb.mono HB.out.size)); clear hb)
          | (go_at_call 16; refine (hwe.out _ HB.out).mono ?_; rintro e w1 ⟨rfl, hb⟩; replace HB := Lib.hid (HB.out.trans (hb.mono HB.out.size)); clear hb)
          | (go_at_call 10; refine (hwh.out _ HB.out).mono ?_; rintro e w1 ⟨rfl, hb⟩; replace HB := Lib.hid (HB.out.trans (hb.mono HB.out.size)); clear hb)
          | (go_at_call 18; refine (hma.out _ HB.out).mono ?_; rintro e w1 ⟨rfl, hb⟩; replace HB := Lib.hid (HB.out.trans (hb.mono HB.out.size)); clear hb)
          | (go_at_call 20; refine (HLV.out _ HB.out).mono ?_; rintro e w1 ⟨rfl, hb⟩; replace HB := Lib.hid (HB.out.trans (hb.mono HB.out.size)); clear hb))
        go_ret
        exact ⟨rfl, HB.out⟩
end Go.Proofs.YtepkbljhjhcmgaaDoor
