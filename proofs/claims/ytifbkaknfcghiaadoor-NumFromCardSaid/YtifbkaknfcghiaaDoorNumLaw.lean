/- What is asked of the program's layer 12, and the three laws over it. Conditions: those that each theorem names. -/
import Derived.Test.YtifbkaknfcghiaaDoorRsB
import Derived.Test.YtifbkaknfcghiaaDoorRnA
import Derived.Test.YtifbkaknfcghiaaDoorScP
import Derived.Test.YtifbkaknfcghiaaDoorNumMath
namespace Go.Proofs.YtifbkaknfcghiaaDoor
open Go.RowKit
set_option linter.unusedVariables false
set_option maxRecDepth 100000

/-- What is asked. -/
structure NumOk : Prop where
  nfrom : ∀ ty (n : Nat) w, ScEnv w → Int64 ty → n < 18446744073709551616 → Calls Tryd.prog 6 #[.int .i64 ty, .int .u64 (n : Int)] w fun e w' => e = .returned (.int .u64 (fromT ty n : Int)) ∧ Below w.heap.size w w'
  nto : ∀ ty (n : Nat) w, ScEnv w → Int64 ty → n < 18446744073709551616 → Calls Tryd.prog 8 #[.int .i64 ty, .int .u64 (n : Int)] w fun e w' => e = .returned (.int .u64 (toT ty n : Int)) ∧ Below w.heap.size w w'

theorem numlive_any (ok : NumOk) (w : World) (env : ScEnv w) : Calls Tryd.prog 10 #[] w fun e w' => e = .returned (.bool true) ∧ Below w.heap.size w w' := by
  have HF := Lib.hid (fun w' (hb : Below w.heap.size w w') => ok.nfrom 1 4294967295 w' (env.rides hb) (by unfold Int64; omega) (by omega))
  rw [from_live] at HF
  have HB := Lib.hid (Below.refl w.heap.size w)
  clear ok
  go_enter Tryd.func10, Tryd.ntmps10
  go_wp2_with (go_at_call 6; refine (HF.out _ HB.out).mono ?_; rintro e w1 ⟨rfl, hb⟩; replace HB := Lib.hid (HB.out.trans (hb.mono HB.out.size)); clear hb)
  go_ret
  exact ⟨rfl, HB.out⟩

set_option maxHeartbeats 4000000 in
theorem numfrom_walk (ok : NumOk) (w : World) (env : ScEnv w) (ty : Int) (ht : -9223372036854775808 ≤ ty ∧ ty < 9223372036854775808) (n : Nat) (hn : n < 18446744073709551616) :
    Calls Tryd.prog 3 #[.int .i64 ty, .int .u64 (n : Int)] w fun e w' => e = .returned (.bool true) ∧ Below w.heap.size w w' := by
  have HLV : Hid (∀ w', Below w.heap.size w w' → Calls Tryd.prog 10 #[] w' fun e w2 => e = .returned (.bool true) ∧ Below w'.heap.size w' w2) := Lib.hid (fun w' hb => numlive_any ok w' (env.rides hb))
  have HB := Lib.hid (Below.refl w.heap.size w)
  have OK := Lib.hid ok
  have ENV := Lib.hid env
  have HT := Lib.hid ht
  clear ok ht
  go_enter Tryd.func3, Tryd.ntmps3
  go_wp2_with (first
    | (go_at_call 6; refine (OK.out.nfrom ty n _ (ENV.out.rides HB.out) HT.out hn).mono ?_; rintro e w1 ⟨rfl, hb⟩; replace HB := Lib.hid (HB.out.trans (hb.mono HB.out.size)); clear hb)
    | (go_at_call 7; refine (rnfrom_any ty n _ hn).mono ?_; rintro e w1 ⟨rfl, rfl⟩)
    | (go_at_call 8; refine (OK.out.nto ty n _ (ENV.out.rides HB.out) HT.out hn).mono ?_; rintro e w1 ⟨rfl, hb⟩; replace HB := Lib.hid (HB.out.trans (hb.mono HB.out.size)); clear hb)
    | (go_at_call 9; refine (rnto_any ty n _ hn).mono ?_; rintro e w1 ⟨rfl, rfl⟩)
    | (go_at_call 10; refine (HLV.out _ HB.out).mono ?_; rintro e w1 ⟨rfl, hb⟩; replace HB := Lib.hid (HB.out.trans (hb.mono HB.out.size)); clear hb))
  go_ret
  exact ⟨rfl, HB.out⟩

set_option maxHeartbeats 4000000 in
theorem numback_walk (ok : NumOk) (w : World) (env : ScEnv w) (ty : Int) (ht : -9223372036854775808 ≤ ty ∧ ty < 9223372036854775808) (n : Nat) (hn : n < 18446744073709551616) :
    Calls Tryd.prog 4 #[.int .i64 ty, .int .u64 (n : Int)] w fun e w' => e = .returned (.bool true) ∧ Below w.heap.size w w' := by
  have HLV : Hid (∀ w', Below w.heap.size w w' → Calls Tryd.prog 10 #[] w' fun e w2 => e = .returned (.bool true) ∧ Below w'.heap.size w' w2) := Lib.hid (fun w' hb => numlive_any ok w' (env.rides hb))
  have HB := Lib.hid (Below.refl w.heap.size w)
  have HF := Lib.hid (fun w' (hb : Below w.heap.size w w') => ok.nfrom ty n w' (env.rides hb) ht hn)
  have HTO := Lib.hid (fun w' (hb : Below w.heap.size w w') => ok.nto ty n w' (env.rides hb) ht hn)
  by_cases hout : ty < 1 ∨ 15 < ty
  · rw [out_from n hout] at HF
    rw [out_to n hout] at HTO
    clear ok
    rcases hout with h | h
    · have a1 : decide (ty < 1) = true := decide_eq_true h
      have a2 : decide (15 < ty) = false := decide_eq_false (by omega)
      have a3 : decide (ty > 15) = false := decide_eq_false (by omega)
      go_enter Tryd.func4, Tryd.ntmps4
      go_wp2_with (first
        | (go_at_call 6; refine (HF.out _ HB.out).mono ?_; rintro e w1 ⟨rfl, hb⟩; replace HB := Lib.hid (HB.out.trans (hb.mono HB.out.size)); clear hb)
        | (go_at_call 8; refine (HTO.out _ HB.out).mono ?_; rintro e w1 ⟨rfl, hb⟩; replace HB := Lib.hid (HB.out.trans (hb.mono HB.out.size)); clear hb)
        | (go_at_call 10; refine (HLV.out _ HB.out).mono ?_; rintro e w1 ⟨rfl, hb⟩; replace HB := Lib.hid (HB.out.trans (hb.mono HB.out.size)); clear hb))
      go_ret
      exact ⟨rfl, HB.out⟩
    · have a1 : decide (ty < 1) = false := decide_eq_false (by omega)
      have a2 : decide (15 < ty) = true := decide_eq_true h
      have a3 : decide (ty > 15) = true := decide_eq_true h
      go_enter Tryd.func4, Tryd.ntmps4
      go_wp2_with (first
        | (go_at_call 6; refine (HF.out _ HB.out).mono ?_; rintro e w1 ⟨rfl, hb⟩; replace HB := Lib.hid (HB.out.trans (hb.mono HB.out.size)); clear hb)
        | (go_at_call 8; refine (HTO.out _ HB.out).mono ?_; rintro e w1 ⟨rfl, hb⟩; replace HB := Lib.hid (HB.out.trans (hb.mono HB.out.size)); clear hb)
        | (go_at_call 10; refine (HLV.out _ HB.out).mono ?_; rintro e w1 ⟨rfl, hb⟩; replace HB := Lib.hid (HB.out.trans (hb.mono HB.out.size)); clear hb))
      go_ret
      exact ⟨rfl, HB.out⟩
  · have hin : 1 ≤ ty ∧ ty ≤ 15 := by omega
    have a1 : decide (ty < 1) = false := decide_eq_false (by omega)
    have a2 : decide (15 < ty) = false := decide_eq_false (by omega)
    have a3 : decide (ty > 15) = false := decide_eq_false (by omega)
    have HM1 := Lib.hid (fun w => rsmay_any ty (fromT ty n) w (from_lt ty n hn))
    rw [may_from ty n hin hn] at HM1
    have HM2 := Lib.hid (fun w => rsmay_any ty n w hn)
    have HFT := Lib.hid (fun w' (hb : Below w.heap.size w w') => ok.nfrom ty (toT ty n) w' (env.rides hb) ht (to_lt ty n hn))
    obtain ⟨f1, hf1⟩ : ∃ f1, f1 = fromT ty n := ⟨_, rfl⟩
    obtain ⟨t1, ht1⟩ : ∃ t1, t1 = toT ty n := ⟨_, rfl⟩
    rw [← hf1] at HF HM1
    rw [← ht1] at HTO HFT
    cases hm : mayT ty n with
    | false =>
      rw [hm] at HM2
      clear ok hout hin hf1 ht1 hm
      go_enter Tryd.func4, Tryd.ntmps4
      go_wp2_with (first
        | (go_at_call 6; refine (HF.out _ HB.out).mono ?_; rintro e w1 ⟨rfl, hb⟩; replace HB := Lib.hid (HB.out.trans (hb.mono HB.out.size)); clear hb HF)
        | (go_at_call 11; refine (HM1.out _).mono ?_; rintro e w1 ⟨rfl, rfl⟩; clear HM1)
        | (go_at_call 11; refine (HM2.out _).mono ?_; rintro e w1 ⟨rfl, rfl⟩)
        | (go_at_call 10; refine (HLV.out _ HB.out).mono ?_; rintro e w1 ⟨rfl, hb⟩; replace HB := Lib.hid (HB.out.trans (hb.mono HB.out.size)); clear hb))
      go_ret
      exact ⟨rfl, HB.out⟩
    | true =>
      rw [hm] at HM2
      rw [ht1, from_to ty n hin hn hm, ← ht1] at HFT
      clear ok hout hin hf1 ht1 hm
      go_enter Tryd.func4, Tryd.ntmps4
      go_wp2_with (first
        | (go_at_call 6; refine (HF.out _ HB.out).mono ?_; rintro e w1 ⟨rfl, hb⟩; replace HB := Lib.hid (HB.out.trans (hb.mono HB.out.size)); clear hb HF)
        | (go_at_call 11; refine (HM1.out _).mono ?_; rintro e w1 ⟨rfl, rfl⟩; clear HM1)
        | (go_at_call 11; refine (HM2.out _).mono ?_; rintro e w1 ⟨rfl, rfl⟩)
        | (go_at_call 8; refine (HTO.out _ HB.out).mono ?_; rintro e w1 ⟨rfl, hb⟩; replace HB := Lib.hid (HB.out.trans (hb.mono HB.out.size)); clear hb)
        | (go_at_call 6; refine (HFT.out _ HB.out).mono ?_; rintro e w1 ⟨rfl, hb⟩; replace HB := Lib.hid (HB.out.trans (hb.mono HB.out.size)); clear hb)
        | (go_at_call 10; refine (HLV.out _ HB.out).mono ?_; rintro e w1 ⟨rfl, hb⟩; replace HB := Lib.hid (HB.out.trans (hb.mono HB.out.size)); clear hb))
      go_ret
      exact ⟨rfl, HB.out⟩

set_option maxHeartbeats 4000000 in
theorem numshort_walk (ok : NumOk) (w : World) (env : ScEnv w) (ty : Int) (ht : -9223372036854775808 ≤ ty ∧ ty < 9223372036854775808) (l : Int) (hl : 0 ≤ l ∧ l < 4294967296) (h : Int) (hh : 0 ≤ h ∧ h < 4294967296) :
    Calls Tryd.prog 5 #[.int .i64 ty, .int .u32 l, .int .u32 h] w fun e w' => e = .returned (.bool true) ∧ Below w.heap.size w w' := by
  have HLV : Hid (∀ w', Below w.heap.size w w' → Calls Tryd.prog 10 #[] w' fun e w2 => e = .returned (.bool true) ∧ Below w'.heap.size w' w2) := Lib.hid (fun w' hb => numlive_any ok w' (env.rides hb))
  have HB := Lib.hid (Below.refl w.heap.size w)
  obtain ⟨a, rfl⟩ : ∃ a : Nat, l = (a : Int) := ⟨l.toNat, by omega⟩
  obtain ⟨b, rfl⟩ : ∃ b : Nat, h = (b : Int) := ⟨h.toNat, by omega⟩
  obtain ⟨u, hu⟩ : ∃ u : Nat, u = b * 4294967296 + a := ⟨_, rfl⟩
  have hor : bits .or .u64 ((b : Int) * 4294967296) (a : Int) = (u : Int) := by rw [hu]; exact or_half a b (by omega) (by omega)
  have HFU := Lib.hid (fun w' (hb : Below w.heap.size w w') => ok.nfrom ty u w' (env.rides hb) ht (by omega))
  have HFA := Lib.hid (fun w' (hb : Below w.heap.size w w') => ok.nfrom ty a w' (env.rides hb) ht (by omega))
  have HF0 := Lib.hid (fun w' (hb : Below w.heap.size w w') => ok.nfrom ty 0 w' (env.rides hb) ht (by omega))
  have HT0 := Lib.hid (fun w' (hb : Below w.heap.size w w') => ok.nto ty 0 w' (env.rides hb) ht (by omega))
  rw [from_zero] at HF0
  rw [to_zero] at HT0
  have HWH := Lib.hid (fun w => rswhole_any ty w)
  have HWI := Lib.hid (fun w => rswide2_any ty w)
  have HEQ : Hid (wholeT ty = true → wideT ty = false → fromT ty u = fromT ty a) := Lib.hid (from_low ty u a (by omega))
  have hsh : IntKind.u64.wrap ((b : Int) * 4294967296) = (b : Int) * 4294967296 := IntWalk.u64_in _ (by omega)
  clear ok hu
  generalize wholeT ty = wo at *
  generalize wideT ty = we at *
  cases wo <;> cases we
  case true.false =>
    rw [HEQ.out rfl rfl] at HFU
    generalize fromT ty a = f1 at *
    clear HEQ
    go_enter Tryd.func5, Tryd.ntmps5
    go_wp2_with (first
      | (go_at_call 12; refine (HWH.out _).mono ?_; rintro e w1 ⟨rfl, rfl⟩)
      | (go_at_call 13; refine (HWI.out _).mono ?_; rintro e w1 ⟨rfl, rfl⟩)
      | (go_at_call 6; refine (HFU.out _ HB.out).mono ?_; rintro e w1 ⟨rfl, hb⟩; replace HB := Lib.hid (HB.out.trans (hb.mono HB.out.size)); clear hb HFU)
      | (go_at_call 6; refine (HFA.out _ HB.out).mono ?_; rintro e w1 ⟨rfl, hb⟩; replace HB := Lib.hid (HB.out.trans (hb.mono HB.out.size)); clear hb HFA)
      | (go_at_call 6; refine (HF0.out _ HB.out).mono ?_; rintro e w1 ⟨rfl, hb⟩; replace HB := Lib.hid (HB.out.trans (hb.mono HB.out.size)); clear hb)
      | (go_at_call 8; refine (HT0.out _ HB.out).mono ?_; rintro e w1 ⟨rfl, hb⟩; replace HB := Lib.hid (HB.out.trans (hb.mono HB.out.size)); clear hb)
      | (go_at_call 10; refine (HLV.out _ HB.out).mono ?_; rintro e w1 ⟨rfl, hb⟩; replace HB := Lib.hid (HB.out.trans (hb.mono HB.out.size)); clear hb))
    go_ret
    exact ⟨rfl, HB.out⟩
  all_goals
    clear HEQ HFU HFA
    go_enter Tryd.func5, Tryd.ntmps5
    go_wp2_with (first
      | (go_at_call 12; refine (HWH.out _).mono ?_; rintro e w1 ⟨rfl, rfl⟩)
      | (go_at_call 13; refine (HWI.out _).mono ?_; rintro e w1 ⟨rfl, rfl⟩)
      | (go_at_call 6; refine (HF0.out _ HB.out).mono ?_; rintro e w1 ⟨rfl, hb⟩; replace HB := Lib.hid (HB.out.trans (hb.mono HB.out.size)); clear hb)
      | (go_at_call 8; refine (HT0.out _ HB.out).mono ?_; rintro e w1 ⟨rfl, hb⟩; replace HB := Lib.hid (HB.out.trans (hb.mono HB.out.size)); clear hb)
      | (go_at_call 10; refine (HLV.out _ HB.out).mono ?_; rintro e w1 ⟨rfl, hb⟩; replace HB := Lib.hid (HB.out.trans (hb.mono HB.out.size)); clear hb))
    go_ret
    exact ⟨rfl, HB.out⟩
end Go.Proofs.YtifbkaknfcghiaaDoor
