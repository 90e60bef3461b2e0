/- Several texts in one: FlP. What each proves, and its conditions, stands at its own head. -/
import Derived.Test.YtcjjphioeneiiaaGreatDoorPkSB15
import Derived.Test.YtcjjphioeneiiaaGreatDoorPkSB25
import Derived.Test.YtcjjphioeneiiaaGreatDoorPkSB18
import Derived.Test.YtcjjphioeneiiaaGreatDoorPkSB0
import Derived.Test.YtcjjphioeneiiaaGreatDoorPkSB12
import Derived.Test.YtcjjphioeneiiaaGreatDoorPkSB19
import Derived.Test.YtcjjphioeneiiaaGreatDoorPkSB2
import Derived.Test.YtcjjphioeneiiaaGreatDoorPkSB10
import Derived.Lib.Strings
import Derived.Deep.RegionHeld3
/- The program's layer 14: Check, and what it calls. Conditions: those that each theorem names. -/
namespace Go.Proofs.YtcjjphioeneiiaaGreatDoor
open Go.RowKit
set_option linter.unusedVariables false
set_option maxRecDepth 100000

set_option synthInstance.maxHeartbeats 4000000 in
set_option synthInstance.maxSize 4000 in
theorem fp_ways : ∀ bn oe bo rb fb kb rep loose mb : Bool, (bn = false ∧ oe = true) ∨ (bn = false ∧ oe = false) ∨ (bn = true ∧ oe = true ∧ rb = false) ∨ (bn = true ∧ oe = true ∧ rb = true ∧ fb = false) ∨ (bn = true ∧ oe = true ∧ rb = true ∧ fb = true ∧ kb = false) ∨ (bn = true ∧ oe = true ∧ rb = true ∧ fb = true ∧ kb = true ∧ rep = true ∧ loose = true ∧ mb = true) ∨ (bn = true ∧ oe = true ∧ rb = true ∧ fb = true ∧ kb = true ∧ rep = true ∧ loose = true ∧ mb = false) ∨ (bn = true ∧ oe = true ∧ rb = true ∧ fb = true ∧ kb = true ∧ rep = true ∧ loose = false) ∨ (bn = true ∧ oe = true ∧ rb = true ∧ fb = true ∧ kb = true ∧ rep = false ∧ loose = true ∧ mb = true) ∨ (bn = true ∧ oe = true ∧ rb = true ∧ fb = true ∧ kb = true ∧ rep = false ∧ loose = true ∧ mb = false) ∨ (bn = true ∧ oe = true ∧ rb = true ∧ fb = true ∧ kb = true ∧ rep = false ∧ loose = false) ∨ (bn = true ∧ oe = false ∧ bo = false) ∨ (bn = true ∧ oe = false ∧ bo = true ∧ rb = false) ∨ (bn = true ∧ oe = false ∧ bo = true ∧ rb = true ∧ fb = false) ∨ (bn = true ∧ oe = false ∧ bo = true ∧ rb = true ∧ fb = true ∧ kb = false) ∨ (bn = true ∧ oe = false ∧ bo = true ∧ rb = true ∧ fb = true ∧ kb = true ∧ rep = true) ∨ (bn = true ∧ oe = false ∧ bo = true ∧ rb = true ∧ fb = true ∧ kb = true ∧ rep = false ∧ loose = true ∧ mb = true) ∨ (bn = true ∧ oe = false ∧ bo = true ∧ rb = true ∧ fb = true ∧ kb = true ∧ rep = false ∧ loose = true ∧ mb = false) ∨ (bn = true ∧ oe = false ∧ bo = true ∧ rb = true ∧ fb = true ∧ kb = true ∧ rep = false ∧ loose = false) := by decide
set_option maxHeartbeats 40000000 in
theorem fpcheck_core (w : World) (sn sr so : ByteArray) (num ty : Int) (rep loose bn bo rb oe fb kb mb : Bool) (C : Int)
 (hN : (∀ u, Below w.heap.size w u → Calls Tryz.prog 126 #[.string sn] u fun e w' => e = .returned (.bool bn) ∧ Below u.heap.size u w'))
 (hO : (∀ u, Below w.heap.size w u → Calls Tryz.prog 126 #[.string so] u fun e w' => e = .returned (.bool bo) ∧ Below u.heap.size u w'))
 (hR : (∀ u, Below w.heap.size w u → Calls Tryz.prog 202 #[.agg #[.string sn, .int .i64 num, .int .i64 ty, .string sr, .bool rep, .bool loose, .string so]] u fun e w' => e = .returned (.bool rb) ∧ Below u.heap.size u w'))
 (hM : (∀ u, Below w.heap.size w u → Calls Tryz.prog 205 #[.agg #[.string sn, .int .i64 num, .int .i64 ty, .string sr, .bool rep, .bool loose, .string so]] u fun e w' => e = .returned (.bool mb) ∧ Below u.heap.size u w'))
 (hF : ∀ u, Calls Tryz.prog 203 #[.int .i64 num] u fun e w' => e = .returned (.bool fb) ∧ u = w')
 (hK : ∀ u, Calls Tryz.prog 204 #[.int .i64 ty] u fun e w' => e = .returned (.bool kb) ∧ u = w')
 (hoe : (so.toList == []) = oe)
 (hC : C = if (!bn || (!oe && !bo)) = true then 2 else if rb = false then 2 else if (!fb || (!kb || (rep && !oe))) = true then 1 else if (loose && !mb) = true then 1 else 0) :
 Calls Tryz.prog 127 #[.agg #[.string sn, .int .i64 num, .int .i64 ty, .string sr, .bool rep, .bool loose, .string so]] w fun e w' => e = .returned (.int .i64 C) ∧ Below w.heap.size w w' := by
 have HN := Lib.hid hN
 have HO := Lib.hid hO
 have HR := Lib.hid hR
 have HF := Lib.hid hF
 have HK := Lib.hid hK
 have HM := Lib.hid hM
 have HC := Lib.hid hC
 have HB : Hid (Below w.heap.size w (w.alloc (.cells #[.string sn, .int .i64 num, .int .i64 ty, .string sr, .bool rep, .bool loose, .string so] 70))) := Lib.hid ((Below.refl _ w).alloc (Nat.le_refl _) _)
 have HX : Hid ((w.alloc (.cells #[.string sn, .int .i64 num, .int .i64 ty, .string sr, .bool rep, .bool loose, .string so] 70)).heap[w.heap.size]? = some (.cells #[.string sn, .int .i64 num, .int .i64 ty, .string sr, .bool rep, .bool loose, .string so] 70 (0, 0))) := Lib.hid (heap_alloc_new w _)
 clear hN hO hR hF hM hK hC
 have hw := fp_ways bn oe bo rb fb kb rep loose mb
 rcases hw with ⟨rfl, rfl⟩ | ⟨rfl, rfl⟩ | ⟨rfl, rfl, rfl⟩ | ⟨rfl, rfl, rfl, rfl⟩ | ⟨rfl, rfl, rfl, rfl, rfl⟩ | ⟨rfl, rfl, rfl, rfl, rfl, rfl, rfl, rfl⟩ | ⟨rfl, rfl, rfl, rfl, rfl, rfl, rfl, rfl⟩ | ⟨rfl, rfl, rfl, rfl, rfl, rfl, rfl⟩ | ⟨rfl, rfl, rfl, rfl, rfl, rfl, rfl, rfl⟩ | ⟨rfl, rfl, rfl, rfl, rfl, rfl, rfl, rfl⟩ | ⟨rfl, rfl, rfl, rfl, rfl, rfl, rfl⟩ | ⟨rfl, rfl, rfl⟩ | ⟨rfl, rfl, rfl, rfl⟩ | ⟨rfl, rfl, rfl, rfl, rfl⟩ | ⟨rfl, rfl, rfl, rfl, rfl, rfl⟩ | ⟨rfl, rfl, rfl, rfl, rfl, rfl, rfl⟩ | ⟨rfl, rfl, rfl, rfl, rfl, rfl, rfl, rfl, rfl⟩ | ⟨rfl, rfl, rfl, rfl, rfl, rfl, rfl, rfl, rfl⟩ | ⟨rfl, rfl, rfl, rfl, rfl, rfl, rfl, rfl⟩
 all_goals
  first
   | (have o3 : so.toList = [] := beq_iff_eq.1 hoe; have o2 : so.toList.isEmpty = true := by rw [o3]; rfl)
   | (have o3 : ¬ so.toList = [] := (fun e => by rw [e] at hoe; cases hoe); have o2 : so.toList.isEmpty = false := by rw [List.isEmpty_eq_false_iff]; exact o3)
  have hv := HC.out
  simp [*] at hv
  have HV := Lib.hid hv
  clear hv
  clear HC
  go_enter Tryz.func127, Tryz.ntmps127
  go_wp2_with (first
   | (go_at_call 126; with_reducible refine (HN.out _ HB.out).mono ?_; rintro e w1 ⟨rfl, hb⟩; have hx := (hb.block w.heap.size (lt_of_block HX.out)).trans HX.out; have r0 := obj_cell hx 0; have r1 := obj_cell hx 1; have r2 := obj_cell hx 2; have r3 := obj_cell hx 3; have r4 := obj_cell hx 4; have r5 := obj_cell hx 5; have r6 := obj_cell hx 6; replace HX := Lib.hid hx; replace HB := Lib.hid (HB.out.trans (hb.mono HB.out.size)); clear hb hx)
   | (go_at_call 126; with_reducible refine (HO.out _ HB.out).mono ?_; rintro e w1 ⟨rfl, hb⟩; have hx := (hb.block w.heap.size (lt_of_block HX.out)).trans HX.out; have r0 := obj_cell hx 0; have r1 := obj_cell hx 1; have r2 := obj_cell hx 2; have r3 := obj_cell hx 3; have r4 := obj_cell hx 4; have r5 := obj_cell hx 5; have r6 := obj_cell hx 6; replace HX := Lib.hid hx; replace HB := Lib.hid (HB.out.trans (hb.mono HB.out.size)); clear hb hx)
   | (go_at_call 202; with_reducible refine (HR.out _ HB.out).mono ?_; rintro e w1 ⟨rfl, hb⟩; have hx := (hb.block w.heap.size (lt_of_block HX.out)).trans HX.out; have r0 := obj_cell hx 0; have r1 := obj_cell hx 1; have r2 := obj_cell hx 2; have r3 := obj_cell hx 3; have r4 := obj_cell hx 4; have r5 := obj_cell hx 5; have r6 := obj_cell hx 6; replace HX := Lib.hid hx; replace HB := Lib.hid (HB.out.trans (hb.mono HB.out.size)); clear hb hx)
   | (go_at_call 205; with_reducible refine (HM.out _ HB.out).mono ?_; rintro e w1 ⟨rfl, hb⟩; have hx := (hb.block w.heap.size (lt_of_block HX.out)).trans HX.out; have r0 := obj_cell hx 0; have r1 := obj_cell hx 1; have r2 := obj_cell hx 2; have r3 := obj_cell hx 3; have r4 := obj_cell hx 4; have r5 := obj_cell hx 5; have r6 := obj_cell hx 6; replace HX := Lib.hid hx; replace HB := Lib.hid (HB.out.trans (hb.mono HB.out.size)); clear hb hx)
   | (go_at_call 203; refine (HF.out _).mono ?_; rintro e w2 ⟨rfl, rfl⟩)
   | (go_at_call 204; refine (HK.out _).mono ?_; rintro e w2 ⟨rfl, rfl⟩)
   )
  all_goals (go_ret; exact ⟨by rw [HV.out]; rfl, HB.out⟩)

theorem fpnamed_any (ty : Int) (w : World) : Calls Tryz.prog 246 #[.int .i64 ty] w fun e w' => e = .returned (.bool (decide (ty = 14 ∨ ty = 15))) ∧ w = w' := by
 obtain ⟨r, hr⟩ : ∃ r, r = decide (ty = 14 ∨ ty = 15) := ⟨_, rfl⟩
 rw [← hr]
 by_cases h14 : ty = 14
 ·subst h14
  rw [decide_eq_true (.inl rfl)] at hr
  subst hr
  go_enter Tryz.func246, Tryz.ntmps246
  go_wp2
  go_ret
  exact ⟨rfl, rfl⟩
 ·have e14 : (ty == 14) = false := beq_false_of_ne h14
  by_cases h15 : ty = 15
  ·subst h15
   rw [decide_eq_true (.inr rfl)] at hr
   subst hr
   go_enter Tryz.func246, Tryz.ntmps246
   go_wp2
   go_ret
   exact ⟨rfl, rfl⟩
  ·have e15 : (ty == 15) = false := beq_false_of_ne h15
   rw [decide_eq_false (fun e => e.elim h14 h15)] at hr
   subst hr
   go_enter Tryz.func246, Tryz.ntmps246
   go_wp2
   go_ret
   exact ⟨rfl, rfl⟩
theorem fpknown_any (ty : Int) (w : World) : Calls Tryz.prog 204 #[.int .i64 ty] w fun e w' => e = .returned (.bool (decide (1 ≤ ty) && decide (ty ≤ 15))) ∧ w = w' := by
 cases h1 : decide (1 ≤ ty) <;> cases h2 : decide (ty ≤ 15)
 all_goals
  go_enter Tryz.func204, Tryz.ntmps204
  go_wp2
  go_ret
  exact ⟨rfl, rfl⟩
theorem fpmany_any (f : Fd) (w : World) (env : ScEnv w) : Calls Tryz.prog 205 #[fdV f] w fun e w' => e = .returned (.bool (f.rep && numberT f.ty)) ∧ Below w.heap.size w w' := by
 have HM := Lib.hid (fun u hb => pnumber_any f.ty u (env.rides (w' := u) hb))
 have HB : Hid (∀ o, Below w.heap.size w (w.alloc o)) := Lib.hid (fun o => (Below.refl _ w).alloc (Nat.le_refl _) o)
 obtain ⟨name, num, ty, ref, rep, loose, one⟩ := f
 unfold fdV
 dsimp only at HM ⊢
 obtain ⟨nb, hnb⟩ : ∃ nb, nb = numberT ty := ⟨_, rfl⟩
 rw [← hnb] at HM ⊢
 clear hnb env
 cases rep
 ·go_enter Tryz.func205, Tryz.ntmps205
  go_wp2
  go_ret
  exact ⟨rfl, HB.out _⟩
 ·go_enter Tryz.func205, Tryz.ntmps205
  go_wp2_with (go_at_call 248; refine (HM.out _ (HB.out _)).mono ?_; rintro e w2 ⟨rfl, hb⟩; have HB2 := Lib.hid ((HB.out _).trans (hb.mono (HB.out _).size)); clear hb)
  go_ret
  exact ⟨rfl, HB2.out⟩
theorem fprefers_any (f : Fd) (w : World) : Calls Tryz.prog 202 #[fdV f] w fun e w' => e = .returned (.bool (if f.ty = 14 ∨ f.ty = 15 then nameB f.ref else decide (f.ref = []))) ∧ Below w.heap.size w w' := by
 have HN := Lib.hid (fun u => fpnamed_any f.ty u)
 have HR := Lib.hid (fun u => pright_any u f.ref)
 have HB : Hid (∀ o, Below w.heap.size w (w.alloc o)) := Lib.hid (fun o => (Below.refl _ w).alloc (Nat.le_refl _) o)
 have he := empty_facts f.ref
 obtain ⟨name, num, ty, ref, rep, loose, one⟩ := f
 unfold fdV
 dsimp only at HN HR he ⊢
 obtain ⟨rb, hrb⟩ : ∃ rb, rb = nameB ref := ⟨_, rfl⟩
 obtain ⟨re, hre⟩ : ∃ re, re = decide (ref = []) := ⟨_, rfl⟩
 obtain ⟨sr, hsr⟩ : ∃ sr, sr = strOf ref := ⟨_, rfl⟩
 rw [← hrb, ← hsr] at HR
 rw [← hre, ← hsr] at he
 rw [← hrb, ← hre, ← hsr]
 clear hrb hre hsr
 by_cases h : ty = 14 ∨ ty = 15
 ·rw [decide_eq_true h] at HN
  rw [if_pos h]
  clear h
  go_enter Tryz.func202, Tryz.ntmps202
  go_wp2_with (first
   | (go_at_call 246; refine (HN.out _).mono ?_; rintro e w2 ⟨rfl, rfl⟩)
   | (go_at_call 126; refine (HR.out _).mono ?_; rintro e w2 ⟨rfl, hb⟩; have HB2 := Lib.hid ((HB.out _).trans (hb.mono (HB.out _).size)); clear hb))
  go_ret
  exact ⟨rfl, HB2.out⟩
 ·rw [decide_eq_false h] at HN
  rw [if_neg h]
  clear h
  have ho : (re = true ∧ sr.toList = [] ∧ sr.toList.isEmpty = true) ∨ (re = false ∧ ¬ sr.toList = [] ∧ sr.toList.isEmpty = false) := by
   cases re with
   | true => exact .inl ⟨rfl, beq_iff_eq.1 he, by rw [beq_iff_eq.1 he]; rfl⟩
   | false => exact .inr ⟨rfl, (fun e => by rw [e] at he; cases he), (by rw [List.isEmpty_eq_false_iff]; intro e; rw [e] at he; cases he)⟩
  rcases ho with ⟨rfl, o3, o2⟩ | ⟨rfl, o3, o2⟩
  all_goals
   go_enter Tryz.func202, Tryz.ntmps202
   go_wp2_with (go_at_call 246; refine (HN.out _).mono ?_; rintro e w2 ⟨rfl, rfl⟩)
   go_ret
   exact ⟨rfl, HB.out _⟩
theorem fpcheck_any (f : Fd) (w : World) (env : ScEnv w) : Calls Tryz.prog 127 #[fdV f] w fun e w' => e = .returned (.int .i64 (fcheckT f)) ∧ Below w.heap.size w w' :=
 fpcheck_core w (strOf f.name) (strOf f.ref) (strOf f.one) f.num f.ty f.rep f.loose (nameB f.name) (nameB f.one) (if f.ty = 14 ∨ f.ty = 15 then nameB f.ref else decide (f.ref = [])) (decide (f.one = [])) (fieldB f.num) (decide (1 ≤ f.ty) && decide (f.ty ≤ 15)) (f.rep && numberT f.ty) (fcheckT f)
  (fun u _ => pright_any u f.name) (fun u _ => pright_any u f.one) (fun u _ => fprefers_any f u) (fun u hb => fpmany_any f u (env.rides hb)) (fun u => field_any f.num u) (fun u => fpknown_any f.ty u) (empty_facts f.one)
  (by
   unfold fcheckT
   have e2 : (fc2 f = true) ↔ ((if f.ty = 14 ∨ f.ty = 15 then nameB f.ref else decide (f.ref = [])) = false) := by
    unfold fc2
    by_cases h : f.ty = 14 ∨ f.ty = 15
    ·rw [if_pos h, if_pos h]; cases nameB f.ref <;> simp
    ·rw [if_neg h, if_neg h]; by_cases g : f.ref = [] <;> simp [g]
   have e1 : fc1 f = (!nameB f.name || (!decide (f.one = []) && !nameB f.one)) := by unfold fc1; rw [ne_not f.one]
   have e3 : fc3 f = (!fieldB f.num || (!(decide (1 ≤ f.ty) && decide (f.ty ≤ 15)) || (f.rep && !decide (f.one = [])))) := by
    unfold fc3
    rw [ne_not f.one]
    have a1 : decide (f.ty < 1) = !decide (1 ≤ f.ty) := by by_cases g : f.ty < 1 <;> simp [g] <;> omega
    have a2 : decide (15 < f.ty) = !decide (f.ty ≤ 15) := by by_cases g : 15 < f.ty <;> simp [g] <;> omega
    rw [a1, a2, Bool.not_and, Bool.or_assoc]
   have e4 : fc4 f = (f.loose && !(f.rep && numberT f.ty)) := by unfold fc4; rw [Bool.not_and]
   rw [e1, e3, e4]
   simp only [e2])
end Go.Proofs.YtcjjphioeneiiaaGreatDoor

