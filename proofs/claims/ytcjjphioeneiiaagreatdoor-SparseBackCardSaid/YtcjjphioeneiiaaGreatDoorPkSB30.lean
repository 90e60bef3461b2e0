/- Several texts in one: LwN, LwF. What each proves, and its conditions, stands at its own head. -/
import Derived.Test.YtcjjphioeneiiaaGreatDoorPkSB23
import Derived.Test.YtcjjphioeneiiaaGreatDoorPkSB8
import Derived.Test.YtcjjphioeneiiaaGreatDoorPkSB9
import Derived.Test.YtcjjphioeneiiaaGreatDoorPkSB29
/- The program's layer 10: the library's CutPrefix and ParseUint, and the number that a text begins with. Conditions: LexEnv; those that each theorem names. -/
namespace Go.Proofs.YtcjjphioeneiiaaGreatDoor
open Go.RowKit
set_option linter.unusedVariables false
set_option maxRecDepth 100000

theorem cp_any (t : List UInt8) (p : List UInt8) (w : World) : Calls Tryz.prog 175 #[.string (strOf t), .string ⟨p.toArray⟩] w fun e w' => e = .returned (.tuple #[.string (strOf (Lib.trimPrefix t p)), .bool (Lib.hasPrefix t p)]) ∧ w' = w := Any.strings_CutPrefix lcp_lays (strOf t) ⟨p.toArray⟩ w
theorem pu_ok (l : List UInt8) (hl : l.length ≤ 1000000) (u : Nat) (h : Lib.parseUintB 64 l = .ok u) (w : World) :
 Calls Tryz.prog 176 #[.string (strOf l), .int .i64 10, .int .i64 64] w fun e w' => e = .returned (.tuple #[.int .u64 (u : Int), .nilIface]) ∧ Below w.heap.size w w' := by
 have hz : (strOf l).size = l.length := str_size l
 refine Calls.mono (Any.strconv_ParseUint_10_at64_ok lpu_lays (strOf l) (by omega) u h w) ?_
 rintro e w' ⟨rfl, hw⟩
 refine ⟨rfl, ?_⟩
 rcases hw with rfl | rfl
 ·exact Below.refl _ _
 ·exact Lib.bytesWorld_below _ _ _
theorem pu_bad (l : List UInt8) (hl : l.length ≤ 1000000) (h : ∀ u, Lib.parseUintB 64 l ≠ .ok u) (w : World) (env : LexEnv w) :
 Calls Tryz.prog 176 #[.string (strOf l), .int .i64 10, .int .i64 64] w fun e w' => ∃ (x : Int) (N : Nat), e = .returned (.tuple #[.int .u64 x, .iface 237 (.pointer (some ⟨N, 0, none⟩))]) ∧ Below w.heap.size w w' := by
 have hz : (strOf l).size = l.length := str_size l
 obtain ⟨tp, p, hs⟩ := env.syn
 obtain ⟨tq, q, hr⟩ := env.rng
 rcases hp : Lib.parseUintB 64 l with u | _ | _
 ·exact absurd hp (h u)
 ·refine Calls.mono (Any.strconv_ParseUint_10_at64_syntax_var lpu_lays (strOf l) (by omega) hp tp p w hs) ?_
  rintro e w' ⟨N, rfl, _, _, hb⟩
  exact ⟨_, N, rfl, hb⟩
 ·refine Calls.mono (Any.strconv_ParseUint_10_at64_range_var lpu_lays (strOf l) (by omega) hp tq q w hr) ?_
  rintro e w' ⟨N, rfl, _, _, hb⟩
  exact ⟨_, N, rfl, hb⟩
theorem pu_none (u : Nat) : Lib.parseUintB 64 [] ≠ .ok u := by
 intro h
 unfold Lib.parseUintB at h
 rw [if_pos rfl] at h
 cases h
theorem numDs_le (t : List UInt8) : (numDs t).length ≤ (t.drop (numFrom t)).length := digs_le _

set_option maxHeartbeats 20000000 in
theorem xnumber_any (t : List UInt8) (w : World) (env : LexEnv w) (hl : t.length ≤ 10000) : Calls Tryz.prog 106 #[.string (strOf t)] w fun e w' => e = .returned (oneV (numR t)) ∧ Below w.heap.size w w' := by
 have hres : Tryz.f106.results = #[.cell 2 86, .tmp 3] := by kernel_rfl
 have HRS := Lib.hid hres
 have hfl := numFrom_le t
 have hdl := numDs_le t
 have hsz0 : numI t = numFrom t + (numDs t).length := rfl
 have hbad0 : numBad t = (decide (numDs t = []) || (decide (18446744073709551616 ≤ numV t) || (decide (digitsT (numV t) (numNeg t) ≠ t.take (numI t)) || (numNeg t && decide (9223372036854775808 < numV t))))) := rfl
 have hpn := parse_num t
 have hCP : ∀ w, Calls Tryz.prog 175 #[.string (strOf t), .string ⟨#[45]⟩] w fun e w' => e = .returned (.tuple #[.string (strOf (t.drop (numFrom t))), .bool (numNeg t)]) ∧ w' = w := fun w => by
  have h := cp_any t [45] w
  rw [neg_trim, neg_prefix] at h
  exact h
 have hRN : ∀ w, Calls Tryz.prog 173 #[.string (strOf (t.drop (numFrom t))), .func (.func 105) #[] #[]] w fun e w' => e = .returned (.int .i64 ((numDs t).length : Int)) ∧ w = w' := fun w => xrun_digit (t.drop (numFrom t)) w (by rw [List.length_drop]; omega)
 have hexd : (strOf (t.drop (numFrom t))).extract 0 (numDs t).length = strOf (numDs t) := by rw [strOf_extract, List.drop_zero, numDs_take]
 have hbz : (strOf (t.drop (numFrom t))).size = t.length - numFrom t := by rw [str_size, List.length_drop]
 obtain ⟨n, hn⟩ : ∃ n, n = t.length := ⟨_, rfl⟩
 obtain ⟨str, hstr⟩ : ∃ str, str = strOf t := ⟨_, rfl⟩
 have hsz : str.size = n := by rw [hstr, str_size, hn]
 obtain ⟨fr, hfr⟩ : ∃ fr, fr = numFrom t := ⟨_, rfl⟩
 obtain ⟨ct, hct⟩ : ∃ ct, ct = (numDs t).length := ⟨_, rfl⟩
 obtain ⟨sz, hszz⟩ : ∃ sz, sz = numI t := ⟨_, rfl⟩
 obtain ⟨ng, hng⟩ : ∃ ng, ng = numNeg t := ⟨_, rfl⟩
 obtain ⟨bh, hbh⟩ : ∃ bh, bh = strOf (t.drop (numFrom t)) := ⟨_, rfl⟩
 obtain ⟨sg, hsg⟩ : ∃ sg, sg = strOf (numDs t) := ⟨_, rfl⟩
 have hext : str.extract 0 sz = strOf (t.take sz) := by rw [hstr, strOf_extract, List.drop_zero]
 rw [← hbh] at hCP hRN hexd hbz
 rw [← hstr, ← hng] at hCP
 rw [← hsg] at hexd
 rw [← hct] at hRN hexd hdl hsz0
 rw [← hn, ← hfr] at hbz hfl
 rw [List.length_drop, ← hn, ← hfr] at hdl
 rw [← hszz, ← hfr] at hsz0
 rw [← hszz, ← hng] at hbad0
 rw [← hn] at hl
 have hnu : numR t = if numBad t = true then (tk0, 0) else (⟨2, [], numV t, ng, 0⟩, sz) := by rw [hng, hszz]; rfl
 have HCP := Lib.hid hCP
 have HRN := Lib.hid hRN
 have HB0 : Hid (Below w.heap.size w (w.alloc (.cells #[.int .i64 0, .string ⟨#[]⟩, .int .u64 0, .bool false, .int .i64 0] 86))) := Lib.hid ((Below.refl _ w).alloc (Nat.le_refl _) _)
 have HE0 := Lib.hid (env.carry HB0.out)
 have HSZ := Lib.hid hsz0
 have g1 : 0 ≤ (ct : Int) := by omega
 have g2 : (ct : Int) ≤ ((n - fr : Nat) : Int) := by omega
 have g3 : 0 ≤ (sz : Int) := by omega
 have g4 : (sz : Int) ≤ (n : Int) := by omega
 have gs1 : (n : Int) - ((n - fr : Nat) : Int) = (fr : Int) := by omega
 have gs2 : (fr : Int) + (ct : Int) = (sz : Int) := by omega
 rw [← hstr]
 clear hCP hRN hres env hsz0
 by_cases hok : numDs t ≠ [] ∧ numV t < 18446744073709551616
 ·obtain ⟨hk1, hk2⟩ := hok
  rw [if_neg hk1, if_pos hk2] at hpn
  have HPU : Hid (∀ w, Calls Tryz.prog 176 #[.string sg, .int .i64 10, .int .i64 64] w fun e w' => e = .returned (.tuple #[.int .u64 (numV t : Int), .nilIface]) ∧ Below w.heap.size w w') := Lib.hid (fun w => by rw [hsg]; exact pu_ok (numDs t) (by omega) (numV t) hpn w)
  rw [decide_eq_false hk1, decide_eq_false (by omega : ¬ 18446744073709551616 ≤ numV t), Bool.false_or, Bool.false_or] at hbad0
  obtain ⟨v, hv⟩ : ∃ v, v = numV t := ⟨_, rfl⟩
  rw [← hv] at HPU hbad0 hk2 hnu
  have HDG := Lib.hid (fun w (e : LexEnv w) => pdigits_any v ng w e.dec hk2)
  obtain ⟨st, hst⟩ : ∃ st, st = strOf (t.take sz) := ⟨_, rfl⟩
  rw [← hst] at hext
  have HST := Lib.hid hst
  have HSTR := Lib.hid hstr
  have HNU := Lib.hid hnu
  have HBA := Lib.hid hbad0
  clear hpn hk1 hv hnu hbad0 hst hstr hsg hbh hng hszz hct hfr hn
  cases ng with
  | true =>
    by_cases hbig : 9223372036854775808 < v
    ·have HF : Hid (numR t = (tk0, 0)) := Lib.hid (by rw [HNU.out, HBA.out, decide_eq_true hbig, Bool.true_and, Bool.or_true, if_pos rfl])
     have hg9 : decide ((v : Int) > 9223372036854775808) = true := decide_eq_true (by omega)
     have hg8 : (9223372036854775808 : Int) < (v : Int) := by omega
     clear hbig
     go_enter Tryz.func106, Tryz.ntmps106
     go_wp2_with (first
      | (go_at_call 175; refine (HCP.out _).mono ?_; rintro e w2 ⟨rfl, rfl⟩)
      | (go_at_call 173; refine (HRN.out _).mono ?_; rintro e w2 ⟨rfl, rfl⟩)
      | (go_at_call 176; refine (HPU.out _).mono ?_; rintro e w1 ⟨rfl, hb1⟩; have hbx := (hb1.block w.heap.size (by simp)).trans (heap_alloc_new w (.cells #[.int .i64 0, .string ⟨#[]⟩, .int .u64 0, .bool false, .int .i64 0] 86)); have r0 := obj_cell hbx 0; have q0 := obj_free hbx 0; have r1 := obj_cell hbx 1; have q1 := obj_free hbx 1; have r2 := obj_cell hbx 2; have q2 := obj_free hbx 2; have r3 := obj_cell hbx 3; have q3 := obj_free hbx 3; have r4 := obj_cell hbx 4; have q4 := obj_free hbx 4; have HBX := Lib.hid hbx; have HB1 := Lib.hid (HB0.out.trans (hb1.mono HB0.out.size)); have HE1 := Lib.hid (HE0.out.carry hb1); clear hb1 hbx))
     refine wp_region_noPanic ?_
     refine wp_region_held_drew (S := fun _ => True) (by kernel_rfl) trivial (fun _ => ?_)
     refine tl 0 ?_ ?zy ?_
     case zy => intro w _; go_simp <;> with_reducible rfl
     try simp only [Act.put, List.setIfInBounds_toArray, List.set_cons_zero, List.set_cons_succ]
     refine tl 1 ?_ ?zy ?_
     case zy => intro w _; go_simp <;> with_reducible rfl
     try simp only [Act.put, List.setIfInBounds_toArray, List.set_cons_zero, List.set_cons_succ]
     refine tl 2 ?_ ?zy ?_
     case zy => intro w _; go_simp <;> with_reducible rfl
     try simp only [Act.put, List.setIfInBounds_toArray, List.set_cons_zero, List.set_cons_succ]
     refine tl 3 ?_ ?zy ?_
     case zy => intro w _; go_simp <;> with_reducible rfl
     try simp only [Act.put, List.setIfInBounds_toArray, List.set_cons_zero, List.set_cons_succ]
     refine tl 4 ?_ ?zy ?_
     case zy => intro w _; go_simp <;> with_reducible rfl
     try simp only [Act.put, List.setIfInBounds_toArray, List.set_cons_zero, List.set_cons_succ]
     refine tl 5 ?_ ?zy ?_
     case zy => intro w _; go_simp <;> with_reducible rfl
     try simp only [Act.put, List.setIfInBounds_toArray, List.set_cons_zero, List.set_cons_succ]
     refine tl 6 ?_ ?zy ?_
     case zy => intro w _; go_simp <;> with_reducible rfl
     try simp only [Act.put, List.setIfInBounds_toArray, List.set_cons_zero, List.set_cons_succ]
     refine tl 7 ?_ ?zy ?_
     case zy => intro w _; go_simp <;> with_reducible rfl
     try simp only [Act.put, List.setIfInBounds_toArray, List.set_cons_zero, List.set_cons_succ]
     refine tl 8 ?_ ?zy ?_
     case zy => intro w _; go_simp <;> with_reducible rfl
     try simp only [Act.put, List.setIfInBounds_toArray, List.set_cons_zero, List.set_cons_succ]
     refine tl 9 ?_ ?zy ?_
     case zy => intro w _; go_simp <;> with_reducible rfl
     try simp only [Act.put, List.setIfInBounds_toArray, List.set_cons_zero, List.set_cons_succ]
     refine ts 10 ?_
     try simp only [Act.put, List.setIfInBounds_toArray, List.set_cons_zero, List.set_cons_succ]
     refine ts 11 ?_
     try simp only [Act.put, List.setIfInBounds_toArray, List.set_cons_zero, List.set_cons_succ]
     refine ts 12 ?_
     try simp only [Act.put, List.setIfInBounds_toArray, List.set_cons_zero, List.set_cons_succ]
     refine ts 13 ?_
     try simp only [Act.put, List.setIfInBounds_toArray, List.set_cons_zero, List.set_cons_succ]
     refine ts 14 ?_
     try simp only [Act.put, List.setIfInBounds_toArray, List.set_cons_zero, List.set_cons_succ]
     refine ts 15 ?_
     try simp only [Act.put, List.setIfInBounds_toArray, List.set_cons_zero, List.set_cons_succ]
     refine ts 16 ?_
     try simp only [Act.put, List.setIfInBounds_toArray, List.set_cons_zero, List.set_cons_succ]
     refine tl 17 ?_ ?zy ?_
     case zy => intro w _; go_simp <;> with_reducible rfl
     try simp only [Act.put, List.setIfInBounds_toArray, List.set_cons_zero, List.set_cons_succ]
     refine wpAnyH_done (by kernel_rfl) ?_ _
     refine NoPanic.normal ?_
     go_wp2
     rw [HF.out]
     refine bodyPost_ret (v := oneV (tk0, 0)) ?_ rfl ⟨rfl, (box_below (HB1.out.drew) (Nat.le_refl _) _ _ _ _ _)⟩
     simp only [results, HRS.out, oneV, tkV, tk0]
     go_simp
     try rfl
    ·have hg9 : decide ((v : Int) > 9223372036854775808) = false := decide_eq_false (by omega)
     have hg8 : ¬ (9223372036854775808 : Int) < (v : Int) := by omega
     rw [decide_eq_false hbig, Bool.and_false, Bool.or_false] at HBA
     clear hbig
     by_cases hdt : digitsT v true = t.take sz
     ·have HF : Hid (numR t = (⟨2, [], v, true, 0⟩, sz)) := Lib.hid (by rw [HNU.out, HBA.out, decide_eq_false (fun h => h hdt), if_neg (by decide)])
      rw [hdt, ← HST.out] at HDG
      clear hdt
      go_enter Tryz.func106, Tryz.ntmps106
      go_wp2_with (first
       | (go_at_call 175; refine (HCP.out _).mono ?_; rintro e w2 ⟨rfl, rfl⟩)
       | (go_at_call 173; refine (HRN.out _).mono ?_; rintro e w2 ⟨rfl, rfl⟩)
       | (go_at_call 176; refine (HPU.out _).mono ?_; rintro e w1 ⟨rfl, hb1⟩; have hbx := (hb1.block w.heap.size (by simp)).trans (heap_alloc_new w (.cells #[.int .i64 0, .string ⟨#[]⟩, .int .u64 0, .bool false, .int .i64 0] 86)); have r0 := obj_cell hbx 0; have q0 := obj_free hbx 0; have r1 := obj_cell hbx 1; have q1 := obj_free hbx 1; have r2 := obj_cell hbx 2; have q2 := obj_free hbx 2; have r3 := obj_cell hbx 3; have q3 := obj_free hbx 3; have r4 := obj_cell hbx 4; have q4 := obj_free hbx 4; have HBX := Lib.hid hbx; have HB1 := Lib.hid (HB0.out.trans (hb1.mono HB0.out.size)); have HE1 := Lib.hid (HE0.out.carry hb1); clear hb1 hbx))
      refine wp_region_noPanic ?_
      refine wp_region_held_drew (S := fun _ => True) (by kernel_rfl) trivial (fun _ => ?_)
      refine tl 0 ?_ ?zy ?_
      case zy => intro w _; go_simp <;> with_reducible rfl
      try simp only [Act.put, List.setIfInBounds_toArray, List.set_cons_zero, List.set_cons_succ]
      refine tl 1 ?_ ?zy ?_
      case zy => intro w _; go_simp <;> with_reducible rfl
      try simp only [Act.put, List.setIfInBounds_toArray, List.set_cons_zero, List.set_cons_succ]
      refine tl 2 ?_ ?zy ?_
      case zy => intro w _; go_simp <;> with_reducible rfl
      try simp only [Act.put, List.setIfInBounds_toArray, List.set_cons_zero, List.set_cons_succ]
      refine tl 3 ?_ ?zy ?_
      case zy => intro w _; go_simp <;> with_reducible rfl
      try simp only [Act.put, List.setIfInBounds_toArray, List.set_cons_zero, List.set_cons_succ]
      refine tl 4 ?_ ?zy ?_
      case zy => intro w _; go_simp <;> with_reducible rfl
      try simp only [Act.put, List.setIfInBounds_toArray, List.set_cons_zero, List.set_cons_succ]
      refine tl 5 ?_ ?zy ?_
      case zy => intro w _; go_simp <;> with_reducible rfl
      try simp only [Act.put, List.setIfInBounds_toArray, List.set_cons_zero, List.set_cons_succ]
      refine tl 6 ?_ ?zy ?_
      case zy => intro w _; go_simp <;> with_reducible rfl
      try simp only [Act.put, List.setIfInBounds_toArray, List.set_cons_zero, List.set_cons_succ]
      refine tl 7 ?_ ?zy ?_
      case zy => intro w _; go_simp <;> with_reducible rfl
      try simp only [Act.put, List.setIfInBounds_toArray, List.set_cons_zero, List.set_cons_succ]
      refine tl 8 ?_ ?zy ?_
      case zy => intro w _; go_simp <;> with_reducible rfl
      try simp only [Act.put, List.setIfInBounds_toArray, List.set_cons_zero, List.set_cons_succ]
      refine tl 9 ?_ ?zy ?_
      case zy => intro w _; go_simp <;> with_reducible rfl
      try simp only [Act.put, List.setIfInBounds_toArray, List.set_cons_zero, List.set_cons_succ]
      refine tl 10 ?_ ?zy ?_
      case zy => intro w _; go_simp <;> with_reducible rfl
      try simp only [Act.put, List.setIfInBounds_toArray, List.set_cons_zero, List.set_cons_succ]
      refine tl 11 ?_ ?zy ?_
      case zy => intro w _; go_simp <;> with_reducible rfl
      try simp only [Act.put, List.setIfInBounds_toArray, List.set_cons_zero, List.set_cons_succ]
      refine tl 13 ?_ ?zy ?_
      case zy => intro w _; go_simp <;> with_reducible rfl
      try simp only [Act.put, List.setIfInBounds_toArray, List.set_cons_zero, List.set_cons_succ]
      refine tl 14 ?_ ?zy ?_
      case zy => intro w _; go_simp <;> with_reducible rfl
      try simp only [Act.put, List.setIfInBounds_toArray, List.set_cons_zero, List.set_cons_succ]
      refine tl 15 ?_ ?zy ?_
      case zy => intro w _; go_simp <;> with_reducible rfl
      try simp only [Act.put, List.setIfInBounds_toArray, List.set_cons_zero, List.set_cons_succ]
      refine wpAnyH_ready (rs := [12]) (by kernel_rfl) (by simp) ?_
      refine ready_lit (i := 12) rfl (fun K hK => ?_)
      go_simp
      refine (HDG.out w1.drew (LexEnv.carry HE1.out ⟨rfl, rfl, rfl, Nat.le_refl _, fun _ _ => rfl⟩)).mono ?_
      rintro e w2 ⟨rfl, hb2⟩
      refine hK.out _ _ trivial (fun _ => ?_)
      clear hK K
      try simp only [Act.put, List.setIfInBounds_toArray, List.set_cons_zero, List.set_cons_succ]
      refine tl 16 ?_ ?zy ?_
      case zy => intro w _; go_simp <;> with_reducible rfl
      try simp only [Act.put, List.setIfInBounds_toArray, List.set_cons_zero, List.set_cons_succ]
      refine tl 17 ?_ ?zy ?_
      case zy => intro w _; go_simp <;> with_reducible rfl
      try simp only [Act.put, List.setIfInBounds_toArray, List.set_cons_zero, List.set_cons_succ]
      refine wpAnyH_done (by kernel_rfl) ?_ _
      refine NoPanic.normal ?_
      have hb3 : Below w1.heap.size w1 w2 := ⟨hb2.os, hb2.tape, hb2.output, hb2.size, hb2.block⟩
      have hby := (hb3.block w.heap.size (lt_of_block HBX.out)).trans HBX.out
      have r0 := obj_cell hby 0; have q0 := obj_free hby 0
      have r1 := obj_cell hby 1; have q1 := obj_free hby 1
      have r2 := obj_cell hby 2; have q2 := obj_free hby 2
      have r3 := obj_cell hby 3; have q3 := obj_free hby 3
      have r4 := obj_cell hby 4; have q4 := obj_free hby 4
      have HB2 := Lib.hid (HB1.out.trans (hb3.mono HB1.out.size))
      clear hb2 hb3 hby
      go_wp2
      rw [HF.out]
      refine bodyPost_ret (v := oneV ((⟨2, [], v, true, 0⟩, sz))) ?_ rfl ⟨rfl, (box_below (HB2.out) (Nat.le_refl _) _ _ _ _ _)⟩
      simp only [results, HRS.out, oneV, tkV]
      go_simp
      try rfl
     ·have HF : Hid (numR t = (tk0, 0)) := Lib.hid (by rw [HNU.out, HBA.out, decide_eq_true hdt, if_pos rfl])
      obtain ⟨sd, hsd⟩ : ∃ sd, sd = strOf (digitsT v true) := ⟨_, rfl⟩
      rw [← hsd] at HDG
      have hne2 : (sd.toList == st.toList) = false := by rw [hsd, HST.out, strOf_beq]; exact decide_eq_false hdt
      have hne : ¬ sd.toList = st.toList := fun e => by rw [e, beq_self_eq_true] at hne2; cases hne2
      clear hdt hsd
      go_enter Tryz.func106, Tryz.ntmps106
      go_wp2_with (first
       | (go_at_call 175; refine (HCP.out _).mono ?_; rintro e w2 ⟨rfl, rfl⟩)
       | (go_at_call 173; refine (HRN.out _).mono ?_; rintro e w2 ⟨rfl, rfl⟩)
       | (go_at_call 176; refine (HPU.out _).mono ?_; rintro e w1 ⟨rfl, hb1⟩; have hbx := (hb1.block w.heap.size (by simp)).trans (heap_alloc_new w (.cells #[.int .i64 0, .string ⟨#[]⟩, .int .u64 0, .bool false, .int .i64 0] 86)); have r0 := obj_cell hbx 0; have q0 := obj_free hbx 0; have r1 := obj_cell hbx 1; have q1 := obj_free hbx 1; have r2 := obj_cell hbx 2; have q2 := obj_free hbx 2; have r3 := obj_cell hbx 3; have q3 := obj_free hbx 3; have r4 := obj_cell hbx 4; have q4 := obj_free hbx 4; have HBX := Lib.hid hbx; have HB1 := Lib.hid (HB0.out.trans (hb1.mono HB0.out.size)); have HE1 := Lib.hid (HE0.out.carry hb1); clear hb1 hbx))
      refine wp_region_noPanic ?_
      refine wp_region_held_drew (S := fun _ => True) (by kernel_rfl) trivial (fun _ => ?_)
      refine tl 0 ?_ ?zy ?_
      case zy => intro w _; go_simp <;> with_reducible rfl
      try simp only [Act.put, List.setIfInBounds_toArray, List.set_cons_zero, List.set_cons_succ]
      refine tl 1 ?_ ?zy ?_
      case zy => intro w _; go_simp <;> with_reducible rfl
      try simp only [Act.put, List.setIfInBounds_toArray, List.set_cons_zero, List.set_cons_succ]
      refine tl 2 ?_ ?zy ?_
      case zy => intro w _; go_simp <;> with_reducible rfl
      try simp only [Act.put, List.setIfInBounds_toArray, List.set_cons_zero, List.set_cons_succ]
      refine tl 3 ?_ ?zy ?_
      case zy => intro w _; go_simp <;> with_reducible rfl
      try simp only [Act.put, List.setIfInBounds_toArray, List.set_cons_zero, List.set_cons_succ]
      refine tl 4 ?_ ?zy ?_
      case zy => intro w _; go_simp <;> with_reducible rfl
      try simp only [Act.put, List.setIfInBounds_toArray, List.set_cons_zero, List.set_cons_succ]
      refine tl 5 ?_ ?zy ?_
      case zy => intro w _; go_simp <;> with_reducible rfl
      try simp only [Act.put, List.setIfInBounds_toArray, List.set_cons_zero, List.set_cons_succ]
      refine tl 6 ?_ ?zy ?_
      case zy => intro w _; go_simp <;> with_reducible rfl
      try simp only [Act.put, List.setIfInBounds_toArray, List.set_cons_zero, List.set_cons_succ]
      refine tl 7 ?_ ?zy ?_
      case zy => intro w _; go_simp <;> with_reducible rfl
      try simp only [Act.put, List.setIfInBounds_toArray, List.set_cons_zero, List.set_cons_succ]
      refine tl 8 ?_ ?zy ?_
      case zy => intro w _; go_simp <;> with_reducible rfl
      try simp only [Act.put, List.setIfInBounds_toArray, List.set_cons_zero, List.set_cons_succ]
      refine tl 9 ?_ ?zy ?_
      case zy => intro w _; go_simp <;> with_reducible rfl
      try simp only [Act.put, List.setIfInBounds_toArray, List.set_cons_zero, List.set_cons_succ]
      refine tl 10 ?_ ?zy ?_
      case zy => intro w _; go_simp <;> with_reducible rfl
      try simp only [Act.put, List.setIfInBounds_toArray, List.set_cons_zero, List.set_cons_succ]
      refine tl 11 ?_ ?zy ?_
      case zy => intro w _; go_simp <;> with_reducible rfl
      try simp only [Act.put, List.setIfInBounds_toArray, List.set_cons_zero, List.set_cons_succ]
      refine tl 13 ?_ ?zy ?_
      case zy => intro w _; go_simp <;> with_reducible rfl
      try simp only [Act.put, List.setIfInBounds_toArray, List.set_cons_zero, List.set_cons_succ]
      refine tl 14 ?_ ?zy ?_
      case zy => intro w _; go_simp <;> with_reducible rfl
      try simp only [Act.put, List.setIfInBounds_toArray, List.set_cons_zero, List.set_cons_succ]
      refine tl 15 ?_ ?zy ?_
      case zy => intro w _; go_simp <;> with_reducible rfl
      try simp only [Act.put, List.setIfInBounds_toArray, List.set_cons_zero, List.set_cons_succ]
      refine wpAnyH_ready (rs := [12]) (by kernel_rfl) (by simp) ?_
      refine ready_lit (i := 12) rfl (fun K hK => ?_)
      go_simp
      refine (HDG.out w1.drew (LexEnv.carry HE1.out ⟨rfl, rfl, rfl, Nat.le_refl _, fun _ _ => rfl⟩)).mono ?_
      rintro e w2 ⟨rfl, hb2⟩
      refine hK.out _ _ trivial (fun _ => ?_)
      clear hK K
      try simp only [Act.put, List.setIfInBounds_toArray, List.set_cons_zero, List.set_cons_succ]
      refine tl 16 ?_ ?zy ?_
      case zy => intro w _; go_simp <;> with_reducible rfl
      try simp only [Act.put, List.setIfInBounds_toArray, List.set_cons_zero, List.set_cons_succ]
      refine tl 17 ?_ ?zy ?_
      case zy => intro w _; go_simp <;> with_reducible rfl
      try simp only [Act.put, List.setIfInBounds_toArray, List.set_cons_zero, List.set_cons_succ]
      refine wpAnyH_done (by kernel_rfl) ?_ _
      refine NoPanic.normal ?_
      have hb3 : Below w1.heap.size w1 w2 := ⟨hb2.os, hb2.tape, hb2.output, hb2.size, hb2.block⟩
      have hby := (hb3.block w.heap.size (lt_of_block HBX.out)).trans HBX.out
      have r0 := obj_cell hby 0; have q0 := obj_free hby 0
      have r1 := obj_cell hby 1; have q1 := obj_free hby 1
      have r2 := obj_cell hby 2; have q2 := obj_free hby 2
      have r3 := obj_cell hby 3; have q3 := obj_free hby 3
      have r4 := obj_cell hby 4; have q4 := obj_free hby 4
      have HB2 := Lib.hid (HB1.out.trans (hb3.mono HB1.out.size))
      clear hb2 hb3 hby
      go_wp2
      rw [HF.out]
      refine bodyPost_ret (v := oneV (tk0, 0)) ?_ rfl ⟨rfl, (box_below (HB2.out) (Nat.le_refl _) _ _ _ _ _)⟩
      simp only [results, HRS.out, oneV, tkV, tk0]
      go_simp
      try rfl
  | false =>
    rw [Bool.false_and, Bool.or_false] at HBA
    by_cases hdt : digitsT v false = t.take sz
    ·have HF : Hid (numR t = (⟨2, [], v, false, 0⟩, sz)) := Lib.hid (by rw [HNU.out, HBA.out, decide_eq_false (fun h => h hdt), if_neg (by decide)])
     rw [hdt, ← HST.out] at HDG
     clear hdt
     go_enter Tryz.func106, Tryz.ntmps106
     go_wp2_with (first
      | (go_at_call 175; refine (HCP.out _).mono ?_; rintro e w2 ⟨rfl, rfl⟩)
      | (go_at_call 173; refine (HRN.out _).mono ?_; rintro e w2 ⟨rfl, rfl⟩)
      | (go_at_call 176; refine (HPU.out _).mono ?_; rintro e w1 ⟨rfl, hb1⟩; have hbx := (hb1.block w.heap.size (by simp)).trans (heap_alloc_new w (.cells #[.int .i64 0, .string ⟨#[]⟩, .int .u64 0, .bool false, .int .i64 0] 86)); have r0 := obj_cell hbx 0; have q0 := obj_free hbx 0; have r1 := obj_cell hbx 1; have q1 := obj_free hbx 1; have r2 := obj_cell hbx 2; have q2 := obj_free hbx 2; have r3 := obj_cell hbx 3; have q3 := obj_free hbx 3; have r4 := obj_cell hbx 4; have q4 := obj_free hbx 4; have HBX := Lib.hid hbx; have HB1 := Lib.hid (HB0.out.trans (hb1.mono HB0.out.size)); have HE1 := Lib.hid (HE0.out.carry hb1); clear hb1 hbx))
     refine wp_region_noPanic ?_
     refine wp_region_held_drew (S := fun _ => True) (by kernel_rfl) trivial (fun _ => ?_)
     refine tl 0 ?_ ?zy ?_
     case zy => intro w _; go_simp <;> with_reducible rfl
     try simp only [Act.put, List.setIfInBounds_toArray, List.set_cons_zero, List.set_cons_succ]
     refine tl 1 ?_ ?zy ?_
     case zy => intro w _; go_simp <;> with_reducible rfl
     try simp only [Act.put, List.setIfInBounds_toArray, List.set_cons_zero, List.set_cons_succ]
     refine tl 2 ?_ ?zy ?_
     case zy => intro w _; go_simp <;> with_reducible rfl
     try simp only [Act.put, List.setIfInBounds_toArray, List.set_cons_zero, List.set_cons_succ]
     refine tl 3 ?_ ?zy ?_
     case zy => intro w _; go_simp <;> with_reducible rfl
     try simp only [Act.put, List.setIfInBounds_toArray, List.set_cons_zero, List.set_cons_succ]
     refine tl 4 ?_ ?zy ?_
     case zy => intro w _; go_simp <;> with_reducible rfl
     try simp only [Act.put, List.setIfInBounds_toArray, List.set_cons_zero, List.set_cons_succ]
     refine ts 5 ?_
     try simp only [Act.put, List.setIfInBounds_toArray, List.set_cons_zero, List.set_cons_succ]
     refine ts 6 ?_
     try simp only [Act.put, List.setIfInBounds_toArray, List.set_cons_zero, List.set_cons_succ]
     refine tl 7 ?_ ?zy ?_
     case zy => intro w _; go_simp <;> with_reducible rfl
     try simp only [Act.put, List.setIfInBounds_toArray, List.set_cons_zero, List.set_cons_succ]
     refine tl 8 ?_ ?zy ?_
     case zy => intro w _; go_simp <;> with_reducible rfl
     try simp only [Act.put, List.setIfInBounds_toArray, List.set_cons_zero, List.set_cons_succ]
     refine tl 9 ?_ ?zy ?_
     case zy => intro w _; go_simp <;> with_reducible rfl
     try simp only [Act.put, List.setIfInBounds_toArray, List.set_cons_zero, List.set_cons_succ]
     refine tl 10 ?_ ?zy ?_
     case zy => intro w _; go_simp <;> with_reducible rfl
     try simp only [Act.put, List.setIfInBounds_toArray, List.set_cons_zero, List.set_cons_succ]
     refine tl 11 ?_ ?zy ?_
     case zy => intro w _; go_simp <;> with_reducible rfl
     try simp only [Act.put, List.setIfInBounds_toArray, List.set_cons_zero, List.set_cons_succ]
     refine tl 13 ?_ ?zy ?_
     case zy => intro w _; go_simp <;> with_reducible rfl
     try simp only [Act.put, List.setIfInBounds_toArray, List.set_cons_zero, List.set_cons_succ]
     refine tl 14 ?_ ?zy ?_
     case zy => intro w _; go_simp <;> with_reducible rfl
     try simp only [Act.put, List.setIfInBounds_toArray, List.set_cons_zero, List.set_cons_succ]
     refine tl 15 ?_ ?zy ?_
     case zy => intro w _; go_simp <;> with_reducible rfl
     try simp only [Act.put, List.setIfInBounds_toArray, List.set_cons_zero, List.set_cons_succ]
     refine wpAnyH_ready (rs := [12]) (by kernel_rfl) (by simp) ?_
     refine ready_lit (i := 12) rfl (fun K hK => ?_)
     go_simp
     refine (HDG.out w1.drew (LexEnv.carry HE1.out ⟨rfl, rfl, rfl, Nat.le_refl _, fun _ _ => rfl⟩)).mono ?_
     rintro e w2 ⟨rfl, hb2⟩
     refine hK.out _ _ trivial (fun _ => ?_)
     clear hK K
     try simp only [Act.put, List.setIfInBounds_toArray, List.set_cons_zero, List.set_cons_succ]
     refine tl 16 ?_ ?zy ?_
     case zy => intro w _; go_simp <;> with_reducible rfl
     try simp only [Act.put, List.setIfInBounds_toArray, List.set_cons_zero, List.set_cons_succ]
     refine tl 17 ?_ ?zy ?_
     case zy => intro w _; go_simp <;> with_reducible rfl
     try simp only [Act.put, List.setIfInBounds_toArray, List.set_cons_zero, List.set_cons_succ]
     refine wpAnyH_done (by kernel_rfl) ?_ _
     refine NoPanic.normal ?_
     have hb3 : Below w1.heap.size w1 w2 := ⟨hb2.os, hb2.tape, hb2.output, hb2.size, hb2.block⟩
     have hby := (hb3.block w.heap.size (lt_of_block HBX.out)).trans HBX.out
     have r0 := obj_cell hby 0; have q0 := obj_free hby 0
     have r1 := obj_cell hby 1; have q1 := obj_free hby 1
     have r2 := obj_cell hby 2; have q2 := obj_free hby 2
     have r3 := obj_cell hby 3; have q3 := obj_free hby 3
     have r4 := obj_cell hby 4; have q4 := obj_free hby 4
     have HB2 := Lib.hid (HB1.out.trans (hb3.mono HB1.out.size))
     clear hb2 hb3 hby
     go_wp2
     rw [HF.out]
     refine bodyPost_ret (v := oneV ((⟨2, [], v, false, 0⟩, sz))) ?_ rfl ⟨rfl, (box_below (HB2.out) (Nat.le_refl _) _ _ _ _ _)⟩
     simp only [results, HRS.out, oneV, tkV]
     go_simp
     try rfl
    ·have HF : Hid (numR t = (tk0, 0)) := Lib.hid (by rw [HNU.out, HBA.out, decide_eq_true hdt, if_pos rfl])
     obtain ⟨sd, hsd⟩ : ∃ sd, sd = strOf (digitsT v false) := ⟨_, rfl⟩
     rw [← hsd] at HDG
     have hne2 : (sd.toList == st.toList) = false := by rw [hsd, HST.out, strOf_beq]; exact decide_eq_false hdt
     have hne : ¬ sd.toList = st.toList := fun e => by rw [e, beq_self_eq_true] at hne2; cases hne2
     clear hdt hsd
     go_enter Tryz.func106, Tryz.ntmps106
     go_wp2_with (first
      | (go_at_call 175; refine (HCP.out _).mono ?_; rintro e w2 ⟨rfl, rfl⟩)
      | (go_at_call 173; refine (HRN.out _).mono ?_; rintro e w2 ⟨rfl, rfl⟩)
      | (go_at_call 176; refine (HPU.out _).mono ?_; rintro e w1 ⟨rfl, hb1⟩; have hbx := (hb1.block w.heap.size (by simp)).trans (heap_alloc_new w (.cells #[.int .i64 0, .string ⟨#[]⟩, .int .u64 0, .bool false, .int .i64 0] 86)); have r0 := obj_cell hbx 0; have q0 := obj_free hbx 0; have r1 := obj_cell hbx 1; have q1 := obj_free hbx 1; have r2 := obj_cell hbx 2; have q2 := obj_free hbx 2; have r3 := obj_cell hbx 3; have q3 := obj_free hbx 3; have r4 := obj_cell hbx 4; have q4 := obj_free hbx 4; have HBX := Lib.hid hbx; have HB1 := Lib.hid (HB0.out.trans (hb1.mono HB0.out.size)); have HE1 := Lib.hid (HE0.out.carry hb1); clear hb1 hbx))
     refine wp_region_noPanic ?_
     refine wp_region_held_drew (S := fun _ => True) (by kernel_rfl) trivial (fun _ => ?_)
     refine tl 0 ?_ ?zy ?_
     case zy => intro w _; go_simp <;> with_reducible rfl
     try simp only [Act.put, List.setIfInBounds_toArray, List.set_cons_zero, List.set_cons_succ]
     refine tl 1 ?_ ?zy ?_
     case zy => intro w _; go_simp <;> with_reducible rfl
     try simp only [Act.put, List.setIfInBounds_toArray, List.set_cons_zero, List.set_cons_succ]
     refine tl 2 ?_ ?zy ?_
     case zy => intro w _; go_simp <;> with_reducible rfl
     try simp only [Act.put, List.setIfInBounds_toArray, List.set_cons_zero, List.set_cons_succ]
     refine tl 3 ?_ ?zy ?_
     case zy => intro w _; go_simp <;> with_reducible rfl
     try simp only [Act.put, List.setIfInBounds_toArray, List.set_cons_zero, List.set_cons_succ]
     refine tl 4 ?_ ?zy ?_
     case zy => intro w _; go_simp <;> with_reducible rfl
     try simp only [Act.put, List.setIfInBounds_toArray, List.set_cons_zero, List.set_cons_succ]
     refine ts 5 ?_
     try simp only [Act.put, List.setIfInBounds_toArray, List.set_cons_zero, List.set_cons_succ]
     refine ts 6 ?_
     try simp only [Act.put, List.setIfInBounds_toArray, List.set_cons_zero, List.set_cons_succ]
     refine tl 7 ?_ ?zy ?_
     case zy => intro w _; go_simp <;> with_reducible rfl
     try simp only [Act.put, List.setIfInBounds_toArray, List.set_cons_zero, List.set_cons_succ]
     refine tl 8 ?_ ?zy ?_
     case zy => intro w _; go_simp <;> with_reducible rfl
     try simp only [Act.put, List.setIfInBounds_toArray, List.set_cons_zero, List.set_cons_succ]
     refine tl 9 ?_ ?zy ?_
     case zy => intro w _; go_simp <;> with_reducible rfl
     try simp only [Act.put, List.setIfInBounds_toArray, List.set_cons_zero, List.set_cons_succ]
     refine tl 10 ?_ ?zy ?_
     case zy => intro w _; go_simp <;> with_reducible rfl
     try simp only [Act.put, List.setIfInBounds_toArray, List.set_cons_zero, List.set_cons_succ]
     refine tl 11 ?_ ?zy ?_
     case zy => intro w _; go_simp <;> with_reducible rfl
     try simp only [Act.put, List.setIfInBounds_toArray, List.set_cons_zero, List.set_cons_succ]
     refine tl 13 ?_ ?zy ?_
     case zy => intro w _; go_simp <;> with_reducible rfl
     try simp only [Act.put, List.setIfInBounds_toArray, List.set_cons_zero, List.set_cons_succ]
     refine tl 14 ?_ ?zy ?_
     case zy => intro w _; go_simp <;> with_reducible rfl
     try simp only [Act.put, List.setIfInBounds_toArray, List.set_cons_zero, List.set_cons_succ]
     refine tl 15 ?_ ?zy ?_
     case zy => intro w _; go_simp <;> with_reducible rfl
     try simp only [Act.put, List.setIfInBounds_toArray, List.set_cons_zero, List.set_cons_succ]
     refine wpAnyH_ready (rs := [12]) (by kernel_rfl) (by simp) ?_
     refine ready_lit (i := 12) rfl (fun K hK => ?_)
     go_simp
     refine (HDG.out w1.drew (LexEnv.carry HE1.out ⟨rfl, rfl, rfl, Nat.le_refl _, fun _ _ => rfl⟩)).mono ?_
     rintro e w2 ⟨rfl, hb2⟩
     refine hK.out _ _ trivial (fun _ => ?_)
     clear hK K
     try simp only [Act.put, List.setIfInBounds_toArray, List.set_cons_zero, List.set_cons_succ]
     refine tl 16 ?_ ?zy ?_
     case zy => intro w _; go_simp <;> with_reducible rfl
     try simp only [Act.put, List.setIfInBounds_toArray, List.set_cons_zero, List.set_cons_succ]
     refine tl 17 ?_ ?zy ?_
     case zy => intro w _; go_simp <;> with_reducible rfl
     try simp only [Act.put, List.setIfInBounds_toArray, List.set_cons_zero, List.set_cons_succ]
     refine wpAnyH_done (by kernel_rfl) ?_ _
     refine NoPanic.normal ?_
     have hb3 : Below w1.heap.size w1 w2 := ⟨hb2.os, hb2.tape, hb2.output, hb2.size, hb2.block⟩
     have hby := (hb3.block w.heap.size (lt_of_block HBX.out)).trans HBX.out
     have r0 := obj_cell hby 0; have q0 := obj_free hby 0
     have r1 := obj_cell hby 1; have q1 := obj_free hby 1
     have r2 := obj_cell hby 2; have q2 := obj_free hby 2
     have r3 := obj_cell hby 3; have q3 := obj_free hby 3
     have r4 := obj_cell hby 4; have q4 := obj_free hby 4
     have HB2 := Lib.hid (HB1.out.trans (hb3.mono HB1.out.size))
     clear hb2 hb3 hby
     go_wp2
     rw [HF.out]
     refine bodyPost_ret (v := oneV (tk0, 0)) ?_ rfl ⟨rfl, (box_below (HB2.out) (Nat.le_refl _) _ _ _ _ _)⟩
     simp only [results, HRS.out, oneV, tkV, tk0]
     go_simp
     try rfl
 ·have hbd : numBad t = true := by
   rw [hbad0]
   by_cases h1 : numDs t = []
   ·rw [decide_eq_true h1]; rfl
   ·rw [decide_eq_true (Nat.not_lt.mp (fun h => hok ⟨h1, h⟩) : 18446744073709551616 ≤ numV t), Bool.true_or, Bool.or_true]
  have HF : Hid (numR t = (tk0, 0)) := Lib.hid (by rw [hnu, hbd, if_pos rfl])
  have hnk : ∀ u, Lib.parseUintB 64 (numDs t) ≠ .ok u := by
   intro u hu
   rw [hpn] at hu
   by_cases h1 : numDs t = []
   ·rw [if_pos h1] at hu; exact pu_none u hu
   ·rw [if_neg h1, if_neg (fun h => hok ⟨h1, h⟩)] at hu; cases hu
  have HPU : Hid (∀ w, LexEnv w → Calls Tryz.prog 176 #[.string sg, .int .i64 10, .int .i64 64] w fun e w' => ∃ (x : Int) (N : Nat), e = .returned (.tuple #[.int .u64 x, .iface 237 (.pointer (some ⟨N, 0, none⟩))]) ∧ Below w.heap.size w w') := Lib.hid (fun w e => by rw [hsg]; exact pu_bad (numDs t) (by omega) hnk w e)
  clear hpn hbd hnk hnu hbad0 hstr hsg hbh hng hszz hct hfr hn hok
  go_enter Tryz.func106, Tryz.ntmps106
  go_wp2_with (first
   | (go_at_call 175; refine (HCP.out _).mono ?_; rintro e w2 ⟨rfl, rfl⟩)
   | (go_at_call 173; refine (HRN.out _).mono ?_; rintro e w2 ⟨rfl, rfl⟩)
   | (go_at_call 176; refine (HPU.out _ HE0.out).mono ?_; rintro e w1 ⟨x, N, rfl, hb1⟩; have hbx := (hb1.block w.heap.size (by simp)).trans (heap_alloc_new w (.cells #[.int .i64 0, .string ⟨#[]⟩, .int .u64 0, .bool false, .int .i64 0] 86)); have r0 := obj_cell hbx 0; have q0 := obj_free hbx 0; have r1 := obj_cell hbx 1; have q1 := obj_free hbx 1; have r2 := obj_cell hbx 2; have q2 := obj_free hbx 2; have r3 := obj_cell hbx 3; have q3 := obj_free hbx 3; have r4 := obj_cell hbx 4; have q4 := obj_free hbx 4; have HBX := Lib.hid hbx; have HB1 := Lib.hid (HB0.out.trans (hb1.mono HB0.out.size)); have HE1 := Lib.hid (HE0.out.carry hb1); clear hb1 hbx))
  refine wp_region_noPanic ?_
  refine wp_region_held_drew (S := fun _ => True) (by kernel_rfl) trivial (fun _ => ?_)
  refine tl 0 ?_ ?zy ?_
  case zy => intro w _; go_simp <;> with_reducible rfl
  try simp only [Act.put, List.setIfInBounds_toArray, List.set_cons_zero, List.set_cons_succ]
  refine tl 1 ?_ ?zy ?_
  case zy => intro w _; go_simp <;> with_reducible rfl
  try simp only [Act.put, List.setIfInBounds_toArray, List.set_cons_zero, List.set_cons_succ]
  refine tl 2 ?_ ?zy ?_
  case zy => intro w _; go_simp <;> with_reducible rfl
  try simp only [Act.put, List.setIfInBounds_toArray, List.set_cons_zero, List.set_cons_succ]
  refine ts 3 ?_
  try simp only [Act.put, List.setIfInBounds_toArray, List.set_cons_zero, List.set_cons_succ]
  refine ts 4 ?_
  try simp only [Act.put, List.setIfInBounds_toArray, List.set_cons_zero, List.set_cons_succ]
  refine ts 5 ?_
  try simp only [Act.put, List.setIfInBounds_toArray, List.set_cons_zero, List.set_cons_succ]
  refine ts 6 ?_
  try simp only [Act.put, List.setIfInBounds_toArray, List.set_cons_zero, List.set_cons_succ]
  refine ts 7 ?_
  try simp only [Act.put, List.setIfInBounds_toArray, List.set_cons_zero, List.set_cons_succ]
  refine tl 8 ?_ ?zy ?_
  case zy => intro w _; go_simp <;> with_reducible rfl
  try simp only [Act.put, List.setIfInBounds_toArray, List.set_cons_zero, List.set_cons_succ]
  refine tl 9 ?_ ?zy ?_
  case zy => intro w _; go_simp <;> with_reducible rfl
  try simp only [Act.put, List.setIfInBounds_toArray, List.set_cons_zero, List.set_cons_succ]
  refine ts 10 ?_
  try simp only [Act.put, List.setIfInBounds_toArray, List.set_cons_zero, List.set_cons_succ]
  refine ts 11 ?_
  try simp only [Act.put, List.setIfInBounds_toArray, List.set_cons_zero, List.set_cons_succ]
  refine ts 12 ?_
  try simp only [Act.put, List.setIfInBounds_toArray, List.set_cons_zero, List.set_cons_succ]
  refine ts 13 ?_
  try simp only [Act.put, List.setIfInBounds_toArray, List.set_cons_zero, List.set_cons_succ]
  refine ts 14 ?_
  try simp only [Act.put, List.setIfInBounds_toArray, List.set_cons_zero, List.set_cons_succ]
  refine ts 15 ?_
  try simp only [Act.put, List.setIfInBounds_toArray, List.set_cons_zero, List.set_cons_succ]
  refine ts 16 ?_
  try simp only [Act.put, List.setIfInBounds_toArray, List.set_cons_zero, List.set_cons_succ]
  refine tl 17 ?_ ?zy ?_
  case zy => intro w _; go_simp <;> with_reducible rfl
  try simp only [Act.put, List.setIfInBounds_toArray, List.set_cons_zero, List.set_cons_succ]
  refine wpAnyH_done (by kernel_rfl) ?_ _
  refine NoPanic.normal ?_
  go_wp2
  rw [HF.out]
  refine bodyPost_ret (v := oneV (tk0, 0)) ?_ rfl ⟨rfl, (box_below (HB1.out.drew) (Nat.le_refl _) _ _ _ _ _)⟩
  simp only [results, HRS.out, oneV, tkV, tk0]
  go_simp
  try rfl
end Go.Proofs.YtcjjphioeneiiaaGreatDoor

/- The program's layer 10: the token that a text begins with. Conditions: LexEnv; those that each theorem names. -/
namespace Go.Proofs.YtcjjphioeneiiaaGreatDoor
open Go.RowKit
set_option linter.unusedVariables false
set_option maxRecDepth 100000

theorem ibm_any (c : UInt8) (w : World) : Calls Tryz.prog 102 #[.string ⟨#[123, 125, 40, 41, 61, 44, 46, 59]⟩, .int .u8 (c.toNat : Int)] w fun e w' => e = .returned (.int .i64 (Lib.indexByte [123, 125, 40, 41, 61, 44, 46, 59] (c.toNat : Int).toNat.toUInt8)) ∧ w' = w := ib_any ⟨#[123, 125, 40, 41, 61, 44, 46, 59]⟩ (c.toNat : Int) w

set_option maxHeartbeats 8000000 in
theorem xfirst_any (t : List UInt8) (c : UInt8) (w : World) (env : LexEnv w) (hl : t.length ≤ 10000) (h0 : t[0]? = some c) :
 Calls Tryz.prog 53 #[.string (strOf t)] w fun e w' => e = .returned (oneV (oneT t)) ∧ Below w.heap.size w w' := by
 have hres : Tryz.f53.results = #[.cell 2 86, .tmp 3] := by kernel_rfl
 have HRS := Lib.hid hres
 have htc : ∃ r, t = c :: r := by
  cases t with
  | nil => simp at h0
  | cons d q => simp at h0; subst h0; exact ⟨q, rfl⟩
 have HB0 : Hid (Below w.heap.size w (w.alloc (.cells #[.int .i64 0, .string ⟨#[]⟩, .int .u64 0, .bool false, .int .i64 0] 86))) := Lib.hid ((Below.refl _ w).alloc (Nat.le_refl _) _)
 have HE0 := Lib.hid (env.carry HB0.out)
 have HLA := Lib.hid (fun u => xletter_any c u)
 have HDA := Lib.hid (fun u => xdigit_any c u)
 obtain ⟨n, hn⟩ : ∃ n, n = t.length := ⟨_, rfl⟩
 obtain ⟨str, hstr⟩ : ∃ str, str = strOf t := ⟨_, rfl⟩
 have hsz : str.size = n := by rw [hstr, str_size, hn]
 have hn1 : 1 ≤ n := by have := (List.getElem?_eq_some_iff.mp h0).1; omega
 have hs0 : 0 < str.size := by omega
 have EC : str[0]'hs0 = c := by
  obtain ⟨q1, q2⟩ := List.getElem?_eq_some_iff.mp h0
  have := hstr
  subst this
  exact q2
 have gp : (0 : Int) < (n : Int) := by omega
 have g1 : (1 : Int) ≤ (n : Int) := by omega
 cases hla : letterB c with
 | true =>
   rw [hla] at HLA
   have HC : Hid (∀ u, LexEnv u → Calls Tryz.prog 104 #[.string str] u fun e w' => e = .returned (oneV (oneT t)) ∧ Below u.heap.size u w') := Lib.hid (fun u e => by
    obtain ⟨r, hr⟩ := htc
    have h := xname_any t u (by omega)
    have h2 := one_name (r := r) hla
    rw [← hr] at h2
    rw [hstr, h2]; exact h)
   rw [← hstr]
   clear hla htc hn hstr h0 env hres
   obtain ⟨R, hR⟩ : ∃ R, R = oneT t := ⟨_, rfl⟩
   rw [← hR] at HC ⊢
   obtain ⟨⟨kd, ss, nn, ng, ps⟩, q⟩ := R
   unfold oneV tkV at HC
   dsimp only at HC
   clear hR
   go_enter Tryz.func53, Tryz.ntmps53
   go_wp2_with (first
    | (go_at_call 103; (try rw [EC]); refine (HLA.out _).mono ?_; rintro e w2 ⟨rfl, rfl⟩)
    | (go_at_call 104; refine (HC.out _ HE0.out).mono ?_; rintro e w1 ⟨rfl, hb1⟩; have hbx := (hb1.block w.heap.size (by simp)).trans (heap_alloc_new w (.cells #[.int .i64 0, .string ⟨#[]⟩, .int .u64 0, .bool false, .int .i64 0] 86)); have r0 := obj_cell hbx 0; have q0 := obj_free hbx 0; have r1 := obj_cell hbx 1; have q1 := obj_free hbx 1; have r2 := obj_cell hbx 2; have q2 := obj_free hbx 2; have r3 := obj_cell hbx 3; have q3 := obj_free hbx 3; have r4 := obj_cell hbx 4; have q4 := obj_free hbx 4; have HB1 := Lib.hid (HB0.out.trans (hb1.mono HB0.out.size)); clear hb1 hbx))
   refine bodyPost_ret (v := oneV (⟨kd, ss, nn, ng, ps⟩, q)) ?_ rfl ⟨rfl, box_below HB1.out (Nat.le_refl _) _ _ _ _ _⟩
   simp only [results, HRS.out, oneV, tkV]
   go_simp
   try rfl
 | false =>
   rw [hla] at HLA
   cases hda : digitB c with
   | true =>
     rw [hda] at HDA
     have HC : Hid (∀ u, LexEnv u → Calls Tryz.prog 106 #[.string str] u fun e w' => e = .returned (oneV (oneT t)) ∧ Below u.heap.size u w') := Lib.hid (fun u e => by
      obtain ⟨r, hr⟩ := htc
      have h := xnumber_any t u e hl
      have h2 := one_num (r := r) hla (.inl hda)
      rw [← hr] at h2
      rw [hstr, h2]; exact h)
     rw [← hstr]
     clear hla hda htc hn hstr h0 env hres
     obtain ⟨R, hR⟩ : ∃ R, R = oneT t := ⟨_, rfl⟩
     rw [← hR] at HC ⊢
     obtain ⟨⟨kd, ss, nn, ng, ps⟩, q⟩ := R
     unfold oneV tkV at HC
     dsimp only at HC
     clear hR
     go_enter Tryz.func53, Tryz.ntmps53
     go_wp2_with (first
      | (go_at_call 103; (try rw [EC]); refine (HLA.out _).mono ?_; rintro e w2 ⟨rfl, rfl⟩)
      | (go_at_call 105; (try rw [EC]); refine (HDA.out _).mono ?_; rintro e w2 ⟨rfl, rfl⟩)
      | (go_at_call 106; refine (HC.out _ HE0.out).mono ?_; rintro e w1 ⟨rfl, hb1⟩; have hbx := (hb1.block w.heap.size (by simp)).trans (heap_alloc_new w (.cells #[.int .i64 0, .string ⟨#[]⟩, .int .u64 0, .bool false, .int .i64 0] 86)); have r0 := obj_cell hbx 0; have q0 := obj_free hbx 0; have r1 := obj_cell hbx 1; have q1 := obj_free hbx 1; have r2 := obj_cell hbx 2; have q2 := obj_free hbx 2; have r3 := obj_cell hbx 3; have q3 := obj_free hbx 3; have r4 := obj_cell hbx 4; have q4 := obj_free hbx 4; have HB1 := Lib.hid (HB0.out.trans (hb1.mono HB0.out.size)); clear hb1 hbx))
     refine bodyPost_ret (v := oneV (⟨kd, ss, nn, ng, ps⟩, q)) ?_ rfl ⟨rfl, box_below HB1.out (Nat.le_refl _) _ _ _ _ _⟩
     simp only [results, HRS.out, oneV, tkV]
     go_simp
     try rfl
   | false =>
     rw [hda] at HDA
     by_cases h45 : c.toNat = 45
     ·have HC : Hid (∀ u, LexEnv u → Calls Tryz.prog 106 #[.string str] u fun e w' => e = .returned (oneV (oneT t)) ∧ Below u.heap.size u w') := Lib.hid (fun u e => by
       obtain ⟨r, hr⟩ := htc
       have h := xnumber_any t u e hl
       have h2 := one_num (r := r) hla (.inr h45)
       rw [← hr] at h2
       rw [hstr, h2]; exact h)
      have e45 : ((c.toNat : Int) == 45) = true := by rw [h45]; rfl
      have d45 : ((c.toNat : Int) == (((({ data := #[45] } : ByteArray)[0]'(by decide)).toNat : Nat) : Int)) = true := e45
      rw [← hstr]
      clear hla hda htc hn hstr h0 env hres h45
      obtain ⟨R, hR⟩ : ∃ R, R = oneT t := ⟨_, rfl⟩
      rw [← hR] at HC ⊢
      obtain ⟨⟨kd, ss, nn, ng, ps⟩, q⟩ := R
      unfold oneV tkV at HC
      dsimp only at HC
      clear hR
      go_enter Tryz.func53, Tryz.ntmps53
      go_wp2_with (first
       | (go_at_call 103; (try rw [EC]); refine (HLA.out _).mono ?_; rintro e w2 ⟨rfl, rfl⟩)
       | (go_at_call 105; (try rw [EC]); refine (HDA.out _).mono ?_; rintro e w2 ⟨rfl, rfl⟩)
       | (go_at_call 106; refine (HC.out _ HE0.out).mono ?_; rintro e w1 ⟨rfl, hb1⟩; have hbx := (hb1.block w.heap.size (by simp)).trans (heap_alloc_new w (.cells #[.int .i64 0, .string ⟨#[]⟩, .int .u64 0, .bool false, .int .i64 0] 86)); have r0 := obj_cell hbx 0; have q0 := obj_free hbx 0; have r1 := obj_cell hbx 1; have q1 := obj_free hbx 1; have r2 := obj_cell hbx 2; have q2 := obj_free hbx 2; have r3 := obj_cell hbx 3; have q3 := obj_free hbx 3; have r4 := obj_cell hbx 4; have q4 := obj_free hbx 4; have HB1 := Lib.hid (HB0.out.trans (hb1.mono HB0.out.size)); clear hb1 hbx))
      refine bodyPost_ret (v := oneV (⟨kd, ss, nn, ng, ps⟩, q)) ?_ rfl ⟨rfl, box_below HB1.out (Nat.le_refl _) _ _ _ _ _⟩
      simp only [results, HRS.out, oneV, tkV]
      go_simp
      try rfl
     ·have e45 : ((c.toNat : Int) == 45) = false := beq_false_of_ne (by omega)
      have d45 : ((c.toNat : Int) == (((({ data := #[45] } : ByteArray)[0]'(by decide)).toNat : Nat) : Int)) = false := e45
      have f45 : ¬ (c.toNat : Int) = 45 := by omega
      by_cases h39 : c.toNat = 39
      ·have HC : Hid (∀ u, LexEnv u → Calls Tryz.prog 107 #[.string str] u fun e w' => e = .returned (oneV (oneT t)) ∧ Below u.heap.size u w') := Lib.hid (fun u e => by
        obtain ⟨r, hr⟩ := htc
        have h := xtext_any t c u e hl h0 h39
        have h2 := one_txt (r := r) h39
        rw [← hr] at h2
        rw [hstr, h2]; exact h)
       have e39 : ((c.toNat : Int) == 39) = true := by rw [h39]; rfl
       have d39 : ((c.toNat : Int) == (((({ data := #[39] } : ByteArray)[0]'(by decide)).toNat : Nat) : Int)) = true := e39
       rw [← hstr]
       clear hla hda htc hn hstr h0 env hres h45 h39
       obtain ⟨R, hR⟩ : ∃ R, R = oneT t := ⟨_, rfl⟩
       rw [← hR] at HC ⊢
       obtain ⟨⟨kd, ss, nn, ng, ps⟩, q⟩ := R
       unfold oneV tkV at HC
       dsimp only at HC
       clear hR
       go_enter Tryz.func53, Tryz.ntmps53
       go_wp2_with (first
        | (go_at_call 103; (try rw [EC]); refine (HLA.out _).mono ?_; rintro e w2 ⟨rfl, rfl⟩)
        | (go_at_call 105; (try rw [EC]); refine (HDA.out _).mono ?_; rintro e w2 ⟨rfl, rfl⟩)
        | (go_at_call 107; refine (HC.out _ HE0.out).mono ?_; rintro e w1 ⟨rfl, hb1⟩; have hbx := (hb1.block w.heap.size (by simp)).trans (heap_alloc_new w (.cells #[.int .i64 0, .string ⟨#[]⟩, .int .u64 0, .bool false, .int .i64 0] 86)); have r0 := obj_cell hbx 0; have q0 := obj_free hbx 0; have r1 := obj_cell hbx 1; have q1 := obj_free hbx 1; have r2 := obj_cell hbx 2; have q2 := obj_free hbx 2; have r3 := obj_cell hbx 3; have q3 := obj_free hbx 3; have r4 := obj_cell hbx 4; have q4 := obj_free hbx 4; have HB1 := Lib.hid (HB0.out.trans (hb1.mono HB0.out.size)); clear hb1 hbx))
       refine bodyPost_ret (v := oneV (⟨kd, ss, nn, ng, ps⟩, q)) ?_ rfl ⟨rfl, box_below HB1.out (Nat.le_refl _) _ _ _ _ _⟩
       simp only [results, HRS.out, oneV, tkV]
       go_simp
       try rfl
      ·have e39 : ((c.toNat : Int) == 39) = false := beq_false_of_ne (by omega)
       have d39 : ((c.toNat : Int) == (((({ data := #[39] } : ByteArray)[0]'(by decide)).toNat : Nat) : Int)) = false := e39
       have f39 : ¬ (c.toNat : Int) = 39 := by omega
       have HIB := Lib.hid (fun u => ibm_any c u)
       have hmi := mark_index c
       obtain ⟨ix, hix⟩ : ∃ ix, ix = Lib.indexByte [123, 125, 40, 41, 61, 44, 46, 59] (c.toNat : Int).toNat.toUInt8 := ⟨_, rfl⟩
       rw [← hix] at HIB hmi
       cases hmk : markB c with
       | true =>
         rw [hmk] at hmi
         have hge : 0 ≤ ix := of_decide_eq_true hmi
         have HO : Hid (oneT t = (⟨4, [c], 0, false, 0⟩, 1)) := Lib.hid (by
          obtain ⟨r, hr⟩ := htc
          rw [hr]; exact one_mark hmk)
         obtain ⟨sc, hsc⟩ : ∃ sc, sc = strOf [c] := ⟨_, rfl⟩
         have hex : str.extract 0 1 = sc := by
          obtain ⟨r, hr⟩ := htc
          rw [hsc, hstr, strOf_extract, hr]; rfl
         have HC := Lib.hid (fun u => cl_any sc u (by rw [hsc, str_size]; simp))
         have HSC := Lib.hid hsc
         rw [← hstr]
         clear hla hda htc hn hstr h0 env hres h45 h39 hmk hix hsc
         go_enter Tryz.func53, Tryz.ntmps53
         go_wp2_with (first
          | (go_at_call 103; (try rw [EC]); refine (HLA.out _).mono ?_; rintro e w2 ⟨rfl, rfl⟩)
          | (go_at_call 105; (try rw [EC]); refine (HDA.out _).mono ?_; rintro e w2 ⟨rfl, rfl⟩)
          | (go_at_call 102; (try rw [EC]); refine (HIB.out _).mono ?_; rintro e w2 ⟨rfl, rfl⟩)
          | (go_at_call 108; refine (HC.out _).mono ?_; rintro e w1 ⟨rfl, hb1⟩; have hbx := (hb1.block w.heap.size (by simp)).trans (heap_alloc_new w (.cells #[.int .i64 0, .string ⟨#[]⟩, .int .u64 0, .bool false, .int .i64 0] 86)); have r0 := obj_cell hbx 0; have q0 := obj_free hbx 0; have r1 := obj_cell hbx 1; have q1 := obj_free hbx 1; have r2 := obj_cell hbx 2; have q2 := obj_free hbx 2; have r3 := obj_cell hbx 3; have q3 := obj_free hbx 3; have r4 := obj_cell hbx 4; have q4 := obj_free hbx 4; have HB1 := Lib.hid (HB0.out.trans (hb1.mono HB0.out.size)); clear hb1 hbx))
         rw [HO.out]
         refine bodyPost_ret (v := oneV (⟨4, [c], 0, false, 0⟩, 1)) ?_ rfl ⟨rfl, box_below HB1.out (Nat.le_refl _) _ _ _ _ _⟩
         simp only [results, HRS.out, oneV, tkV, ← HSC.out]
         go_simp
         try rfl
       | false =>
         rw [hmk] at hmi
         have hge : ¬ 0 ≤ ix := of_decide_eq_false hmi
         have HO : Hid (oneT t = (tk0, 0)) := Lib.hid (by
          obtain ⟨r, hr⟩ := htc
          rw [hr]; exact one_none hla hda h45 h39 hmk)
         rw [← hstr]
         clear hla hda htc hn hstr h0 env hres h45 h39 hmk hix
         go_enter Tryz.func53, Tryz.ntmps53
         go_wp2_with (first
          | (go_at_call 103; (try rw [EC]); refine (HLA.out _).mono ?_; rintro e w2 ⟨rfl, rfl⟩)
          | (go_at_call 105; (try rw [EC]); refine (HDA.out _).mono ?_; rintro e w2 ⟨rfl, rfl⟩)
          | (go_at_call 102; (try rw [EC]); refine (HIB.out _).mono ?_; rintro e w2 ⟨rfl, rfl⟩))
         rw [HO.out]
         refine bodyPost_ret (v := oneV (tk0, 0)) ?_ rfl ⟨rfl, HB0.out⟩
         simp only [results, HRS.out, oneV, tkV, tk0]
         go_simp
         try rfl
end Go.Proofs.YtcjjphioeneiiaaGreatDoor
