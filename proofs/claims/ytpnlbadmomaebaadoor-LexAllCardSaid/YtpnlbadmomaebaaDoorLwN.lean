/- The program's layer 10: the library's CutPrefix and ParseUint, and the number that a text begins with. Conditions: LexEnv; those that each theorem names. -/
import Derived.Test.YtpnlbadmomaebaaDoorLwA
import Derived.Test.YtpnlbadmomaebaaDoorLyCp
import Derived.Test.YtpnlbadmomaebaaDoorLyPu
import Derived.Test.YtpnlbadmomaebaaDoorRlD
namespace Go.Proofs.YtpnlbadmomaebaaDoor
open Go.RowKit
set_option linter.unusedVariables false
set_option maxRecDepth 100000

theorem cp_any (t : List UInt8) (p : List UInt8) (w : World) : Calls Tryd.prog 40 #[.string (strOf t), .string ⟨p.toArray⟩] w fun e w' => e = .returned (.tuple #[.string (strOf (Lib.trimPrefix t p)), .bool (Lib.hasPrefix t p)]) ∧ w' = w := Any.strings_CutPrefix lcp_lays (strOf t) ⟨p.toArray⟩ w
theorem pu_ok (l : List UInt8) (hl : l.length ≤ 1000000) (u : Nat) (h : Lib.parseUintB 64 l = .ok u) (w : World) :
    Calls Tryd.prog 41 #[.string (strOf l), .int .i64 10, .int .i64 64] w fun e w' => e = .returned (.tuple #[.int .u64 (u : Int), .nilIface]) ∧ Below w.heap.size w w' := by
  have hz : (strOf l).size = l.length := str_size l
  refine Calls.mono (Any.strconv_ParseUint_10_at64_ok lpu_lays (strOf l) (by omega) u h w) ?_
  rintro e w' ⟨rfl, hw⟩
  refine ⟨rfl, ?_⟩
  rcases hw with rfl | rfl
  · exact Below.refl _ _
  · exact Lib.bytesWorld_below _ _ _
theorem pu_bad (l : List UInt8) (hl : l.length ≤ 1000000) (h : ∀ u, Lib.parseUintB 64 l ≠ .ok u) (w : World) (env : LexEnv w) :
    Calls Tryd.prog 41 #[.string (strOf l), .int .i64 10, .int .i64 64] w fun e w' => ∃ (x : Int) (N : Nat), e = .returned (.tuple #[.int .u64 x, .iface 96 (.pointer (some ⟨N, 0, none⟩))]) ∧ Below w.heap.size w w' := by
  have hz : (strOf l).size = l.length := str_size l
  obtain ⟨tp, p, hs⟩ := env.syn
  obtain ⟨tq, q, hr⟩ := env.rng
  rcases hp : Lib.parseUintB 64 l with u | _ | _
  · exact absurd hp (h u)
  · refine Calls.mono (Any.strconv_ParseUint_10_at64_syntax_var lpu_lays (strOf l) (by omega) hp tp p w hs) ?_
    rintro e w' ⟨N, rfl, _, _, hb⟩
    exact ⟨_, N, rfl, hb⟩
  · refine Calls.mono (Any.strconv_ParseUint_10_at64_range_var lpu_lays (strOf l) (by omega) hp tq q w hr) ?_
    rintro e w' ⟨N, rfl, _, _, hb⟩
    exact ⟨_, N, rfl, hb⟩
theorem pu_none (u : Nat) : Lib.parseUintB 64 [] ≠ .ok u := by
  intro h
  unfold Lib.parseUintB at h
  rw [if_pos rfl] at h
  cases h
theorem numDs_le (t : List UInt8) : (numDs t).length ≤ (t.drop (numFrom t)).length := digs_le _

set_option maxHeartbeats 20000000 in
theorem xnumber_any (t : List UInt8) (w : World) (env : LexEnv w) (hl : t.length ≤ 1000) : Calls Tryd.prog 28 #[.string (strOf t)] w fun e w' => e = .returned (oneV (numR t)) ∧ Below w.heap.size w w' := by
  have hres : Tryd.f28.results = #[.cell 2 37, .tmp 3] := by kernel_rfl
  have HRS := Lib.hid hres
  have hfl := numFrom_le t
  have hdl := numDs_le t
  have hsz0 : numI t = numFrom t + (numDs t).length := rfl
  have hbad0 : numBad t = (decide (numDs t = []) || (decide (18446744073709551616 ≤ numV t) || (decide (digitsT (numV t) (numNeg t) ≠ t.take (numI t)) || (numNeg t && decide (9223372036854775808 < numV t))))) := rfl
  have hpn := parse_num t
  have hCP : ∀ w, Calls Tryd.prog 40 #[.string (strOf t), .string ⟨#[45]⟩] w fun e w' => e = .returned (.tuple #[.string (strOf (t.drop (numFrom t))), .bool (numNeg t)]) ∧ w' = w := fun w => by
    have h := cp_any t [45] w
    rw [neg_trim, neg_prefix] at h
    exact h
  have hRN : ∀ w, Calls Tryd.prog 38 #[.string (strOf (t.drop (numFrom t))), .func (.func 27) #[] #[]] w fun e w' => e = .returned (.int .i64 ((numDs t).length : Int)) ∧ w = w' := fun w => xrun_digit (t.drop (numFrom t)) w (by rw [List.length_drop]; omega)
  have hexd : (strOf (t.drop (numFrom t))).extract 0 (numDs t).length = strOf (numDs t) := by rw [strOf_extract, List.drop_zero, numDs_take]
  have hbz : (strOf (t.drop (numFrom t))).size = t.length - numFrom t := by rw [str_size, List.length_drop]
  obtain ⟨n, hn⟩ : ∃ n, n = t.length := ⟨_, rfl⟩
  obtain ⟨str, hstr⟩ : ∃ str, str = strOf t := ⟨_, rfl⟩
  have hsz : str.size = n := by rw [hstr, str_size, hn]
  obtain ⟨fr, hfr⟩ : ∃ fr, fr = numFrom t := ⟨_, rfl⟩
  obtain ⟨ct, hct⟩ : ∃ ct, ct = (numDs t).length := ⟨_, rfl⟩
  obtain ⟨sz, hszz⟩ : ∃ sz, sz = numI t := ⟨_, rfl⟩
  obtain ⟨ng, hng⟩ : ∃ ng, ng = numNeg t := ⟨_, rfl⟩
  obtain ⟨bh, hbh⟩ : ∃ bh, bh = strOf (t.drop (numFrom t)) := ⟨_, rfl⟩
  obtain ⟨sg, hsg⟩ : ∃ sg, sg = strOf (numDs t) := ⟨_, rfl⟩
  have hext : str.extract 0 sz = strOf (t.take sz) := by rw [hstr, strOf_extract, List.drop_zero]
  rw [← hbh] at hCP hRN hexd hbz
  rw [← hstr, ← hng] at hCP
  rw [← hsg] at hexd
  rw [← hct] at hRN hexd hdl hsz0
  rw [← hn, ← hfr] at hbz hfl
  rw [List.length_drop, ← hn, ← hfr] at hdl
  rw [← hszz, ← hfr] at hsz0
  rw [← hszz, ← hng] at hbad0
  rw [← hn] at hl
  have hnu : numR t = if numBad t = true then (tk0, 0) else (⟨2, [], numV t, ng, 0⟩, sz) := by rw [hng, hszz]; rfl
  have HCP := Lib.hid hCP
  have HRN := Lib.hid hRN
  have HB0 : Hid (Below w.heap.size w (w.alloc (.cells #[.int .i64 0, .string ⟨#[]⟩, .int .u64 0, .bool false, .int .i64 0] 37))) := Lib.hid ((Below.refl _ w).alloc (Nat.le_refl _) _)
  have HE0 := Lib.hid (env.carry HB0.out)
  have HSZ := Lib.hid hsz0
  have g1 : 0 ≤ (ct : Int) := by omega
  have g2 : (ct : Int) ≤ ((n - fr : Nat) : Int) := by omega
  have g3 : 0 ≤ (sz : Int) := by omega
  have g4 : (sz : Int) ≤ (n : Int) := by omega
  have gs1 : (n : Int) - ((n - fr : Nat) : Int) = (fr : Int) := by omega
  have gs2 : (fr : Int) + (ct : Int) = (sz : Int) := by omega
  rw [← hstr]
  clear hCP hRN hres env hsz0
  by_cases hok : numDs t ≠ [] ∧ numV t < 18446744073709551616
  · obtain ⟨hk1, hk2⟩ := hok
    rw [if_neg hk1, if_pos hk2] at hpn
    have HPU : Hid (∀ w, Calls Tryd.prog 41 #[.string sg, .int .i64 10, .int .i64 64] w fun e w' => e = .returned (.tuple #[.int .u64 (numV t : Int), .nilIface]) ∧ Below w.heap.size w w') := Lib.hid (fun w => by rw [hsg]; exact pu_ok (numDs t) (by omega) (numV t) hpn w)
    rw [decide_eq_false hk1, decide_eq_false (by omega : ¬ 18446744073709551616 ≤ numV t), Bool.false_or, Bool.false_or] at hbad0
    obtain ⟨v, hv⟩ : ∃ v, v = numV t := ⟨_, rfl⟩
    rw [← hv] at HPU hbad0 hk2 hnu
    have HDG := Lib.hid (fun w e => pdigits_any v ng w e hk2)
    obtain ⟨st, hst⟩ : ∃ st, st = strOf (t.take sz) := ⟨_, rfl⟩
    rw [← hst] at hext
    have HST := Lib.hid hst
    have HSTR := Lib.hid hstr
    have HNU := Lib.hid hnu
    have HBA := Lib.hid hbad0
    clear hpn hk1 hv hnu hbad0 hst hstr hsg hbh hng hszz hct hfr hn
    cases ng with
    | true =>
      by_cases hbig : 9223372036854775808 < v
      · have HF : Hid (numR t = (tk0, 0)) := Lib.hid (by rw [HNU.out, HBA.out, decide_eq_true hbig, Bool.true_and, Bool.or_true, if_pos rfl])
        have hg9 : decide ((v : Int) > 9223372036854775808) = true := decide_eq_true (by omega)
        have hg8 : (9223372036854775808 : Int) < (v : Int) := by omega
        clear hbig
        go_enter Tryd.func28, Tryd.ntmps28
        go_wp2_with (first
          | (go_at_call 40; refine (HCP.out _).mono ?_; rintro e w2 ⟨rfl, rfl⟩)
          | (go_at_call 38; refine (HRN.out _).mono ?_; rintro e w2 ⟨rfl, rfl⟩)
          | (go_at_call 41; refine (HPU.out _).mono ?_; rintro e w1 ⟨rfl, hb1⟩; have hbx := (hb1.block w.heap.size (by simp)).trans (heap_alloc_new w (.cells #[.int .i64 0, .string ⟨#[]⟩, .int .u64 0, .bool false, .int .i64 0] 37)); have r0 := obj_cell hbx 0; have q0 := obj_free hbx 0; have r1 := obj_cell hbx 1; have q1 := obj_free hbx 1; have r2 := obj_cell hbx 2; have q2 := obj_free hbx 2; have r3 := obj_cell hbx 3; have q3 := obj_free hbx 3; have r4 := obj_cell hbx 4; have q4 := obj_free hbx 4; have HBX := Lib.hid hbx; have HB1 := Lib.hid (HB0.out.trans (hb1.mono HB0.out.size)); have HE1 := Lib.hid (HE0.out.carry hb1); clear hb1 hbx))
        refine wp_region_noPanic ?_
        refine wp_region_held_drew (S := fun _ => True) (by kernel_rfl) trivial (fun _ => ?_)
        refine take_lit (i := 0) (v := ?_) rfl (by kernel_rfl) (by kernel_rfl) (by kernel_rfl) (fun _ _ _ h => h) (Or.inl ⟨by rfl, ?_⟩) trivial ?_
        case refine_2 => (intro w hSw; clear hSw; go_simp <;> with_reducible rfl)
        try simp only [Act.put, List.setIfInBounds_toArray, List.set_cons_zero, List.set_cons_succ]
        refine take_lit (i := 1) (v := ?_) rfl (by kernel_rfl) (by kernel_rfl) (by kernel_rfl) (fun _ _ _ h => h) (Or.inl ⟨by rfl, ?_⟩) trivial ?_
        case refine_2 => (intro w hSw; clear hSw; go_simp <;> with_reducible rfl)
        try simp only [Act.put, List.setIfInBounds_toArray, List.set_cons_zero, List.set_cons_succ]
        refine take_lit (i := 2) (v := ?_) rfl (by kernel_rfl) (by kernel_rfl) (by kernel_rfl) (fun _ _ _ h => h) (Or.inl ⟨by rfl, ?_⟩) trivial ?_
        case refine_2 => (intro w hSw; clear hSw; go_simp <;> with_reducible rfl)
        try simp only [Act.put, List.setIfInBounds_toArray, List.set_cons_zero, List.set_cons_succ]
        refine take_lit (i := 3) (v := ?_) rfl (by kernel_rfl) (by kernel_rfl) (by kernel_rfl) (fun _ _ _ h => h) (Or.inl ⟨by rfl, ?_⟩) trivial ?_
        case refine_2 => (intro w hSw; clear hSw; go_simp <;> with_reducible rfl)
        try simp only [Act.put, List.setIfInBounds_toArray, List.set_cons_zero, List.set_cons_succ]
        refine take_lit (i := 4) (v := ?_) rfl (by kernel_rfl) (by kernel_rfl) (by kernel_rfl) (fun _ _ _ h => h) (Or.inl ⟨by rfl, ?_⟩) trivial ?_
        case refine_2 => (intro w hSw; clear hSw; go_simp <;> with_reducible rfl)
        try simp only [Act.put, List.setIfInBounds_toArray, List.set_cons_zero, List.set_cons_succ]
        refine take_lit (i := 5) (v := ?_) rfl (by kernel_rfl) (by kernel_rfl) (by kernel_rfl) (fun _ _ _ h => h) (Or.inl ⟨by rfl, ?_⟩) trivial ?_
        case refine_2 => (intro w hSw; clear hSw; go_simp <;> with_reducible rfl)
        try simp only [Act.put, List.setIfInBounds_toArray, List.set_cons_zero, List.set_cons_succ]
        refine take_lit (i := 6) (v := ?_) rfl (by kernel_rfl) (by kernel_rfl) (by kernel_rfl) (fun _ _ _ h => h) (Or.inl ⟨by rfl, ?_⟩) trivial ?_
        case refine_2 => (intro w hSw; clear hSw; go_simp <;> with_reducible rfl)
        try simp only [Act.put, List.setIfInBounds_toArray, List.set_cons_zero, List.set_cons_succ]
        refine take_lit (i := 7) (v := ?_) rfl (by kernel_rfl) (by kernel_rfl) (by kernel_rfl) (fun _ _ _ h => h) (Or.inl ⟨by rfl, ?_⟩) trivial ?_
        case refine_2 => (intro w hSw; clear hSw; go_simp <;> with_reducible rfl)
        try simp only [Act.put, List.setIfInBounds_toArray, List.set_cons_zero, List.set_cons_succ]
        refine take_lit (i := 8) (v := ?_) rfl (by kernel_rfl) (by kernel_rfl) (by kernel_rfl) (fun _ _ _ h => h) (Or.inl ⟨by rfl, ?_⟩) trivial ?_
        case refine_2 => (intro w hSw; clear hSw; go_simp <;> with_reducible rfl)
        try simp only [Act.put, List.setIfInBounds_toArray, List.set_cons_zero, List.set_cons_succ]
        refine take_lit (i := 9) (v := ?_) rfl (by kernel_rfl) (by kernel_rfl) (by kernel_rfl) (fun _ _ _ h => h) (Or.inl ⟨by rfl, ?_⟩) trivial ?_
        case refine_2 => (intro w hSw; clear hSw; go_simp <;> with_reducible rfl)
        try simp only [Act.put, List.setIfInBounds_toArray, List.set_cons_zero, List.set_cons_succ]
        refine take_lit (i := 10) (v := undef) rfl (by kernel_rfl) (by kernel_rfl) (by kernel_rfl) (fun _ _ _ h => h) (Or.inr ⟨by rfl, rfl⟩) trivial ?_
        try simp only [Act.put, List.setIfInBounds_toArray, List.set_cons_zero, List.set_cons_succ]
        refine take_lit (i := 11) (v := undef) rfl (by kernel_rfl) (by kernel_rfl) (by kernel_rfl) (fun _ _ _ h => h) (Or.inr ⟨by rfl, rfl⟩) trivial ?_
        try simp only [Act.put, List.setIfInBounds_toArray, List.set_cons_zero, List.set_cons_succ]
        refine take_lit (i := 12) (v := undef) rfl (by kernel_rfl) (by kernel_rfl) (by kernel_rfl) (fun _ _ _ h => h) (Or.inr ⟨by rfl, rfl⟩) trivial ?_
        try simp only [Act.put, List.setIfInBounds_toArray, List.set_cons_zero, List.set_cons_succ]
        refine take_lit (i := 13) (v := undef) rfl (by kernel_rfl) (by kernel_rfl) (by kernel_rfl) (fun _ _ _ h => h) (Or.inr ⟨by rfl, rfl⟩) trivial ?_
        try simp only [Act.put, List.setIfInBounds_toArray, List.set_cons_zero, List.set_cons_succ]
        refine take_lit (i := 14) (v := undef) rfl (by kernel_rfl) (by kernel_rfl) (by kernel_rfl) (fun _ _ _ h => h) (Or.inr ⟨by rfl, rfl⟩) trivial ?_
        try simp only [Act.put, List.setIfInBounds_toArray, List.set_cons_zero, List.set_cons_succ]
        refine take_lit (i := 15) (v := undef) rfl (by kernel_rfl) (by kernel_rfl) (by kernel_rfl) (fun _ _ _ h => h) (Or.inr ⟨by rfl, rfl⟩) trivial ?_
        try simp only [Act.put, List.setIfInBounds_toArray, List.set_cons_zero, List.set_cons_succ]
        refine take_lit (i := 16) (v := undef) rfl (by kernel_rfl) (by kernel_rfl) (by kernel_rfl) (fun _ _ _ h => h) (Or.inr ⟨by rfl, rfl⟩) trivial ?_
        try simp only [Act.put, List.setIfInBounds_toArray, List.set_cons_zero, List.set_cons_succ]
        refine take_lit (i := 17) (v := ?_) rfl (by kernel_rfl) (by kernel_rfl) (by kernel_rfl) (fun _ _ _ h => h) (Or.inl ⟨by rfl, ?_⟩) trivial ?_
        case refine_2 => (intro w hSw; clear hSw; go_simp <;> with_reducible rfl)
        try simp only [Act.put, List.setIfInBounds_toArray, List.set_cons_zero, List.set_cons_succ]
        refine wpAnyH_done (by kernel_rfl) ?_ _
        refine NoPanic.normal ?_
        go_wp2
        rw [HF.out]
        refine bodyPost_ret (v := oneV (tk0, 0)) ?_ rfl ⟨rfl, (box_below (HB1.out.drew) (Nat.le_refl _) _ _ _ _ _)⟩
        simp only [results, HRS.out, oneV, tkV, tk0]
        go_simp
        try rfl
      · have hg9 : decide ((v : Int) > 9223372036854775808) = false := decide_eq_false (by omega)
        have hg8 : ¬ (9223372036854775808 : Int) < (v : Int) := by omega
        rw [decide_eq_false hbig, Bool.and_false, Bool.or_false] at HBA
        clear hbig
        by_cases hdt : digitsT v true = t.take sz
        · have HF : Hid (numR t = (⟨2, [], v, true, 0⟩, sz)) := Lib.hid (by rw [HNU.out, HBA.out, decide_eq_false (fun h => h hdt), if_neg (by decide)])
          rw [hdt, ← HST.out] at HDG
          clear hdt
          go_enter Tryd.func28, Tryd.ntmps28
          go_wp2_with (first
            | (go_at_call 40; refine (HCP.out _).mono ?_; rintro e w2 ⟨rfl, rfl⟩)
            | (go_at_call 38; refine (HRN.out _).mono ?_; rintro e w2 ⟨rfl, rfl⟩)
            | (go_at_call 41; refine (HPU.out _).mono ?_; rintro e w1 ⟨rfl, hb1⟩; have hbx := (hb1.block w.heap.size (by simp)).trans (heap_alloc_new w (.cells #[.int .i64 0, .string ⟨#[]⟩, .int .u64 0, .bool false, .int .i64 0] 37)); have r0 := obj_cell hbx 0; have q0 := obj_free hbx 0; have r1 := obj_cell hbx 1; have q1 := obj_free hbx 1; have r2 := obj_cell hbx 2; have q2 := obj_free hbx 2; have r3 := obj_cell hbx 3; have q3 := obj_free hbx 3; have r4 := obj_cell hbx 4; have q4 := obj_free hbx 4; have HBX := Lib.hid hbx; have HB1 := Lib.hid (HB0.out.trans (hb1.mono HB0.out.size)); have HE1 := Lib.hid (HE0.out.carry hb1); clear hb1 hbx))
          refine wp_region_noPanic ?_
          refine wp_region_held_drew (S := fun _ => True) (by kernel_rfl) trivial (fun _ => ?_)
          refine take_lit (i := 0) (v := ?_) rfl (by kernel_rfl) (by kernel_rfl) (by kernel_rfl) (fun _ _ _ h => h) (Or.inl ⟨by rfl, ?_⟩) trivial ?_
          case refine_2 => (intro w hSw; clear hSw; go_simp <;> with_reducible rfl)
          try simp only [Act.put, List.setIfInBounds_toArray, List.set_cons_zero, List.set_cons_succ]
          refine take_lit (i := 1) (v := ?_) rfl (by kernel_rfl) (by kernel_rfl) (by kernel_rfl) (fun _ _ _ h => h) (Or.inl ⟨by rfl, ?_⟩) trivial ?_
          case refine_2 => (intro w hSw; clear hSw; go_simp <;> with_reducible rfl)
          try simp only [Act.put, List.setIfInBounds_toArray, List.set_cons_zero, List.set_cons_succ]
          refine take_lit (i := 2) (v := ?_) rfl (by kernel_rfl) (by kernel_rfl) (by kernel_rfl) (fun _ _ _ h => h) (Or.inl ⟨by rfl, ?_⟩) trivial ?_
          case refine_2 => (intro w hSw; clear hSw; go_simp <;> with_reducible rfl)
          try simp only [Act.put, List.setIfInBounds_toArray, List.set_cons_zero, List.set_cons_succ]
          refine take_lit (i := 3) (v := ?_) rfl (by kernel_rfl) (by kernel_rfl) (by kernel_rfl) (fun _ _ _ h => h) (Or.inl ⟨by rfl, ?_⟩) trivial ?_
          case refine_2 => (intro w hSw; clear hSw; go_simp <;> with_reducible rfl)
          try simp only [Act.put, List.setIfInBounds_toArray, List.set_cons_zero, List.set_cons_succ]
          refine take_lit (i := 4) (v := ?_) rfl (by kernel_rfl) (by kernel_rfl) (by kernel_rfl) (fun _ _ _ h => h) (Or.inl ⟨by rfl, ?_⟩) trivial ?_
          case refine_2 => (intro w hSw; clear hSw; go_simp <;> with_reducible rfl)
          try simp only [Act.put, List.setIfInBounds_toArray, List.set_cons_zero, List.set_cons_succ]
          refine take_lit (i := 5) (v := ?_) rfl (by kernel_rfl) (by kernel_rfl) (by kernel_rfl) (fun _ _ _ h => h) (Or.inl ⟨by rfl, ?_⟩) trivial ?_
          case refine_2 => (intro w hSw; clear hSw; go_simp <;> with_reducible rfl)
          try simp only [Act.put, List.setIfInBounds_toArray, List.set_cons_zero, List.set_cons_succ]
          refine take_lit (i := 6) (v := ?_) rfl (by kernel_rfl) (by kernel_rfl) (by kernel_rfl) (fun _ _ _ h => h) (Or.inl ⟨by rfl, ?_⟩) trivial ?_
          case refine_2 => (intro w hSw; clear hSw; go_simp <;> with_reducible rfl)
          try simp only [Act.put, List.setIfInBounds_toArray, List.set_cons_zero, List.set_cons_succ]
          refine take_lit (i := 7) (v := ?_) rfl (by kernel_rfl) (by kernel_rfl) (by kernel_rfl) (fun _ _ _ h => h) (Or.inl ⟨by rfl, ?_⟩) trivial ?_
          case refine_2 => (intro w hSw; clear hSw; go_simp <;> with_reducible rfl)
          try simp only [Act.put, List.setIfInBounds_toArray, List.set_cons_zero, List.set_cons_succ]
          refine take_lit (i := 8) (v := ?_) rfl (by kernel_rfl) (by kernel_rfl) (by kernel_rfl) (fun _ _ _ h => h) (Or.inl ⟨by rfl, ?_⟩) trivial ?_
          case refine_2 => (intro w hSw; clear hSw; go_simp <;> with_reducible rfl)
          try simp only [Act.put, List.setIfInBounds_toArray, List.set_cons_zero, List.set_cons_succ]
          refine take_lit (i := 9) (v := ?_) rfl (by kernel_rfl) (by kernel_rfl) (by kernel_rfl) (fun _ _ _ h => h) (Or.inl ⟨by rfl, ?_⟩) trivial ?_
          case refine_2 => (intro w hSw; clear hSw; go_simp <;> with_reducible rfl)
          try simp only [Act.put, List.setIfInBounds_toArray, List.set_cons_zero, List.set_cons_succ]
          refine take_lit (i := 10) (v := ?_) rfl (by kernel_rfl) (by kernel_rfl) (by kernel_rfl) (fun _ _ _ h => h) (Or.inl ⟨by rfl, ?_⟩) trivial ?_
          case refine_2 => (intro w hSw; clear hSw; go_simp <;> with_reducible rfl)
          try simp only [Act.put, List.setIfInBounds_toArray, List.set_cons_zero, List.set_cons_succ]
          refine take_lit (i := 11) (v := ?_) rfl (by kernel_rfl) (by kernel_rfl) (by kernel_rfl) (fun _ _ _ h => h) (Or.inl ⟨by rfl, ?_⟩) trivial ?_
          case refine_2 => (intro w hSw; clear hSw; go_simp <;> with_reducible rfl)
          try simp only [Act.put, List.setIfInBounds_toArray, List.set_cons_zero, List.set_cons_succ]
          refine take_lit (i := 13) (v := ?_) rfl (by kernel_rfl) (by kernel_rfl) (by kernel_rfl) (fun _ _ _ h => h) (Or.inl ⟨by rfl, ?_⟩) trivial ?_
          case refine_2 => (intro w hSw; clear hSw; go_simp <;> with_reducible rfl)
          try simp only [Act.put, List.setIfInBounds_toArray, List.set_cons_zero, List.set_cons_succ]
          refine take_lit (i := 14) (v := ?_) rfl (by kernel_rfl) (by kernel_rfl) (by kernel_rfl) (fun _ _ _ h => h) (Or.inl ⟨by rfl, ?_⟩) trivial ?_
          case refine_2 => (intro w hSw; clear hSw; go_simp <;> with_reducible rfl)
          try simp only [Act.put, List.setIfInBounds_toArray, List.set_cons_zero, List.set_cons_succ]
          refine take_lit (i := 15) (v := ?_) rfl (by kernel_rfl) (by kernel_rfl) (by kernel_rfl) (fun _ _ _ h => h) (Or.inl ⟨by rfl, ?_⟩) trivial ?_
          case refine_2 => (intro w hSw; clear hSw; go_simp <;> with_reducible rfl)
          try simp only [Act.put, List.setIfInBounds_toArray, List.set_cons_zero, List.set_cons_succ]
          refine wpAnyH_ready (rs := [12]) (by kernel_rfl) (by simp) ?_
          refine ready_lit (i := 12) rfl (fun K hK => ?_)
          go_simp
          refine (HDG.out w1.drew (LexEnv.carry HE1.out ⟨rfl, rfl, rfl, Nat.le_refl _, fun _ _ => rfl⟩)).mono ?_
          rintro e w2 ⟨rfl, hb2⟩
          refine hK.out _ _ trivial (fun _ => ?_)
          clear hK K
          try simp only [Act.put, List.setIfInBounds_toArray, List.set_cons_zero, List.set_cons_succ]
          refine take_lit (i := 16) (v := ?_) rfl (by kernel_rfl) (by kernel_rfl) (by kernel_rfl) (fun _ _ _ h => h) (Or.inl ⟨by rfl, ?_⟩) trivial ?_
          case refine_2 => (intro w hSw; clear hSw; go_simp <;> with_reducible rfl)
          try simp only [Act.put, List.setIfInBounds_toArray, List.set_cons_zero, List.set_cons_succ]
          refine take_lit (i := 17) (v := ?_) rfl (by kernel_rfl) (by kernel_rfl) (by kernel_rfl) (fun _ _ _ h => h) (Or.inl ⟨by rfl, ?_⟩) trivial ?_
          case refine_2 => (intro w hSw; clear hSw; go_simp <;> with_reducible rfl)
          try simp only [Act.put, List.setIfInBounds_toArray, List.set_cons_zero, List.set_cons_succ]
          refine wpAnyH_done (by kernel_rfl) ?_ _
          refine NoPanic.normal ?_
          have hb3 : Below w1.heap.size w1 w2 := ⟨hb2.os, hb2.tape, hb2.output, hb2.size, hb2.block⟩
          have hby := (hb3.block w.heap.size (lt_of_block HBX.out)).trans HBX.out
          have r0 := obj_cell hby 0; have q0 := obj_free hby 0
          have r1 := obj_cell hby 1; have q1 := obj_free hby 1
          have r2 := obj_cell hby 2; have q2 := obj_free hby 2
          have r3 := obj_cell hby 3; have q3 := obj_free hby 3
          have r4 := obj_cell hby 4; have q4 := obj_free hby 4
          have HB2 := Lib.hid (HB1.out.trans (hb3.mono HB1.out.size))
          clear hb2 hb3 hby
          go_wp2
          rw [HF.out]
          refine bodyPost_ret (v := oneV ((⟨2, [], v, true, 0⟩, sz))) ?_ rfl ⟨rfl, (box_below (HB2.out) (Nat.le_refl _) _ _ _ _ _)⟩
          simp only [results, HRS.out, oneV, tkV]
          go_simp
          try rfl
        · have HF : Hid (numR t = (tk0, 0)) := Lib.hid (by rw [HNU.out, HBA.out, decide_eq_true hdt, if_pos rfl])
          obtain ⟨sd, hsd⟩ : ∃ sd, sd = strOf (digitsT v true) := ⟨_, rfl⟩
          rw [← hsd] at HDG
          have hne2 : (sd.toList == st.toList) = false := by rw [hsd, HST.out, strOf_beq]; exact decide_eq_false hdt
          have hne : ¬ sd.toList = st.toList := fun e => by rw [e, beq_self_eq_true] at hne2; cases hne2
          clear hdt hsd
          go_enter Tryd.func28, Tryd.ntmps28
          go_wp2_with (first
            | (go_at_call 40; refine (HCP.out _).mono ?_; rintro e w2 ⟨rfl, rfl⟩)
            | (go_at_call 38; refine (HRN.out _).mono ?_; rintro e w2 ⟨rfl, rfl⟩)
            | (go_at_call 41; refine (HPU.out _).mono ?_; rintro e w1 ⟨rfl, hb1⟩; have hbx := (hb1.block w.heap.size (by simp)).trans (heap_alloc_new w (.cells #[.int .i64 0, .string ⟨#[]⟩, .int .u64 0, .bool false, .int .i64 0] 37)); have r0 := obj_cell hbx 0; have q0 := obj_free hbx 0; have r1 := obj_cell hbx 1; have q1 := obj_free hbx 1; have r2 := obj_cell hbx 2; have q2 := obj_free hbx 2; have r3 := obj_cell hbx 3; have q3 := obj_free hbx 3; have r4 := obj_cell hbx 4; have q4 := obj_free hbx 4; have HBX := Lib.hid hbx; have HB1 := Lib.hid (HB0.out.trans (hb1.mono HB0.out.size)); have HE1 := Lib.hid (HE0.out.carry hb1); clear hb1 hbx))
          refine wp_region_noPanic ?_
          refine wp_region_held_drew (S := fun _ => True) (by kernel_rfl) trivial (fun _ => ?_)
          refine take_lit (i := 0) (v := ?_) rfl (by kernel_rfl) (by kernel_rfl) (by kernel_rfl) (fun _ _ _ h => h) (Or.inl ⟨by rfl, ?_⟩) trivial ?_
          case refine_2 => (intro w hSw; clear hSw; go_simp <;> with_reducible rfl)
          try simp only [Act.put, List.setIfInBounds_toArray, List.set_cons_zero, List.set_cons_succ]
          refine take_lit (i := 1) (v := ?_) rfl (by kernel_rfl) (by kernel_rfl) (by kernel_rfl) (fun _ _ _ h => h) (Or.inl ⟨by rfl, ?_⟩) trivial ?_
          case refine_2 => (intro w hSw; clear hSw; go_simp <;> with_reducible rfl)
          try simp only [Act.put, List.setIfInBounds_toArray, List.set_cons_zero, List.set_cons_succ]
          refine take_lit (i := 2) (v := ?_) rfl (by kernel_rfl) (by kernel_rfl) (by kernel_rfl) (fun _ _ _ h => h) (Or.inl ⟨by rfl, ?_⟩) trivial ?_
          case refine_2 => (intro w hSw; clear hSw; go_simp <;> with_reducible rfl)
          try simp only [Act.put, List.setIfInBounds_toArray, List.set_cons_zero, List.set_cons_succ]
          refine take_lit (i := 3) (v := ?_) rfl (by kernel_rfl) (by kernel_rfl) (by kernel_rfl) (fun _ _ _ h => h) (Or.inl ⟨by rfl, ?_⟩) trivial ?_
          case refine_2 => (intro w hSw; clear hSw; go_simp <;> with_reducible rfl)
          try simp only [Act.put, List.setIfInBounds_toArray, List.set_cons_zero, List.set_cons_succ]
          refine take_lit (i := 4) (v := ?_) rfl (by kernel_rfl) (by kernel_rfl) (by kernel_rfl) (fun _ _ _ h => h) (Or.inl ⟨by rfl, ?_⟩) trivial ?_
          case refine_2 => (intro w hSw; clear hSw; go_simp <;> with_reducible rfl)
          try simp only [Act.put, List.setIfInBounds_toArray, List.set_cons_zero, List.set_cons_succ]
          refine take_lit (i := 5) (v := ?_) rfl (by kernel_rfl) (by kernel_rfl) (by kernel_rfl) (fun _ _ _ h => h) (Or.inl ⟨by rfl, ?_⟩) trivial ?_
          case refine_2 => (intro w hSw; clear hSw; go_simp <;> with_reducible rfl)
          try simp only [Act.put, List.setIfInBounds_toArray, List.set_cons_zero, List.set_cons_succ]
          refine take_lit (i := 6) (v := ?_) rfl (by kernel_rfl) (by kernel_rfl) (by kernel_rfl) (fun _ _ _ h => h) (Or.inl ⟨by rfl, ?_⟩) trivial ?_
          case refine_2 => (intro w hSw; clear hSw; go_simp <;> with_reducible rfl)
          try simp only [Act.put, List.setIfInBounds_toArray, List.set_cons_zero, List.set_cons_succ]
          refine take_lit (i := 7) (v := ?_) rfl (by kernel_rfl) (by kernel_rfl) (by kernel_rfl) (fun _ _ _ h => h) (Or.inl ⟨by rfl, ?_⟩) trivial ?_
          case refine_2 => (intro w hSw; clear hSw; go_simp <;> with_reducible rfl)
          try simp only [Act.put, List.setIfInBounds_toArray, List.set_cons_zero, List.set_cons_succ]
          refine take_lit (i := 8) (v := ?_) rfl (by kernel_rfl) (by kernel_rfl) (by kernel_rfl) (fun _ _ _ h => h) (Or.inl ⟨by rfl, ?_⟩) trivial ?_
          case refine_2 => (intro w hSw; clear hSw; go_simp <;> with_reducible rfl)
          try simp only [Act.put, List.setIfInBounds_toArray, List.set_cons_zero, List.set_cons_succ]
          refine take_lit (i := 9) (v := ?_) rfl (by kernel_rfl) (by kernel_rfl) (by kernel_rfl) (fun _ _ _ h => h) (Or.inl ⟨by rfl, ?_⟩) trivial ?_
          case refine_2 => (intro w hSw; clear hSw; go_simp <;> with_reducible rfl)
          try simp only [Act.put, List.setIfInBounds_toArray, List.set_cons_zero, List.set_cons_succ]
          refine take_lit (i := 10) (v := ?_) rfl (by kernel_rfl) (by kernel_rfl) (by kernel_rfl) (fun _ _ _ h => h) (Or.inl ⟨by rfl, ?_⟩) trivial ?_
          case refine_2 => (intro w hSw; clear hSw; go_simp <;> with_reducible rfl)
          try simp only [Act.put, List.setIfInBounds_toArray, List.set_cons_zero, List.set_cons_succ]
          refine take_lit (i := 11) (v := ?_) rfl (by kernel_rfl) (by kernel_rfl) (by kernel_rfl) (fun _ _ _ h => h) (Or.inl ⟨by rfl, ?_⟩) trivial ?_
          case refine_2 => (intro w hSw; clear hSw; go_simp <;> with_reducible rfl)
          try simp only [Act.put, List.setIfInBounds_toArray, List.set_cons_zero, List.set_cons_succ]
          refine take_lit (i := 13) (v := ?_) rfl (by kernel_rfl) (by kernel_rfl) (by kernel_rfl) (fun _ _ _ h => h) (Or.inl ⟨by rfl, ?_⟩) trivial ?_
          case refine_2 => (intro w hSw; clear hSw; go_simp <;> with_reducible rfl)
          try simp only [Act.put, List.setIfInBounds_toArray, List.set_cons_zero, List.set_cons_succ]
          refine take_lit (i := 14) (v := ?_) rfl (by kernel_rfl) (by kernel_rfl) (by kernel_rfl) (fun _ _ _ h => h) (Or.inl ⟨by rfl, ?_⟩) trivial ?_
          case refine_2 => (intro w hSw; clear hSw; go_simp <;> with_reducible rfl)
          try simp only [Act.put, List.setIfInBounds_toArray, List.set_cons_zero, List.set_cons_succ]
          refine take_lit (i := 15) (v := ?_) rfl (by kernel_rfl) (by kernel_rfl) (by kernel_rfl) (fun _ _ _ h => h) (Or.inl ⟨by rfl, ?_⟩) trivial ?_
          case refine_2 => (intro w hSw; clear hSw; go_simp <;> with_reducible rfl)
          try simp only [Act.put, List.setIfInBounds_toArray, List.set_cons_zero, List.set_cons_succ]
          refine wpAnyH_ready (rs := [12]) (by kernel_rfl) (by simp) ?_
          refine ready_lit (i := 12) rfl (fun K hK => ?_)
          go_simp
          refine (HDG.out w1.drew (LexEnv.carry HE1.out ⟨rfl, rfl, rfl, Nat.le_refl _, fun _ _ => rfl⟩)).mono ?_
          rintro e w2 ⟨rfl, hb2⟩
          refine hK.out _ _ trivial (fun _ => ?_)
          clear hK K
          try simp only [Act.put, List.setIfInBounds_toArray, List.set_cons_zero, List.set_cons_succ]
          refine take_lit (i := 16) (v := ?_) rfl (by kernel_rfl) (by kernel_rfl) (by kernel_rfl) (fun _ _ _ h => h) (Or.inl ⟨by rfl, ?_⟩) trivial ?_
          case refine_2 => (intro w hSw; clear hSw; go_simp <;> with_reducible rfl)
          try simp only [Act.put, List.setIfInBounds_toArray, List.set_cons_zero, List.set_cons_succ]
          refine take_lit (i := 17) (v := ?_) rfl (by kernel_rfl) (by kernel_rfl) (by kernel_rfl) (fun _ _ _ h => h) (Or.inl ⟨by rfl, ?_⟩) trivial ?_
          case refine_2 => (intro w hSw; clear hSw; go_simp <;> with_reducible rfl)
          try simp only [Act.put, List.setIfInBounds_toArray, List.set_cons_zero, List.set_cons_succ]
          refine wpAnyH_done (by kernel_rfl) ?_ _
          refine NoPanic.normal ?_
          have hb3 : Below w1.heap.size w1 w2 := ⟨hb2.os, hb2.tape, hb2.output, hb2.size, hb2.block⟩
          have hby := (hb3.block w.heap.size (lt_of_block HBX.out)).trans HBX.out
          have r0 := obj_cell hby 0; have q0 := obj_free hby 0
          have r1 := obj_cell hby 1; have q1 := obj_free hby 1
          have r2 := obj_cell hby 2; have q2 := obj_free hby 2
          have r3 := obj_cell hby 3; have q3 := obj_free hby 3
          have r4 := obj_cell hby 4; have q4 := obj_free hby 4
          have HB2 := Lib.hid (HB1.out.trans (hb3.mono HB1.out.size))
          clear hb2 hb3 hby
          go_wp2
          rw [HF.out]
          refine bodyPost_ret (v := oneV (tk0, 0)) ?_ rfl ⟨rfl, (box_below (HB2.out) (Nat.le_refl _) _ _ _ _ _)⟩
          simp only [results, HRS.out, oneV, tkV, tk0]
          go_simp
          try rfl
    | false =>
      rw [Bool.false_and, Bool.or_false] at HBA
      by_cases hdt : digitsT v false = t.take sz
      · have HF : Hid (numR t = (⟨2, [], v, false, 0⟩, sz)) := Lib.hid (by rw [HNU.out, HBA.out, decide_eq_false (fun h => h hdt), if_neg (by decide)])
        rw [hdt, ← HST.out] at HDG
        clear hdt
        go_enter Tryd.func28, Tryd.ntmps28
        go_wp2_with (first
          | (go_at_call 40; refine (HCP.out _).mono ?_; rintro e w2 ⟨rfl, rfl⟩)
          | (go_at_call 38; refine (HRN.out _).mono ?_; rintro e w2 ⟨rfl, rfl⟩)
          | (go_at_call 41; refine (HPU.out _).mono ?_; rintro e w1 ⟨rfl, hb1⟩; have hbx := (hb1.block w.heap.size (by simp)).trans (heap_alloc_new w (.cells #[.int .i64 0, .string ⟨#[]⟩, .int .u64 0, .bool false, .int .i64 0] 37)); have r0 := obj_cell hbx 0; have q0 := obj_free hbx 0; have r1 := obj_cell hbx 1; have q1 := obj_free hbx 1; have r2 := obj_cell hbx 2; have q2 := obj_free hbx 2; have r3 := obj_cell hbx 3; have q3 := obj_free hbx 3; have r4 := obj_cell hbx 4; have q4 := obj_free hbx 4; have HBX := Lib.hid hbx; have HB1 := Lib.hid (HB0.out.trans (hb1.mono HB0.out.size)); have HE1 := Lib.hid (HE0.out.carry hb1); clear hb1 hbx))
        refine wp_region_noPanic ?_
        refine wp_region_held_drew (S := fun _ => True) (by kernel_rfl) trivial (fun _ => ?_)
        refine take_lit (i := 0) (v := ?_) rfl (by kernel_rfl) (by kernel_rfl) (by kernel_rfl) (fun _ _ _ h => h) (Or.inl ⟨by rfl, ?_⟩) trivial ?_
        case refine_2 => (intro w hSw; clear hSw; go_simp <;> with_reducible rfl)
        try simp only [Act.put, List.setIfInBounds_toArray, List.set_cons_zero, List.set_cons_succ]
        refine take_lit (i := 1) (v := ?_) rfl (by kernel_rfl) (by kernel_rfl) (by kernel_rfl) (fun _ _ _ h => h) (Or.inl ⟨by rfl, ?_⟩) trivial ?_
        case refine_2 => (intro w hSw; clear hSw; go_simp <;> with_reducible rfl)
        try simp only [Act.put, List.setIfInBounds_toArray, List.set_cons_zero, List.set_cons_succ]
        refine take_lit (i := 2) (v := ?_) rfl (by kernel_rfl) (by kernel_rfl) (by kernel_rfl) (fun _ _ _ h => h) (Or.inl ⟨by rfl, ?_⟩) trivial ?_
        case refine_2 => (intro w hSw; clear hSw; go_simp <;> with_reducible rfl)
        try simp only [Act.put, List.setIfInBounds_toArray, List.set_cons_zero, List.set_cons_succ]
        refine take_lit (i := 3) (v := ?_) rfl (by kernel_rfl) (by kernel_rfl) (by kernel_rfl) (fun _ _ _ h => h) (Or.inl ⟨by rfl, ?_⟩) trivial ?_
        case refine_2 => (intro w hSw; clear hSw; go_simp <;> with_reducible rfl)
        try simp only [Act.put, List.setIfInBounds_toArray, List.set_cons_zero, List.set_cons_succ]
        refine take_lit (i := 4) (v := ?_) rfl (by kernel_rfl) (by kernel_rfl) (by kernel_rfl) (fun _ _ _ h => h) (Or.inl ⟨by rfl, ?_⟩) trivial ?_
        case refine_2 => (intro w hSw; clear hSw; go_simp <;> with_reducible rfl)
        try simp only [Act.put, List.setIfInBounds_toArray, List.set_cons_zero, List.set_cons_succ]
        refine take_lit (i := 5) (v := undef) rfl (by kernel_rfl) (by kernel_rfl) (by kernel_rfl) (fun _ _ _ h => h) (Or.inr ⟨by rfl, rfl⟩) trivial ?_
        try simp only [Act.put, List.setIfInBounds_toArray, List.set_cons_zero, List.set_cons_succ]
        refine take_lit (i := 6) (v := undef) rfl (by kernel_rfl) (by kernel_rfl) (by kernel_rfl) (fun _ _ _ h => h) (Or.inr ⟨by rfl, rfl⟩) trivial ?_
        try simp only [Act.put, List.setIfInBounds_toArray, List.set_cons_zero, List.set_cons_succ]
        refine take_lit (i := 7) (v := ?_) rfl (by kernel_rfl) (by kernel_rfl) (by kernel_rfl) (fun _ _ _ h => h) (Or.inl ⟨by rfl, ?_⟩) trivial ?_
        case refine_2 => (intro w hSw; clear hSw; go_simp <;> with_reducible rfl)
        try simp only [Act.put, List.setIfInBounds_toArray, List.set_cons_zero, List.set_cons_succ]
        refine take_lit (i := 8) (v := ?_) rfl (by kernel_rfl) (by kernel_rfl) (by kernel_rfl) (fun _ _ _ h => h) (Or.inl ⟨by rfl, ?_⟩) trivial ?_
        case refine_2 => (intro w hSw; clear hSw; go_simp <;> with_reducible rfl)
        try simp only [Act.put, List.setIfInBounds_toArray, List.set_cons_zero, List.set_cons_succ]
        refine take_lit (i := 9) (v := ?_) rfl (by kernel_rfl) (by kernel_rfl) (by kernel_rfl) (fun _ _ _ h => h) (Or.inl ⟨by rfl, ?_⟩) trivial ?_
        case refine_2 => (intro w hSw; clear hSw; go_simp <;> with_reducible rfl)
        try simp only [Act.put, List.setIfInBounds_toArray, List.set_cons_zero, List.set_cons_succ]
        refine take_lit (i := 10) (v := ?_) rfl (by kernel_rfl) (by kernel_rfl) (by kernel_rfl) (fun _ _ _ h => h) (Or.inl ⟨by rfl, ?_⟩) trivial ?_
        case refine_2 => (intro w hSw; clear hSw; go_simp <;> with_reducible rfl)
        try simp only [Act.put, List.setIfInBounds_toArray, List.set_cons_zero, List.set_cons_succ]
        refine take_lit (i := 11) (v := ?_) rfl (by kernel_rfl) (by kernel_rfl) (by kernel_rfl) (fun _ _ _ h => h) (Or.inl ⟨by rfl, ?_⟩) trivial ?_
        case refine_2 => (intro w hSw; clear hSw; go_simp <;> with_reducible rfl)
        try simp only [Act.put, List.setIfInBounds_toArray, List.set_cons_zero, List.set_cons_succ]
        refine take_lit (i := 13) (v := ?_) rfl (by kernel_rfl) (by kernel_rfl) (by kernel_rfl) (fun _ _ _ h => h) (Or.inl ⟨by rfl, ?_⟩) trivial ?_
        case refine_2 => (intro w hSw; clear hSw; go_simp <;> with_reducible rfl)
        try simp only [Act.put, List.setIfInBounds_toArray, List.set_cons_zero, List.set_cons_succ]
        refine take_lit (i := 14) (v := ?_) rfl (by kernel_rfl) (by kernel_rfl) (by kernel_rfl) (fun _ _ _ h => h) (Or.inl ⟨by rfl, ?_⟩) trivial ?_
        case refine_2 => (intro w hSw; clear hSw; go_simp <;> with_reducible rfl)
        try simp only [Act.put, List.setIfInBounds_toArray, List.set_cons_zero, List.set_cons_succ]
        refine take_lit (i := 15) (v := ?_) rfl (by kernel_rfl) (by kernel_rfl) (by kernel_rfl) (fun _ _ _ h => h) (Or.inl ⟨by rfl, ?_⟩) trivial ?_
        case refine_2 => (intro w hSw; clear hSw; go_simp <;> with_reducible rfl)
        try simp only [Act.put, List.setIfInBounds_toArray, List.set_cons_zero, List.set_cons_succ]
        refine wpAnyH_ready (rs := [12]) (by kernel_rfl) (by simp) ?_
        refine ready_lit (i := 12) rfl (fun K hK => ?_)
        go_simp
        refine (HDG.out w1.drew (LexEnv.carry HE1.out ⟨rfl, rfl, rfl, Nat.le_refl _, fun _ _ => rfl⟩)).mono ?_
        rintro e w2 ⟨rfl, hb2⟩
        refine hK.out _ _ trivial (fun _ => ?_)
        clear hK K
        try simp only [Act.put, List.setIfInBounds_toArray, List.set_cons_zero, List.set_cons_succ]
        refine take_lit (i := 16) (v := ?_) rfl (by kernel_rfl) (by kernel_rfl) (by kernel_rfl) (fun _ _ _ h => h) (Or.inl ⟨by rfl, ?_⟩) trivial ?_
        case refine_2 => (intro w hSw; clear hSw; go_simp <;> with_reducible rfl)
        try simp only [Act.put, List.setIfInBounds_toArray, List.set_cons_zero, List.set_cons_succ]
        refine take_lit (i := 17) (v := ?_) rfl (by kernel_rfl) (by kernel_rfl) (by kernel_rfl) (fun _ _ _ h => h) (Or.inl ⟨by rfl, ?_⟩) trivial ?_
        case refine_2 => (intro w hSw; clear hSw; go_simp <;> with_reducible rfl)
        try simp only [Act.put, List.setIfInBounds_toArray, List.set_cons_zero, List.set_cons_succ]
        refine wpAnyH_done (by kernel_rfl) ?_ _
        refine NoPanic.normal ?_
        have hb3 : Below w1.heap.size w1 w2 := ⟨hb2.os, hb2.tape, hb2.output, hb2.size, hb2.block⟩
        have hby := (hb3.block w.heap.size (lt_of_block HBX.out)).trans HBX.out
        have r0 := obj_cell hby 0; have q0 := obj_free hby 0
        have r1 := obj_cell hby 1; have q1 := obj_free hby 1
        have r2 := obj_cell hby 2; have q2 := obj_free hby 2
        have r3 := obj_cell hby 3; have q3 := obj_free hby 3
        have r4 := obj_cell hby 4; have q4 := obj_free hby 4
        have HB2 := Lib.hid (HB1.out.trans (hb3.mono HB1.out.size))
        clear hb2 hb3 hby
        go_wp2
        rw [HF.out]
        refine bodyPost_ret (v := oneV ((⟨2, [], v, false, 0⟩, sz))) ?_ rfl ⟨rfl, (box_below (HB2.out) (Nat.le_refl _) _ _ _ _ _)⟩
        simp only [results, HRS.out, oneV, tkV]
        go_simp
        try rfl
      · have HF : Hid (numR t = (tk0, 0)) := Lib.hid (by rw [HNU.out, HBA.out, decide_eq_true hdt, if_pos rfl])
        obtain ⟨sd, hsd⟩ : ∃ sd, sd = strOf (digitsT v false) := ⟨_, rfl⟩
        rw [← hsd] at HDG
        have hne2 : (sd.toList == st.toList) = false := by rw [hsd, HST.out, strOf_beq]; exact decide_eq_false hdt
        have hne : ¬ sd.toList = st.toList := fun e => by rw [e, beq_self_eq_true] at hne2; cases hne2
        clear hdt hsd
        go_enter Tryd.func28, Tryd.ntmps28
        go_wp2_with (first
          | (go_at_call 40; refine (HCP.out _).mono ?_; rintro e w2 ⟨rfl, rfl⟩)
          | (go_at_call 38; refine (HRN.out _).mono ?_; rintro e w2 ⟨rfl, rfl⟩)
          | (go_at_call 41; refine (HPU.out _).mono ?_; rintro e w1 ⟨rfl, hb1⟩; have hbx := (hb1.block w.heap.size (by simp)).trans (heap_alloc_new w (.cells #[.int .i64 0, .string ⟨#[]⟩, .int .u64 0, .bool false, .int .i64 0] 37)); have r0 := obj_cell hbx 0; have q0 := obj_free hbx 0; have r1 := obj_cell hbx 1; have q1 := obj_free hbx 1; have r2 := obj_cell hbx 2; have q2 := obj_free hbx 2; have r3 := obj_cell hbx 3; have q3 := obj_free hbx 3; have r4 := obj_cell hbx 4; have q4 := obj_free hbx 4; have HBX := Lib.hid hbx; have HB1 := Lib.hid (HB0.out.trans (hb1.mono HB0.out.size)); have HE1 := Lib.hid (HE0.out.carry hb1); clear hb1 hbx))
        refine wp_region_noPanic ?_
        refine wp_region_held_drew (S := fun _ => True) (by kernel_rfl) trivial (fun _ => ?_)
        refine take_lit (i := 0) (v := ?_) rfl (by kernel_rfl) (by kernel_rfl) (by kernel_rfl) (fun _ _ _ h => h) (Or.inl ⟨by rfl, ?_⟩) trivial ?_
        case refine_2 => (intro w hSw; clear hSw; go_simp <;> with_reducible rfl)
        try simp only [Act.put, List.setIfInBounds_toArray, List.set_cons_zero, List.set_cons_succ]
        refine take_lit (i := 1) (v := ?_) rfl (by kernel_rfl) (by kernel_rfl) (by kernel_rfl) (fun _ _ _ h => h) (Or.inl ⟨by rfl, ?_⟩) trivial ?_
        case refine_2 => (intro w hSw; clear hSw; go_simp <;> with_reducible rfl)
        try simp only [Act.put, List.setIfInBounds_toArray, List.set_cons_zero, List.set_cons_succ]
        refine take_lit (i := 2) (v := ?_) rfl (by kernel_rfl) (by kernel_rfl) (by kernel_rfl) (fun _ _ _ h => h) (Or.inl ⟨by rfl, ?_⟩) trivial ?_
        case refine_2 => (intro w hSw; clear hSw; go_simp <;> with_reducible rfl)
        try simp only [Act.put, List.setIfInBounds_toArray, List.set_cons_zero, List.set_cons_succ]
        refine take_lit (i := 3) (v := ?_) rfl (by kernel_rfl) (by kernel_rfl) (by kernel_rfl) (fun _ _ _ h => h) (Or.inl ⟨by rfl, ?_⟩) trivial ?_
        case refine_2 => (intro w hSw; clear hSw; go_simp <;> with_reducible rfl)
        try simp only [Act.put, List.setIfInBounds_toArray, List.set_cons_zero, List.set_cons_succ]
        refine take_lit (i := 4) (v := ?_) rfl (by kernel_rfl) (by kernel_rfl) (by kernel_rfl) (fun _ _ _ h => h) (Or.inl ⟨by rfl, ?_⟩) trivial ?_
        case refine_2 => (intro w hSw; clear hSw; go_simp <;> with_reducible rfl)
        try simp only [Act.put, List.setIfInBounds_toArray, List.set_cons_zero, List.set_cons_succ]
        refine take_lit (i := 5) (v := undef) rfl (by kernel_rfl) (by kernel_rfl) (by kernel_rfl) (fun _ _ _ h => h) (Or.inr ⟨by rfl, rfl⟩) trivial ?_
        try simp only [Act.put, List.setIfInBounds_toArray, List.set_cons_zero, List.set_cons_succ]
        refine take_lit (i := 6) (v := undef) rfl (by kernel_rfl) (by kernel_rfl) (by kernel_rfl) (fun _ _ _ h => h) (Or.inr ⟨by rfl, rfl⟩) trivial ?_
        try simp only [Act.put, List.setIfInBounds_toArray, List.set_cons_zero, List.set_cons_succ]
        refine take_lit (i := 7) (v := ?_) rfl (by kernel_rfl) (by kernel_rfl) (by kernel_rfl) (fun _ _ _ h => h) (Or.inl ⟨by rfl, ?_⟩) trivial ?_
        case refine_2 => (intro w hSw; clear hSw; go_simp <;> with_reducible rfl)
        try simp only [Act.put, List.setIfInBounds_toArray, List.set_cons_zero, List.set_cons_succ]
        refine take_lit (i := 8) (v := ?_) rfl (by kernel_rfl) (by kernel_rfl) (by kernel_rfl) (fun _ _ _ h => h) (Or.inl ⟨by rfl, ?_⟩) trivial ?_
        case refine_2 => (intro w hSw; clear hSw; go_simp <;> with_reducible rfl)
        try simp only [Act.put, List.setIfInBounds_toArray, List.set_cons_zero, List.set_cons_succ]
        refine take_lit (i := 9) (v := ?_) rfl (by kernel_rfl) (by kernel_rfl) (by kernel_rfl) (fun _ _ _ h => h) (Or.inl ⟨by rfl, ?_⟩) trivial ?_
        case refine_2 => (intro w hSw; clear hSw; go_simp <;> with_reducible rfl)
        try simp only [Act.put, List.setIfInBounds_toArray, List.set_cons_zero, List.set_cons_succ]
        refine take_lit (i := 10) (v := ?_) rfl (by kernel_rfl) (by kernel_rfl) (by kernel_rfl) (fun _ _ _ h => h) (Or.inl ⟨by rfl, ?_⟩) trivial ?_
        case refine_2 => (intro w hSw; clear hSw; go_simp <;> with_reducible rfl)
        try simp only [Act.put, List.setIfInBounds_toArray, List.set_cons_zero, List.set_cons_succ]
        refine take_lit (i := 11) (v := ?_) rfl (by kernel_rfl) (by kernel_rfl) (by kernel_rfl) (fun _ _ _ h => h) (Or.inl ⟨by rfl, ?_⟩) trivial ?_
        case refine_2 => (intro w hSw; clear hSw; go_simp <;> with_reducible rfl)
        try simp only [Act.put, List.setIfInBounds_toArray, List.set_cons_zero, List.set_cons_succ]
        refine take_lit (i := 13) (v := ?_) rfl (by kernel_rfl) (by kernel_rfl) (by kernel_rfl) (fun _ _ _ h => h) (Or.inl ⟨by rfl, ?_⟩) trivial ?_
        case refine_2 => (intro w hSw; clear hSw; go_simp <;> with_reducible rfl)
        try simp only [Act.put, List.setIfInBounds_toArray, List.set_cons_zero, List.set_cons_succ]
        refine take_lit (i := 14) (v := ?_) rfl (by kernel_rfl) (by kernel_rfl) (by kernel_rfl) (fun _ _ _ h => h) (Or.inl ⟨by rfl, ?_⟩) trivial ?_
        case refine_2 => (intro w hSw; clear hSw; go_simp <;> with_reducible rfl)
        try simp only [Act.put, List.setIfInBounds_toArray, List.set_cons_zero, List.set_cons_succ]
        refine take_lit (i := 15) (v := ?_) rfl (by kernel_rfl) (by kernel_rfl) (by kernel_rfl) (fun _ _ _ h => h) (Or.inl ⟨by rfl, ?_⟩) trivial ?_
        case refine_2 => (intro w hSw; clear hSw; go_simp <;> with_reducible rfl)
        try simp only [Act.put, List.setIfInBounds_toArray, List.set_cons_zero, List.set_cons_succ]
        refine wpAnyH_ready (rs := [12]) (by kernel_rfl) (by simp) ?_
        refine ready_lit (i := 12) rfl (fun K hK => ?_)
        go_simp
        refine (HDG.out w1.drew (LexEnv.carry HE1.out ⟨rfl, rfl, rfl, Nat.le_refl _, fun _ _ => rfl⟩)).mono ?_
        rintro e w2 ⟨rfl, hb2⟩
        refine hK.out _ _ trivial (fun _ => ?_)
        clear hK K
        try simp only [Act.put, List.setIfInBounds_toArray, List.set_cons_zero, List.set_cons_succ]
        refine take_lit (i := 16) (v := ?_) rfl (by kernel_rfl) (by kernel_rfl) (by kernel_rfl) (fun _ _ _ h => h) (Or.inl ⟨by rfl, ?_⟩) trivial ?_
        case refine_2 => (intro w hSw; clear hSw; go_simp <;> with_reducible rfl)
        try simp only [Act.put, List.setIfInBounds_toArray, List.set_cons_zero, List.set_cons_succ]
        refine take_lit (i := 17) (v := ?_) rfl (by kernel_rfl) (by kernel_rfl) (by kernel_rfl) (fun _ _ _ h => h) (Or.inl ⟨by rfl, ?_⟩) trivial ?_
        case refine_2 => (intro w hSw; clear hSw; go_simp <;> with_reducible rfl)
        try simp only [Act.put, List.setIfInBounds_toArray, List.set_cons_zero, List.set_cons_succ]
        refine wpAnyH_done (by kernel_rfl) ?_ _
        refine NoPanic.normal ?_
        have hb3 : Below w1.heap.size w1 w2 := ⟨hb2.os, hb2.tape, hb2.output, hb2.size, hb2.block⟩
        have hby := (hb3.block w.heap.size (lt_of_block HBX.out)).trans HBX.out
        have r0 := obj_cell hby 0; have q0 := obj_free hby 0
        have r1 := obj_cell hby 1; have q1 := obj_free hby 1
        have r2 := obj_cell hby 2; have q2 := obj_free hby 2
        have r3 := obj_cell hby 3; have q3 := obj_free hby 3
        have r4 := obj_cell hby 4; have q4 := obj_free hby 4
        have HB2 := Lib.hid (HB1.out.trans (hb3.mono HB1.out.size))
        clear hb2 hb3 hby
        go_wp2
        rw [HF.out]
        refine bodyPost_ret (v := oneV (tk0, 0)) ?_ rfl ⟨rfl, (box_below (HB2.out) (Nat.le_refl _) _ _ _ _ _)⟩
        simp only [results, HRS.out, oneV, tkV, tk0]
        go_simp
        try rfl
  · have hbd : numBad t = true := by
      rw [hbad0]
      by_cases h1 : numDs t = []
      · rw [decide_eq_true h1]; rfl
      · rw [decide_eq_true (Nat.not_lt.mp (fun h => hok ⟨h1, h⟩) : 18446744073709551616 ≤ numV t), Bool.true_or, Bool.or_true]
    have HF : Hid (numR t = (tk0, 0)) := Lib.hid (by rw [hnu, hbd, if_pos rfl])
    have hnk : ∀ u, Lib.parseUintB 64 (numDs t) ≠ .ok u := by
      intro u hu
      rw [hpn] at hu
      by_cases h1 : numDs t = []
      · rw [if_pos h1] at hu; exact pu_none u hu
      · rw [if_neg h1, if_neg (fun h => hok ⟨h1, h⟩)] at hu; cases hu
    have HPU : Hid (∀ w, LexEnv w → Calls Tryd.prog 41 #[.string sg, .int .i64 10, .int .i64 64] w fun e w' => ∃ (x : Int) (N : Nat), e = .returned (.tuple #[.int .u64 x, .iface 96 (.pointer (some ⟨N, 0, none⟩))]) ∧ Below w.heap.size w w') := Lib.hid (fun w e => by rw [hsg]; exact pu_bad (numDs t) (by omega) hnk w e)
    clear hpn hbd hnk hnu hbad0 hstr hsg hbh hng hszz hct hfr hn hok
    go_enter Tryd.func28, Tryd.ntmps28
    go_wp2_with (first
      | (go_at_call 40; refine (HCP.out _).mono ?_; rintro e w2 ⟨rfl, rfl⟩)
      | (go_at_call 38; refine (HRN.out _).mono ?_; rintro e w2 ⟨rfl, rfl⟩)
      | (go_at_call 41; refine (HPU.out _ HE0.out).mono ?_; rintro e w1 ⟨x, N, rfl, hb1⟩; have hbx := (hb1.block w.heap.size (by simp)).trans (heap_alloc_new w (.cells #[.int .i64 0, .string ⟨#[]⟩, .int .u64 0, .bool false, .int .i64 0] 37)); have r0 := obj_cell hbx 0; have q0 := obj_free hbx 0; have r1 := obj_cell hbx 1; have q1 := obj_free hbx 1; have r2 := obj_cell hbx 2; have q2 := obj_free hbx 2; have r3 := obj_cell hbx 3; have q3 := obj_free hbx 3; have r4 := obj_cell hbx 4; have q4 := obj_free hbx 4; have HBX := Lib.hid hbx; have HB1 := Lib.hid (HB0.out.trans (hb1.mono HB0.out.size)); have HE1 := Lib.hid (HE0.out.carry hb1); clear hb1 hbx))
    refine wp_region_noPanic ?_
    refine wp_region_held_drew (S := fun _ => True) (by kernel_rfl) trivial (fun _ => ?_)
    refine take_lit (i := 0) (v := ?_) rfl (by kernel_rfl) (by kernel_rfl) (by kernel_rfl) (fun _ _ _ h => h) (Or.inl ⟨by rfl, ?_⟩) trivial ?_
    case refine_2 => (intro w hSw; clear hSw; go_simp <;> with_reducible rfl)
    try simp only [Act.put, List.setIfInBounds_toArray, List.set_cons_zero, List.set_cons_succ]
    refine take_lit (i := 1) (v := ?_) rfl (by kernel_rfl) (by kernel_rfl) (by kernel_rfl) (fun _ _ _ h => h) (Or.inl ⟨by rfl, ?_⟩) trivial ?_
    case refine_2 => (intro w hSw; clear hSw; go_simp <;> with_reducible rfl)
    try simp only [Act.put, List.setIfInBounds_toArray, List.set_cons_zero, List.set_cons_succ]
    refine take_lit (i := 2) (v := ?_) rfl (by kernel_rfl) (by kernel_rfl) (by kernel_rfl) (fun _ _ _ h => h) (Or.inl ⟨by rfl, ?_⟩) trivial ?_
    case refine_2 => (intro w hSw; clear hSw; go_simp <;> with_reducible rfl)
    try simp only [Act.put, List.setIfInBounds_toArray, List.set_cons_zero, List.set_cons_succ]
    refine take_lit (i := 3) (v := undef) rfl (by kernel_rfl) (by kernel_rfl) (by kernel_rfl) (fun _ _ _ h => h) (Or.inr ⟨by rfl, rfl⟩) trivial ?_
    try simp only [Act.put, List.setIfInBounds_toArray, List.set_cons_zero, List.set_cons_succ]
    refine take_lit (i := 4) (v := undef) rfl (by kernel_rfl) (by kernel_rfl) (by kernel_rfl) (fun _ _ _ h => h) (Or.inr ⟨by rfl, rfl⟩) trivial ?_
    try simp only [Act.put, List.setIfInBounds_toArray, List.set_cons_zero, List.set_cons_succ]
    refine take_lit (i := 5) (v := undef) rfl (by kernel_rfl) (by kernel_rfl) (by kernel_rfl) (fun _ _ _ h => h) (Or.inr ⟨by rfl, rfl⟩) trivial ?_
    try simp only [Act.put, List.setIfInBounds_toArray, List.set_cons_zero, List.set_cons_succ]
    refine take_lit (i := 6) (v := undef) rfl (by kernel_rfl) (by kernel_rfl) (by kernel_rfl) (fun _ _ _ h => h) (Or.inr ⟨by rfl, rfl⟩) trivial ?_
    try simp only [Act.put, List.setIfInBounds_toArray, List.set_cons_zero, List.set_cons_succ]
    refine take_lit (i := 7) (v := undef) rfl (by kernel_rfl) (by kernel_rfl) (by kernel_rfl) (fun _ _ _ h => h) (Or.inr ⟨by rfl, rfl⟩) trivial ?_
    try simp only [Act.put, List.setIfInBounds_toArray, List.set_cons_zero, List.set_cons_succ]
    refine take_lit (i := 8) (v := ?_) rfl (by kernel_rfl) (by kernel_rfl) (by kernel_rfl) (fun _ _ _ h => h) (Or.inl ⟨by rfl, ?_⟩) trivial ?_
    case refine_2 => (intro w hSw; clear hSw; go_simp <;> with_reducible rfl)
    try simp only [Act.put, List.setIfInBounds_toArray, List.set_cons_zero, List.set_cons_succ]
    refine take_lit (i := 9) (v := ?_) rfl (by kernel_rfl) (by kernel_rfl) (by kernel_rfl) (fun _ _ _ h => h) (Or.inl ⟨by rfl, ?_⟩) trivial ?_
    case refine_2 => (intro w hSw; clear hSw; go_simp <;> with_reducible rfl)
    try simp only [Act.put, List.setIfInBounds_toArray, List.set_cons_zero, List.set_cons_succ]
    refine take_lit (i := 10) (v := undef) rfl (by kernel_rfl) (by kernel_rfl) (by kernel_rfl) (fun _ _ _ h => h) (Or.inr ⟨by rfl, rfl⟩) trivial ?_
    try simp only [Act.put, List.setIfInBounds_toArray, List.set_cons_zero, List.set_cons_succ]
    refine take_lit (i := 11) (v := undef) rfl (by kernel_rfl) (by kernel_rfl) (by kernel_rfl) (fun _ _ _ h => h) (Or.inr ⟨by rfl, rfl⟩) trivial ?_
    try simp only [Act.put, List.setIfInBounds_toArray, List.set_cons_zero, List.set_cons_succ]
    refine take_lit (i := 12) (v := undef) rfl (by kernel_rfl) (by kernel_rfl) (by kernel_rfl) (fun _ _ _ h => h) (Or.inr ⟨by rfl, rfl⟩) trivial ?_
    try simp only [Act.put, List.setIfInBounds_toArray, List.set_cons_zero, List.set_cons_succ]
    refine take_lit (i := 13) (v := undef) rfl (by kernel_rfl) (by kernel_rfl) (by kernel_rfl) (fun _ _ _ h => h) (Or.inr ⟨by rfl, rfl⟩) trivial ?_
    try simp only [Act.put, List.setIfInBounds_toArray, List.set_cons_zero, List.set_cons_succ]
    refine take_lit (i := 14) (v := undef) rfl (by kernel_rfl) (by kernel_rfl) (by kernel_rfl) (fun _ _ _ h => h) (Or.inr ⟨by rfl, rfl⟩) trivial ?_
    try simp only [Act.put, List.setIfInBounds_toArray, List.set_cons_zero, List.set_cons_succ]
    refine take_lit (i := 15) (v := undef) rfl (by kernel_rfl) (by kernel_rfl) (by kernel_rfl) (fun _ _ _ h => h) (Or.inr ⟨by rfl, rfl⟩) trivial ?_
    try simp only [Act.put, List.setIfInBounds_toArray, List.set_cons_zero, List.set_cons_succ]
    refine take_lit (i := 16) (v := undef) rfl (by kernel_rfl) (by kernel_rfl) (by kernel_rfl) (fun _ _ _ h => h) (Or.inr ⟨by rfl, rfl⟩) trivial ?_
    try simp only [Act.put, List.setIfInBounds_toArray, List.set_cons_zero, List.set_cons_succ]
    refine take_lit (i := 17) (v := ?_) rfl (by kernel_rfl) (by kernel_rfl) (by kernel_rfl) (fun _ _ _ h => h) (Or.inl ⟨by rfl, ?_⟩) trivial ?_
    case refine_2 => (intro w hSw; clear hSw; go_simp <;> with_reducible rfl)
    try simp only [Act.put, List.setIfInBounds_toArray, List.set_cons_zero, List.set_cons_succ]
    refine wpAnyH_done (by kernel_rfl) ?_ _
    refine NoPanic.normal ?_
    go_wp2
    rw [HF.out]
    refine bodyPost_ret (v := oneV (tk0, 0)) ?_ rfl ⟨rfl, (box_below (HB1.out.drew) (Nat.le_refl _) _ _ _ _ _)⟩
    simp only [results, HRS.out, oneV, tkV, tk0]
    go_simp
    try rfl
end Go.Proofs.YtpnlbadmomaebaaDoor
