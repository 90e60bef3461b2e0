/- The program's layer 10: the token that a text begins with. Conditions: LexEnv; those that each theorem names. -/
import Derived.Test.YtpnlbadmomaebaaDoorLwN
import Derived.Test.YtpnlbadmomaebaaDoorLwT
namespace Go.Proofs.YtpnlbadmomaebaaDoor
open Go.RowKit
set_option linter.unusedVariables false
set_option maxRecDepth 100000

theorem ibm_any (c : UInt8) (w : World) : Calls Tryd.prog 24 #[.string ⟨#[123, 125, 40, 41, 61, 44, 46, 59]⟩, .int .u8 (c.toNat : Int)] w fun e w' => e = .returned (.int .i64 (Lib.indexByte [123, 125, 40, 41, 61, 44, 46, 59] (c.toNat : Int).toNat.toUInt8)) ∧ w' = w := ib_any ⟨#[123, 125, 40, 41, 61, 44, 46, 59]⟩ (c.toNat : Int) w

set_option maxHeartbeats 8000000 in
theorem xfirst_any (t : List UInt8) (c : UInt8) (w : World) (env : LexEnv w) (hl : t.length ≤ 1000) (h0 : t[0]? = some c) :
    Calls Tryd.prog 18 #[.string (strOf t)] w fun e w' => e = .returned (oneV (oneT t)) ∧ Below w.heap.size w w' := by
  have hres : Tryd.f18.results = #[.cell 2 37, .tmp 3] := by kernel_rfl
  have HRS := Lib.hid hres
  have htc : ∃ r, t = c :: r := by
    cases t with
    | nil => simp at h0
    | cons d q => simp at h0; subst h0; exact ⟨q, rfl⟩
  have HB0 : Hid (Below w.heap.size w (w.alloc (.cells #[.int .i64 0, .string ⟨#[]⟩, .int .u64 0, .bool false, .int .i64 0] 37))) := Lib.hid ((Below.refl _ w).alloc (Nat.le_refl _) _)
  have HE0 := Lib.hid (env.carry HB0.out)
  have HLA := Lib.hid (fun u => xletter_any c u)
  have HDA := Lib.hid (fun u => xdigit_any c u)
  obtain ⟨n, hn⟩ : ∃ n, n = t.length := ⟨_, rfl⟩
  obtain ⟨str, hstr⟩ : ∃ str, str = strOf t := ⟨_, rfl⟩
  have hsz : str.size = n := by rw [hstr, str_size, hn]
  have hn1 : 1 ≤ n := by have := (List.getElem?_eq_some_iff.mp h0).1; omega
  have hs0 : 0 < str.size := by omega
  have EC : str[0]'hs0 = c := by
    obtain ⟨q1, q2⟩ := List.getElem?_eq_some_iff.mp h0
    have := hstr
    subst this
    exact q2
  have gp : (0 : Int) < (n : Int) := by omega
  have g1 : (1 : Int) ≤ (n : Int) := by omega
  cases hla : letterB c with
  | true =>
    rw [hla] at HLA
    have HC : Hid (∀ u, LexEnv u → Calls Tryd.prog 26 #[.string str] u fun e w' => e = .returned (oneV (oneT t)) ∧ Below u.heap.size u w') := Lib.hid (fun u e => by
      obtain ⟨r, hr⟩ := htc
      have h := xname_any t u (by omega)
      have h2 := one_name (r := r) hla
      rw [← hr] at h2
      rw [hstr, h2]; exact h)
    rw [← hstr]
    clear hla htc hn hstr h0 env hres
    obtain ⟨R, hR⟩ : ∃ R, R = oneT t := ⟨_, rfl⟩
    rw [← hR] at HC ⊢
    obtain ⟨⟨kd, ss, nn, ng, ps⟩, q⟩ := R
    unfold oneV tkV at HC
    dsimp only at HC
    clear hR
    go_enter Tryd.func18, Tryd.ntmps18
    go_wp2_with (first
      | (go_at_call 25; (try rw [EC]); refine (HLA.out _).mono ?_; rintro e w2 ⟨rfl, rfl⟩)
      | (go_at_call 26; refine (HC.out _ HE0.out).mono ?_; rintro e w1 ⟨rfl, hb1⟩; have hbx := (hb1.block w.heap.size (by simp)).trans (heap_alloc_new w (.cells #[.int .i64 0, .string ⟨#[]⟩, .int .u64 0, .bool false, .int .i64 0] 37)); have r0 := obj_cell hbx 0; have q0 := obj_free hbx 0; have r1 := obj_cell hbx 1; have q1 := obj_free hbx 1; have r2 := obj_cell hbx 2; have q2 := obj_free hbx 2; have r3 := obj_cell hbx 3; have q3 := obj_free hbx 3; have r4 := obj_cell hbx 4; have q4 := obj_free hbx 4; have HB1 := Lib.hid (HB0.out.trans (hb1.mono HB0.out.size)); clear hb1 hbx))
    refine bodyPost_ret (v := oneV (⟨kd, ss, nn, ng, ps⟩, q)) ?_ rfl ⟨rfl, box_below HB1.out (Nat.le_refl _) _ _ _ _ _⟩
    simp only [results, HRS.out, oneV, tkV]
    go_simp
    try rfl
  | false =>
    rw [hla] at HLA
    cases hda : digitB c with
    | true =>
      rw [hda] at HDA
      have HC : Hid (∀ u, LexEnv u → Calls Tryd.prog 28 #[.string str] u fun e w' => e = .returned (oneV (oneT t)) ∧ Below u.heap.size u w') := Lib.hid (fun u e => by
        obtain ⟨r, hr⟩ := htc
        have h := xnumber_any t u e hl
        have h2 := one_num (r := r) hla (.inl hda)
        rw [← hr] at h2
        rw [hstr, h2]; exact h)
      rw [← hstr]
      clear hla hda htc hn hstr h0 env hres
      obtain ⟨R, hR⟩ : ∃ R, R = oneT t := ⟨_, rfl⟩
      rw [← hR] at HC ⊢
      obtain ⟨⟨kd, ss, nn, ng, ps⟩, q⟩ := R
      unfold oneV tkV at HC
      dsimp only at HC
      clear hR
      go_enter Tryd.func18, Tryd.ntmps18
      go_wp2_with (first
        | (go_at_call 25; (try rw [EC]); refine (HLA.out _).mono ?_; rintro e w2 ⟨rfl, rfl⟩)
        | (go_at_call 27; (try rw [EC]); refine (HDA.out _).mono ?_; rintro e w2 ⟨rfl, rfl⟩)
        | (go_at_call 28; refine (HC.out _ HE0.out).mono ?_; rintro e w1 ⟨rfl, hb1⟩; have hbx := (hb1.block w.heap.size (by simp)).trans (heap_alloc_new w (.cells #[.int .i64 0, .string ⟨#[]⟩, .int .u64 0, .bool false, .int .i64 0] 37)); have r0 := obj_cell hbx 0; have q0 := obj_free hbx 0; have r1 := obj_cell hbx 1; have q1 := obj_free hbx 1; have r2 := obj_cell hbx 2; have q2 := obj_free hbx 2; have r3 := obj_cell hbx 3; have q3 := obj_free hbx 3; have r4 := obj_cell hbx 4; have q4 := obj_free hbx 4; have HB1 := Lib.hid (HB0.out.trans (hb1.mono HB0.out.size)); clear hb1 hbx))
      refine bodyPost_ret (v := oneV (⟨kd, ss, nn, ng, ps⟩, q)) ?_ rfl ⟨rfl, box_below HB1.out (Nat.le_refl _) _ _ _ _ _⟩
      simp only [results, HRS.out, oneV, tkV]
      go_simp
      try rfl
    | false =>
      rw [hda] at HDA
      by_cases h45 : c.toNat = 45
      · have HC : Hid (∀ u, LexEnv u → Calls Tryd.prog 28 #[.string str] u fun e w' => e = .returned (oneV (oneT t)) ∧ Below u.heap.size u w') := Lib.hid (fun u e => by
          obtain ⟨r, hr⟩ := htc
          have h := xnumber_any t u e hl
          have h2 := one_num (r := r) hla (.inr h45)
          rw [← hr] at h2
          rw [hstr, h2]; exact h)
        have e45 : ((c.toNat : Int) == 45) = true := by rw [h45]; rfl
        have d45 : ((c.toNat : Int) == (((({ data := #[45] } : ByteArray)[0]'(by decide)).toNat : Nat) : Int)) = true := e45
        rw [← hstr]
        clear hla hda htc hn hstr h0 env hres h45
        obtain ⟨R, hR⟩ : ∃ R, R = oneT t := ⟨_, rfl⟩
        rw [← hR] at HC ⊢
        obtain ⟨⟨kd, ss, nn, ng, ps⟩, q⟩ := R
        unfold oneV tkV at HC
        dsimp only at HC
        clear hR
        go_enter Tryd.func18, Tryd.ntmps18
        go_wp2_with (first
          | (go_at_call 25; (try rw [EC]); refine (HLA.out _).mono ?_; rintro e w2 ⟨rfl, rfl⟩)
          | (go_at_call 27; (try rw [EC]); refine (HDA.out _).mono ?_; rintro e w2 ⟨rfl, rfl⟩)
          | (go_at_call 28; refine (HC.out _ HE0.out).mono ?_; rintro e w1 ⟨rfl, hb1⟩; have hbx := (hb1.block w.heap.size (by simp)).trans (heap_alloc_new w (.cells #[.int .i64 0, .string ⟨#[]⟩, .int .u64 0, .bool false, .int .i64 0] 37)); have r0 := obj_cell hbx 0; have q0 := obj_free hbx 0; have r1 := obj_cell hbx 1; have q1 := obj_free hbx 1; have r2 := obj_cell hbx 2; have q2 := obj_free hbx 2; have r3 := obj_cell hbx 3; have q3 := obj_free hbx 3; have r4 := obj_cell hbx 4; have q4 := obj_free hbx 4; have HB1 := Lib.hid (HB0.out.trans (hb1.mono HB0.out.size)); clear hb1 hbx))
        refine bodyPost_ret (v := oneV (⟨kd, ss, nn, ng, ps⟩, q)) ?_ rfl ⟨rfl, box_below HB1.out (Nat.le_refl _) _ _ _ _ _⟩
        simp only [results, HRS.out, oneV, tkV]
        go_simp
        try rfl
      · have e45 : ((c.toNat : Int) == 45) = false := beq_false_of_ne (by omega)
        have d45 : ((c.toNat : Int) == (((({ data := #[45] } : ByteArray)[0]'(by decide)).toNat : Nat) : Int)) = false := e45
        have f45 : ¬ (c.toNat : Int) = 45 := by omega
        by_cases h39 : c.toNat = 39
        · have HC : Hid (∀ u, LexEnv u → Calls Tryd.prog 29 #[.string str] u fun e w' => e = .returned (oneV (oneT t)) ∧ Below u.heap.size u w') := Lib.hid (fun u e => by
            obtain ⟨r, hr⟩ := htc
            have h := xtext_any t c u e hl h0 h39
            have h2 := one_txt (r := r) h39
            rw [← hr] at h2
            rw [hstr, h2]; exact h)
          have e39 : ((c.toNat : Int) == 39) = true := by rw [h39]; rfl
          have d39 : ((c.toNat : Int) == (((({ data := #[39] } : ByteArray)[0]'(by decide)).toNat : Nat) : Int)) = true := e39
          rw [← hstr]
          clear hla hda htc hn hstr h0 env hres h45 h39
          obtain ⟨R, hR⟩ : ∃ R, R = oneT t := ⟨_, rfl⟩
          rw [← hR] at HC ⊢
          obtain ⟨⟨kd, ss, nn, ng, ps⟩, q⟩ := R
          unfold oneV tkV at HC
          dsimp only at HC
          clear hR
          go_enter Tryd.func18, Tryd.ntmps18
          go_wp2_with (first
            | (go_at_call 25; (try rw [EC]); refine (HLA.out _).mono ?_; rintro e w2 ⟨rfl, rfl⟩)
            | (go_at_call 27; (try rw [EC]); refine (HDA.out _).mono ?_; rintro e w2 ⟨rfl, rfl⟩)
            | (go_at_call 29; refine (HC.out _ HE0.out).mono ?_; rintro e w1 ⟨rfl, hb1⟩; have hbx := (hb1.block w.heap.size (by simp)).trans (heap_alloc_new w (.cells #[.int .i64 0, .string ⟨#[]⟩, .int .u64 0, .bool false, .int .i64 0] 37)); have r0 := obj_cell hbx 0; have q0 := obj_free hbx 0; have r1 := obj_cell hbx 1; have q1 := obj_free hbx 1; have r2 := obj_cell hbx 2; have q2 := obj_free hbx 2; have r3 := obj_cell hbx 3; have q3 := obj_free hbx 3; have r4 := obj_cell hbx 4; have q4 := obj_free hbx 4; have HB1 := Lib.hid (HB0.out.trans (hb1.mono HB0.out.size)); clear hb1 hbx))
          refine bodyPost_ret (v := oneV (⟨kd, ss, nn, ng, ps⟩, q)) ?_ rfl ⟨rfl, box_below HB1.out (Nat.le_refl _) _ _ _ _ _⟩
          simp only [results, HRS.out, oneV, tkV]
          go_simp
          try rfl
        · have e39 : ((c.toNat : Int) == 39) = false := beq_false_of_ne (by omega)
          have d39 : ((c.toNat : Int) == (((({ data := #[39] } : ByteArray)[0]'(by decide)).toNat : Nat) : Int)) = false := e39
          have f39 : ¬ (c.toNat : Int) = 39 := by omega
          have HIB := Lib.hid (fun u => ibm_any c u)
          have hmi := mark_index c
          obtain ⟨ix, hix⟩ : ∃ ix, ix = Lib.indexByte [123, 125, 40, 41, 61, 44, 46, 59] (c.toNat : Int).toNat.toUInt8 := ⟨_, rfl⟩
          rw [← hix] at HIB hmi
          cases hmk : markB c with
          | true =>
            rw [hmk] at hmi
            have hge : 0 ≤ ix := of_decide_eq_true hmi
            have HO : Hid (oneT t = (⟨4, [c], 0, false, 0⟩, 1)) := Lib.hid (by
              obtain ⟨r, hr⟩ := htc
              rw [hr]; exact one_mark hmk)
            obtain ⟨sc, hsc⟩ : ∃ sc, sc = strOf [c] := ⟨_, rfl⟩
            have hex : str.extract 0 1 = sc := by
              obtain ⟨r, hr⟩ := htc
              rw [hsc, hstr, strOf_extract, hr]; rfl
            have HC := Lib.hid (fun u => cl_any sc u (by rw [hsc, str_size]; simp))
            have HSC := Lib.hid hsc
            rw [← hstr]
            clear hla hda htc hn hstr h0 env hres h45 h39 hmk hix hsc
            go_enter Tryd.func18, Tryd.ntmps18
            go_wp2_with (first
              | (go_at_call 25; (try rw [EC]); refine (HLA.out _).mono ?_; rintro e w2 ⟨rfl, rfl⟩)
              | (go_at_call 27; (try rw [EC]); refine (HDA.out _).mono ?_; rintro e w2 ⟨rfl, rfl⟩)
              | (go_at_call 24; (try rw [EC]); refine (HIB.out _).mono ?_; rintro e w2 ⟨rfl, rfl⟩)
              | (go_at_call 30; refine (HC.out _).mono ?_; rintro e w1 ⟨rfl, hb1⟩; have hbx := (hb1.block w.heap.size (by simp)).trans (heap_alloc_new w (.cells #[.int .i64 0, .string ⟨#[]⟩, .int .u64 0, .bool false, .int .i64 0] 37)); have r0 := obj_cell hbx 0; have q0 := obj_free hbx 0; have r1 := obj_cell hbx 1; have q1 := obj_free hbx 1; have r2 := obj_cell hbx 2; have q2 := obj_free hbx 2; have r3 := obj_cell hbx 3; have q3 := obj_free hbx 3; have r4 := obj_cell hbx 4; have q4 := obj_free hbx 4; have HB1 := Lib.hid (HB0.out.trans (hb1.mono HB0.out.size)); clear hb1 hbx))
            rw [HO.out]
            refine bodyPost_ret (v := oneV (⟨4, [c], 0, false, 0⟩, 1)) ?_ rfl ⟨rfl, box_below HB1.out (Nat.le_refl _) _ _ _ _ _⟩
            simp only [results, HRS.out, oneV, tkV, ← HSC.out]
            go_simp
            try rfl
          | false =>
            rw [hmk] at hmi
            have hge : ¬ 0 ≤ ix := of_decide_eq_false hmi
            have HO : Hid (oneT t = (tk0, 0)) := Lib.hid (by
              obtain ⟨r, hr⟩ := htc
              rw [hr]; exact one_none hla hda h45 h39 hmk)
            rw [← hstr]
            clear hla hda htc hn hstr h0 env hres h45 h39 hmk hix
            go_enter Tryd.func18, Tryd.ntmps18
            go_wp2_with (first
              | (go_at_call 25; (try rw [EC]); refine (HLA.out _).mono ?_; rintro e w2 ⟨rfl, rfl⟩)
              | (go_at_call 27; (try rw [EC]); refine (HDA.out _).mono ?_; rintro e w2 ⟨rfl, rfl⟩)
              | (go_at_call 24; (try rw [EC]); refine (HIB.out _).mono ?_; rintro e w2 ⟨rfl, rfl⟩))
            rw [HO.out]
            refine bodyPost_ret (v := oneV (tk0, 0)) ?_ rfl ⟨rfl, HB0.out⟩
            simp only [results, HRS.out, oneV, tkV, tk0]
            go_simp
            try rfl
end Go.Proofs.YtpnlbadmomaebaaDoor
