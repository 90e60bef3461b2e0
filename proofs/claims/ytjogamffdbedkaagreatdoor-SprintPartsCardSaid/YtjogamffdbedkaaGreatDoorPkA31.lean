/- Several texts in one: RvB, RvD, RvH, RvJ, SpMath, SpInj. What each proves, and its conditions, stands at its own head. -/
import Derived.Test.YtjogamffdbedkaaGreatDoorPkA22
import Derived.Test.YtjogamffdbedkaaGreatDoorPkA30
import Derived.Test.YtjogamffdbedkaaGreatDoorPkA21
import Derived.Test.YtjogamffdbedkaaGreatDoorPkA20
/- The document's layer 15: names, fields. Conditions: those that each theorem names. -/
namespace Go.Proofs.YtjogamffdbedkaaGreatDoor
open Go.RowKit
set_option linter.unusedVariables false
set_option maxRecDepth 100000

set_option maxHeartbeats 4000000 in
theorem rvtext_any {S : Nat → Nat → Prop} (w : World) {A A2 : Option Addr} {n cap n2 cap2 : Nat} {s : Sc} (h : ScAt S w A n cap A2 n2 cap2 s) :
    Calls Tryz.prog 24 #[.agg #[.slice A n cap, .slice A2 n2 cap2]] w fun e w' => e = .returned (.bool (scTextT s)) ∧ Below w.heap.size w w' := by
  obtain ⟨m1, m2, m3, m4⟩ := scAt_max h
  have H := Lib.hid h
  have HBX := Lib.hid (bx_start w #[.slice A n cap, .slice A2 n2 cap2] 25)
  have HV : Hid (scTextT s = ((false || s.enums.any textE) || s.msgs.any textM)) := Lib.hid rfl
  clear h
  have r0 := obj_cell (HBX.out).b_blk 0
  have r1 := obj_cell (HBX.out).b_blk 1
  go_enter Tryz.func24, Tryz.ntmps24
  go_wp2
  clear r0 r1
  go_loopg [3, 4] n (fun gz x0 x1 wr => ∃ i : Nat, x1 = .int .i64 (i : Int) ∧ i + gz = n ∧ x0 = .bool (false || (s.enums.take i).any textE) ∧ Bx w wr (.cells #[.slice A n cap, .slice A2 n2 cap2] 25 (0, 0)))
  case atStart => exact ⟨0, rfl, by omega, by simp, HBX.out⟩
  case round =>
    obtain ⟨i, rfl, hi, rfl, hbx⟩ := hrel
    have HBX := Lib.hid hbx
    clear hbx
    have r0 := obj_cell (HBX.out).b_blk 0
    have r1 := obj_cell (HBX.out).b_blk 1
    obtain ⟨g0, hg0⟩ : ∃ g0, g0 = gk := ⟨_, rfl⟩
    subst hg0
    by_cases hlti : i < n
    · have ti : decide ((i : Int) < (n : Int)) = true := decide_eq_true (by omega)
      obtain ⟨x, hx⟩ : ∃ x, s.enums[i]? = some x := ⟨_, List.getElem?_eq_getElem (by have := H.out.s_ne; omega)⟩
      have HXI := Lib.hid hx
      obtain ⟨ge, oe, A1, cap1, rfl, _, hc, hl⟩ := en_at H.out.s_e hx
      have q1 := hl.l_le
      have q2 := hl.l_max
      unfold maxLen at q2
      have HL := Lib.hid hl
      obtain ⟨nv, hnv⟩ : ∃ nv, nv = x.values.length := ⟨_, rfl⟩
      have HNV := Lib.hid hnv
      rw [← hnv] at hc q1
      obtain ⟨sn, hsn⟩ : ∃ sn, sn = strOf x.name := ⟨_, rfl⟩
      have HSN := Lib.hid hsn
      rw [← hsn] at hc
      have HC := Lib.hid hc
      clear hx hl hnv hsn hc
      obtain ⟨c0, c1⟩ := HC.out _ HBX.out.b_bel
      have HX := Lib.hid (any_snoc s.enums textE i x HXI.out)
      obtain ⟨r, hr⟩ : ∃ r, r = nameB x.name := ⟨_, rfl⟩
      have HR := Lib.hid (fun u => rname_any u x.name)
      rw [← hr, ← HSN.out] at HR
      have HD : Hid (textE x = (!r || x.values.any textV)) := Lib.hid (by unfold textE badName; rw [hr])
      clear hr
      obtain ⟨b0, hb0⟩ : ∃ b0, b0 = (false || (s.enums.take i).any textE || !r) := ⟨_, rfl⟩
      have HB0 := Lib.hid hb0
      clear hb0
      obtain ⟨b, hb⟩ : ∃ b, b = (false || (s.enums.take i).any textE) := ⟨_, rfl⟩
      have HBB := Lib.hid hb
      rw [← hb]
      clear hb
      cases b with
      | true =>
        go_wp2
        clear c0 c1
        clear r0 r1
        go_loopg [3, 5] nv (fun gz x0 x1 wr => ∃ k : Nat, x1 = .int .i64 (k : Int) ∧ k + gz = nv ∧ x0 = .bool (b0 || (x.values.take k).any textV) ∧ Bx w wr (.cells #[.slice (some ⟨ge, oe, none⟩) n cap, .slice A2 n2 cap2] 25 (0, 0)))
        case atStart => exact ⟨0, rfl, by omega, by rw [HB0.out, ← HBB.out]; simp, HBX.out⟩
        case round =>
          obtain ⟨k, rfl, hk, rfl, hbx⟩ := hrel
          have HBX := Lib.hid hbx
          clear hbx
          have r0 := obj_cell (HBX.out).b_blk 0
          have r1 := obj_cell (HBX.out).b_blk 1
          obtain ⟨g1, hg1⟩ : ∃ g1, g1 = gk := ⟨_, rfl⟩
          subst hg1
          by_cases hltk : k < nv
          · have tk : decide ((k : Int) < (nv : Int)) = true := decide_eq_true (by omega)
            obtain ⟨v, hv⟩ : ∃ v, x.values[k]? = some v := ⟨_, List.getElem?_eq_getElem (by have := HNV.out; omega)⟩
            have HVI := Lib.hid hv
            obtain ⟨gv, ov, rfl, _, hcv⟩ := vl_at HL.out hv
            obtain ⟨c0, c1⟩ := HC.out _ HBX.out.b_bel
            obtain ⟨d0, d1⟩ := hcv _ HBX.out.b_bel
            obtain ⟨sv, hsv⟩ : ∃ sv, sv = strOf v.name := ⟨_, rfl⟩
            obtain ⟨rv, hrv⟩ : ∃ rv, rv = nameB v.name := ⟨_, rfl⟩
            have HRV := Lib.hid (fun u => rname_any u v.name)
            rw [← hrv, ← hsv] at HRV
            rw [← hsv] at d0
            have HDV : Hid (textV v = !rv) := Lib.hid (by unfold textV badName; rw [hrv])
            have HXV := Lib.hid (any_snoc x.values textV k v HVI.out)
            clear hv hsv hrv hcv
            obtain ⟨b, hb⟩ : ∃ b, b = (b0 || (x.values.take k).any textV) := ⟨_, rfl⟩
            have HBB := Lib.hid hb
            rw [← hb]
            clear hb
            cases b with
            | true =>
              go_wp2
              go_roundg (g1 - 1)
              case measure => omega
              case rel => exact ⟨k + 1, by go_num, by omega, by rw [HXV.out, ← Bool.or_assoc, ← HBB.out]; rfl, HBX.out⟩
            | false =>
              go_wp2_with (first
                | (go_at_call 48; refine (HRV.out _).mono ?_; rintro e w1 ⟨rfl, hb⟩; replace HBX := Lib.hid (bx_step HBX.out hb); clear hb; have r0 := obj_cell HBX.out.b_blk 0; have r1 := obj_cell HBX.out.b_blk 1))
              go_roundg (g1 - 1)
              case measure => omega
              case rel => exact ⟨k + 1, by go_num, by omega, by rw [HXV.out, ← Bool.or_assoc, ← HBB.out, HDV.out]; simp, HBX.out⟩
          · have tk : decide ((k : Int) < (nv : Int)) = false := decide_eq_false (by omega)
            rw [any_whole x.values textV k (by have := HNV.out; omega)]
            obtain ⟨c0, c1⟩ := HC.out _ HBX.out.b_bel
            go_wp2
            go_roundg (g0 - 1)
            case measure => omega
            case rel => exact ⟨i + 1, by go_num, by omega, by rw [HX.out, HD.out, HB0.out]; simp only [Bool.or_assoc], HBX.out⟩
      | false =>
        go_wp2_with (first
          | (go_at_call 48; refine (HR.out _).mono ?_; rintro e w1 ⟨rfl, hb⟩; replace HBX := Lib.hid (bx_step HBX.out hb); clear hb; have r0 := obj_cell HBX.out.b_blk 0; have r1 := obj_cell HBX.out.b_blk 1))
        clear c0 c1
        clear r0 r1
        go_loopg [3, 5] nv (fun gz x0 x1 wr => ∃ k : Nat, x1 = .int .i64 (k : Int) ∧ k + gz = nv ∧ x0 = .bool (b0 || (x.values.take k).any textV) ∧ Bx w wr (.cells #[.slice (some ⟨ge, oe, none⟩) n cap, .slice A2 n2 cap2] 25 (0, 0)))
        case atStart => exact ⟨0, rfl, by omega, by rw [HB0.out, ← HBB.out]; simp, HBX.out⟩
        case round =>
          obtain ⟨k, rfl, hk, rfl, hbx⟩ := hrel
          have HBX := Lib.hid hbx
          clear hbx
          have r0 := obj_cell (HBX.out).b_blk 0
          have r1 := obj_cell (HBX.out).b_blk 1
          obtain ⟨g1, hg1⟩ : ∃ g1, g1 = gk := ⟨_, rfl⟩
          subst hg1
          by_cases hltk : k < nv
          · have tk : decide ((k : Int) < (nv : Int)) = true := decide_eq_true (by omega)
            obtain ⟨v, hv⟩ : ∃ v, x.values[k]? = some v := ⟨_, List.getElem?_eq_getElem (by have := HNV.out; omega)⟩
            have HVI := Lib.hid hv
            obtain ⟨gv, ov, rfl, _, hcv⟩ := vl_at HL.out hv
            obtain ⟨c0, c1⟩ := HC.out _ HBX.out.b_bel
            obtain ⟨d0, d1⟩ := hcv _ HBX.out.b_bel
            obtain ⟨sv, hsv⟩ : ∃ sv, sv = strOf v.name := ⟨_, rfl⟩
            obtain ⟨rv, hrv⟩ : ∃ rv, rv = nameB v.name := ⟨_, rfl⟩
            have HRV := Lib.hid (fun u => rname_any u v.name)
            rw [← hrv, ← hsv] at HRV
            rw [← hsv] at d0
            have HDV : Hid (textV v = !rv) := Lib.hid (by unfold textV badName; rw [hrv])
            have HXV := Lib.hid (any_snoc x.values textV k v HVI.out)
            clear hv hsv hrv hcv
            obtain ⟨b, hb⟩ : ∃ b, b = (b0 || (x.values.take k).any textV) := ⟨_, rfl⟩
            have HBB := Lib.hid hb
            rw [← hb]
            clear hb
            cases b with
            | true =>
              go_wp2
              go_roundg (g1 - 1)
              case measure => omega
              case rel => exact ⟨k + 1, by go_num, by omega, by rw [HXV.out, ← Bool.or_assoc, ← HBB.out]; rfl, HBX.out⟩
            | false =>
              go_wp2_with (first
                | (go_at_call 48; refine (HRV.out _).mono ?_; rintro e w1 ⟨rfl, hb⟩; replace HBX := Lib.hid (bx_step HBX.out hb); clear hb; have r0 := obj_cell HBX.out.b_blk 0; have r1 := obj_cell HBX.out.b_blk 1))
              go_roundg (g1 - 1)
              case measure => omega
              case rel => exact ⟨k + 1, by go_num, by omega, by rw [HXV.out, ← Bool.or_assoc, ← HBB.out, HDV.out]; simp, HBX.out⟩
          · have tk : decide ((k : Int) < (nv : Int)) = false := decide_eq_false (by omega)
            rw [any_whole x.values textV k (by have := HNV.out; omega)]
            obtain ⟨c0, c1⟩ := HC.out _ HBX.out.b_bel
            go_wp2
            go_roundg (g0 - 1)
            case measure => omega
            case rel => exact ⟨i + 1, by go_num, by omega, by rw [HX.out, HD.out, HB0.out]; simp only [Bool.or_assoc], HBX.out⟩
    · have ti : decide ((i : Int) < (n : Int)) = false := decide_eq_false (by omega)
      rw [any_whole s.enums textE i (by have := H.out.s_ne; omega)]
      obtain ⟨h2, hh2⟩ : ∃ h2, h2 = (false || s.enums.any textE) := ⟨_, rfl⟩
      rw [← hh2] at HV ⊢
      clear hh2
      go_wp2
      clear r0 r1
      go_loopg [3, 6] n2 (fun gz x0 x1 wr => ∃ i : Nat, x1 = .int .i64 (i : Int) ∧ i + gz = n2 ∧ x0 = .bool (h2 || (s.msgs.take i).any textM) ∧ Bx w wr (.cells #[.slice A n cap, .slice A2 n2 cap2] 25 (0, 0)))
      case atStart => exact ⟨0, rfl, by omega, by simp, HBX.out⟩
      case round =>
        obtain ⟨i, rfl, hi, rfl, hbx⟩ := hrel
        have HBX := Lib.hid hbx
        clear hbx
        have r0 := obj_cell (HBX.out).b_blk 0
        have r1 := obj_cell (HBX.out).b_blk 1
        obtain ⟨g0, hg0⟩ : ∃ g0, g0 = gk := ⟨_, rfl⟩
        subst hg0
        by_cases hlti : i < n2
        · have ti : decide ((i : Int) < (n2 : Int)) = true := decide_eq_true (by omega)
          obtain ⟨x, hx⟩ : ∃ x, s.msgs[i]? = some x := ⟨_, List.getElem?_eq_getElem (by have := H.out.s_nm; omega)⟩
          have HXI := Lib.hid hx
          obtain ⟨ge, oe, A1, cap1, A3, cap3, rfl, _, hc, hl, hl2⟩ := ms_at H.out.s_m hx
          have q1 := hl.l_le
          have q2 := hl.l_max
          have q3 := hl2.l_le
          have q4 := hl2.l_max
          unfold maxLen at q2 q4
          have HL := Lib.hid hl
          have HL2 := Lib.hid hl2
          obtain ⟨nf, hnf⟩ : ∃ nf, nf = x.fields.length := ⟨_, rfl⟩
          obtain ⟨nb, hnb⟩ : ∃ nb, nb = x.barred.length := ⟨_, rfl⟩
          have HNF := Lib.hid hnf
          have HNB := Lib.hid hnb
          rw [← hnf] at hc q1
          rw [← hnb] at hc q3
          obtain ⟨sn, hsn⟩ : ∃ sn, sn = strOf x.name := ⟨_, rfl⟩
          have HSN := Lib.hid hsn
          rw [← hsn] at hc
          have HC := Lib.hid hc
          clear hx hl hl2 hnf hnb hsn hc
          obtain ⟨c0, c1, c2⟩ := HC.out _ HBX.out.b_bel
          have HX := Lib.hid (any_snoc s.msgs textM i x HXI.out)
          obtain ⟨r, hr⟩ : ∃ r, r = nameB x.name := ⟨_, rfl⟩
          have HR := Lib.hid (fun u => rname_any u x.name)
          rw [← hr, ← HSN.out] at HR
          have HD : Hid (textM x = !r) := Lib.hid (by unfold textM badName; rw [hr])
          clear hr
          obtain ⟨b, hb⟩ : ∃ b, b = (h2 || (s.msgs.take i).any textM) := ⟨_, rfl⟩
          have HBB := Lib.hid hb
          rw [← hb]
          clear hb
          cases b with
          | true =>
            go_wp2
            go_roundg (g0 - 1)
            case measure => omega
            case rel => exact ⟨i + 1, by go_num, by omega, by rw [HX.out, ← Bool.or_assoc, ← HBB.out]; rfl, HBX.out⟩
          | false =>
            go_wp2_with (first
              | (go_at_call 48; refine (HR.out _).mono ?_; rintro e w1 ⟨rfl, hb⟩; replace HBX := Lib.hid (bx_step HBX.out hb); clear hb; have r0 := obj_cell HBX.out.b_blk 0; have r1 := obj_cell HBX.out.b_blk 1))
            go_roundg (g0 - 1)
            case measure => omega
            case rel => exact ⟨i + 1, by go_num, by omega, by rw [HX.out, ← Bool.or_assoc, ← HBB.out, HD.out]; simp, HBX.out⟩
        · have ti : decide ((i : Int) < (n2 : Int)) = false := decide_eq_false (by omega)
          rw [any_whole s.msgs textM i (by have := H.out.s_nm; omega)]
          rw [← HV.out]
          go_wp2
          go_ret
          exact ⟨rfl, HBX.out.b_bel⟩
set_option maxHeartbeats 4000000 in
theorem rvfields_any {S : Nat → Nat → Prop} (w : World) {A A2 : Option Addr} {n cap n2 cap2 : Nat} {s : Sc} (h : ScAt S w A n cap A2 n2 cap2 s) :
    Calls Tryz.prog 25 #[.agg #[.slice A n cap, .slice A2 n2 cap2]] w fun e w' => e = .returned (.int .i64 (fieldsT s)) ∧ Below w.heap.size w w' := by
  obtain ⟨m1, m2, m3, m4⟩ := scAt_max h
  have H := Lib.hid h
  have HBX := Lib.hid (bx_start w #[.slice A n cap, .slice A2 n2 cap2] 25)
  clear h
  have r0 := obj_cell (HBX.out).b_blk 0
  have r1 := obj_cell (HBX.out).b_blk 1
  go_enter Tryz.func25, Tryz.ntmps25
  go_wp2
  clear r0 r1
  go_loopg [3] n2 (fun gz x0 wr => ∃ i : Nat, x0 = .int .i64 (i : Int) ∧ i + gz = n2 ∧ firstBad ((s.msgs.take i).flatMap Ms.fields) = 0 ∧ Bx w wr (.cells #[.slice A n cap, .slice A2 n2 cap2] 25 (0, 0)))
  case atStart => exact ⟨0, rfl, by omega, rfl, HBX.out⟩
  case round =>
    obtain ⟨i, rfl, hi, hfb, hbx⟩ := hrel
    have HBX := Lib.hid hbx
    clear hbx
    have r0 := obj_cell (HBX.out).b_blk 0
    have r1 := obj_cell (HBX.out).b_blk 1
    obtain ⟨g0, hg0⟩ : ∃ g0, g0 = gk := ⟨_, rfl⟩
    subst hg0
    by_cases hlti : i < n2
    · have ti : decide ((i : Int) < (n2 : Int)) = true := decide_eq_true (by omega)
      obtain ⟨x, hx⟩ : ∃ x, s.msgs[i]? = some x := ⟨_, List.getElem?_eq_getElem (by have := H.out.s_nm; omega)⟩
      have HXI := Lib.hid hx
      obtain ⟨ge, oe, A1, cap1, A3, cap3, rfl, _, hc, hl, hl2⟩ := ms_at H.out.s_m hx
      have q1 := hl.l_le
      have q2 := hl.l_max
      have q3 := hl2.l_le
      have q4 := hl2.l_max
      unfold maxLen at q2 q4
      have HL := Lib.hid hl
      have HL2 := Lib.hid hl2
      obtain ⟨nf, hnf⟩ : ∃ nf, nf = x.fields.length := ⟨_, rfl⟩
      obtain ⟨nb, hnb⟩ : ∃ nb, nb = x.barred.length := ⟨_, rfl⟩
      have HNF := Lib.hid hnf
      have HNB := Lib.hid hnb
      rw [← hnf] at hc q1
      rw [← hnb] at hc q3
      obtain ⟨sn, hsn⟩ : ∃ sn, sn = strOf x.name := ⟨_, rfl⟩
      have HSN := Lib.hid hsn
      rw [← hsn] at hc
      have HC := Lib.hid hc
      clear hx hl hl2 hnf hnb hsn hc
      obtain ⟨c0, c1, c2⟩ := HC.out _ HBX.out.b_bel
      have HFB := Lib.hid hfb
      clear hfb
      go_wp2
      clear c0 c1 c2
      clear r0 r1
      go_loopg [4] nf (fun gz x0 wr => ∃ k : Nat, x0 = .int .i64 (k : Int) ∧ k + gz = nf ∧ firstBad ((s.msgs.take i).flatMap Ms.fields ++ x.fields.take k) = 0 ∧ Bx w wr (.cells #[.slice A n cap, .slice (some ⟨ge, oe, none⟩) n2 cap2] 25 (0, 0)))
      case atStart => exact ⟨0, rfl, by omega, by rw [List.take_zero, List.append_nil]; exact HFB.out, HBX.out⟩
      case round =>
        obtain ⟨k, rfl, hk, hfk, hbx⟩ := hrel
        have HBX := Lib.hid hbx
        clear hbx
        have r0 := obj_cell (HBX.out).b_blk 0
        have r1 := obj_cell (HBX.out).b_blk 1
        obtain ⟨g1, hg1⟩ : ∃ g1, g1 = gk := ⟨_, rfl⟩
        subst hg1
        by_cases hltk : k < nf
        · have tk : decide ((k : Int) < (nf : Int)) = true := decide_eq_true (by omega)
          obtain ⟨f, hf⟩ : ∃ f, x.fields[k]? = some f := ⟨_, List.getElem?_eq_getElem (by have := HNF.out; omega)⟩
          have HFI := Lib.hid hf
          obtain ⟨gf, of, rfl, _, hcf⟩ := fd_at HL.out hf
          have HCF := Lib.hid hcf
          clear hf hcf
          have HFK := Lib.hid hfk
          clear hfk
          obtain ⟨c0, c1, c2⟩ := HC.out _ HBX.out.b_bel
          obtain ⟨d0, d1, d2, d3, d4, d5, d6⟩ := HCF.out _ HBX.out.b_bel
          have HK := Lib.hid (fun u => rfcheck_any f u)
          have HSP := Lib.hid (fields_split HXI.out HFI.out)
          have HTK := Lib.hid (split_take HFI.out)
          obtain ⟨C, hC⟩ : ∃ C, C = fcheckT f := ⟨_, rfl⟩
          have HCC := Lib.hid hC
          rw [← hC] at HK
          clear hC
          obtain ⟨name, num, ty, ref, rep, loose, one⟩ := f
          unfold fdV at HK
          dsimp only at HK d0 d1 d2 d3 d4 d5 d6
          obtain ⟨sn1, hsn1⟩ : ∃ z, z = strOf name := ⟨_, rfl⟩
          obtain ⟨sr1, hsr1⟩ : ∃ z, z = strOf ref := ⟨_, rfl⟩
          obtain ⟨so1, hso1⟩ : ∃ z, z = strOf one := ⟨_, rfl⟩
          rw [← hsn1, ← hsr1, ← hso1] at HK
          rw [← hsn1] at d0
          rw [← hsr1] at d3
          rw [← hso1] at d6
          clear hsn1 hsr1 hso1
          by_cases h0 : C = 0
          · subst h0
            go_wp2_with (first
              | (go_at_call 36; refine (HK.out _).mono ?_; rintro e w1 ⟨rfl, hb⟩; replace HBX := Lib.hid (bx_step HBX.out hb); clear hb; have r0 := obj_cell HBX.out.b_blk 0; have r1 := obj_cell HBX.out.b_blk 1))
            go_roundg (g1 - 1)
            case measure => omega
            case rel => exact ⟨k + 1, by go_num, by omega, by rw [HTK.out, ← List.append_assoc]; exact firstBad_miss _ _ HFK.out HCC.out.symm, HBX.out⟩
          · have e1 : (C == 0) = false := beq_false_of_ne h0
            have e2 : (C != 0) = true := by simp [h0]
            go_wp2_with (first
              | (go_at_call 36; refine (HK.out _).mono ?_; rintro e w1 ⟨rfl, hb⟩; replace HBX := Lib.hid (bx_step HBX.out hb); clear hb; have r0 := obj_cell HBX.out.b_blk 0; have r1 := obj_cell HBX.out.b_blk 1))
            go_ret
            exact ⟨ret_int' (by unfold fieldsT; rw [HSP.out, firstBad_hit _ _ _ HFK.out (by rw [← HCC.out]; exact h0), HCC.out]), HBX.out.b_bel⟩
        · have tk : decide ((k : Int) < (nf : Int)) = false := decide_eq_false (by omega)
          obtain ⟨c0, c1, c2⟩ := HC.out _ HBX.out.b_bel
          have HFK := Lib.hid hfk
          clear hfk
          have HTW : Hid (x.fields.take k = x.fields) := Lib.hid (List.take_of_length_le (by have := HNF.out; omega))
          go_wp2
          go_roundg (g0 - 1)
          case measure => omega
          case rel => exact ⟨i + 1, by go_num, by omega, by rw [flat_snoc _ _ _ _ HXI.out, ← HTW.out]; exact HFK.out, HBX.out⟩
    · have ti : decide ((i : Int) < (n2 : Int)) = false := decide_eq_false (by omega)
      have HFB : Hid (fieldsT s = 0) := Lib.hid (by unfold fieldsT fieldsOf; rw [show s.msgs.take i = s.msgs from List.take_of_length_le (by have := H.out.s_nm; omega)] at hfb; exact hfb)
      clear hfb
      go_wp2
      go_ret
      exact ⟨ret_int' HFB.out.symm, HBX.out.b_bel⟩
end Go.Proofs.YtjogamffdbedkaaGreatDoor

/- The document's layer 15: barred numbers, names that fields refer to. Conditions: those that each theorem names. -/
namespace Go.Proofs.YtjogamffdbedkaaGreatDoor
open Go.RowKit
set_option linter.unusedVariables false
set_option maxRecDepth 100000

set_option maxHeartbeats 4000000 in
theorem rvbarred_any {S : Nat → Nat → Prop} (w : World) {A A2 : Option Addr} {n cap n2 cap2 : Nat} {s : Sc} (h : ScAt S w A n cap A2 n2 cap2 s) :
    Calls Tryz.prog 28 #[.agg #[.slice A n cap, .slice A2 n2 cap2]] w fun e w' => e = .returned (.bool (barredT s)) ∧ Below w.heap.size w w' := by
  obtain ⟨m1, m2, m3, m4⟩ := scAt_max h
  have H := Lib.hid h
  have HBX := Lib.hid (bx_start w #[.slice A n cap, .slice A2 n2 cap2] 25)
  clear h
  have r0 := obj_cell (HBX.out).b_blk 0
  have r1 := obj_cell (HBX.out).b_blk 1
  go_enter Tryz.func28, Tryz.ntmps28
  go_wp2
  clear r0 r1
  go_loopg [3] n2 (fun gz x0 wr => ∃ i : Nat, x0 = .int .i64 (i : Int) ∧ i + gz = n2 ∧ (s.msgs.take i).any barredM = false ∧ Bx w wr (.cells #[.slice A n cap, .slice A2 n2 cap2] 25 (0, 0)))
  case atStart => exact ⟨0, rfl, by omega, rfl, HBX.out⟩
  case round =>
    obtain ⟨i, rfl, hi, hfb, hbx⟩ := hrel
    have HBX := Lib.hid hbx
    clear hbx
    have r0 := obj_cell (HBX.out).b_blk 0
    have r1 := obj_cell (HBX.out).b_blk 1
    obtain ⟨g0, hg0⟩ : ∃ g0, g0 = gk := ⟨_, rfl⟩
    subst hg0
    by_cases hlti : i < n2
    · have ti : decide ((i : Int) < (n2 : Int)) = true := decide_eq_true (by omega)
      obtain ⟨x, hx⟩ : ∃ x, s.msgs[i]? = some x := ⟨_, List.getElem?_eq_getElem (by have := H.out.s_nm; omega)⟩
      have HXI := Lib.hid hx
      obtain ⟨ge, oe, A1, cap1, A3, cap3, rfl, _, hc, hl, hl2⟩ := ms_at H.out.s_m hx
      have q1 := hl.l_le
      have q2 := hl.l_max
      have q3 := hl2.l_le
      have q4 := hl2.l_max
      unfold maxLen at q2 q4
      have HL := Lib.hid hl
      have HL2 := Lib.hid hl2
      obtain ⟨nf, hnf⟩ : ∃ nf, nf = x.fields.length := ⟨_, rfl⟩
      obtain ⟨nb, hnb⟩ : ∃ nb, nb = x.barred.length := ⟨_, rfl⟩
      have HNF := Lib.hid hnf
      have HNB := Lib.hid hnb
      rw [← hnf] at hc q1
      rw [← hnb] at hc q3
      obtain ⟨sn, hsn⟩ : ∃ sn, sn = strOf x.name := ⟨_, rfl⟩
      have HSN := Lib.hid hsn
      rw [← hsn] at hc
      have HC := Lib.hid hc
      clear hx hl hl2 hnf hnb hsn hc
      obtain ⟨c0, c1, c2⟩ := HC.out _ HBX.out.b_bel
      have HFB := Lib.hid hfb
      clear hfb
      go_wp2
      clear c0 c1 c2
      clear r0 r1
      go_loopg [4] nf (fun gz x0 wr => ∃ k : Nat, x0 = .int .i64 (k : Int) ∧ k + gz = nf ∧ (x.fields.take k).any (fun f => isInB x.barred f.num) = false ∧ Bx w wr (.cells #[.slice A n cap, .slice (some ⟨ge, oe, none⟩) n2 cap2] 25 (0, 0)))
      case atStart => exact ⟨0, rfl, by omega, rfl, HBX.out⟩
      case round =>
        obtain ⟨k, rfl, hk, hfk, hbx⟩ := hrel
        have HBX := Lib.hid hbx
        clear hbx
        have r0 := obj_cell (HBX.out).b_blk 0
        have r1 := obj_cell (HBX.out).b_blk 1
        obtain ⟨g1, hg1⟩ : ∃ g1, g1 = gk := ⟨_, rfl⟩
        subst hg1
        by_cases hltk : k < nf
        · have tk : decide ((k : Int) < (nf : Int)) = true := decide_eq_true (by omega)
          obtain ⟨f, hf⟩ : ∃ f, x.fields[k]? = some f := ⟨_, List.getElem?_eq_getElem (by have := HNF.out; omega)⟩
          have HFI := Lib.hid hf
          obtain ⟨gf, of, rfl, _, hcf⟩ := fd_at HL.out hf
          have HCF := Lib.hid hcf
          clear hf hcf
          have HFK := Lib.hid hfk
          clear hfk
          obtain ⟨c0, c1, c2⟩ := HC.out _ HBX.out.b_bel
          obtain ⟨d0, d1, d2, d3, d4, d5, d6⟩ := HCF.out _ HBX.out.b_bel
          have HH : Hid (∀ u, Below w.heap.size w u → Calls Tryz.prog 53 #[.slice A3 nb cap3, .int .i64 f.num] u fun e w' => e = .returned (.bool (isInB x.barred f.num)) ∧ w' = u) := Lib.hid (fun u hb => (rvhas_any u (lst_keep HL2.out inR_keep (fun _ h => h) (bel_keep hb)) HNB.out f.num).mono fun _ _ h => ⟨h.1, h.2.symm⟩)
          have HXF := Lib.hid (any_snoc x.fields (fun f => isInB x.barred f.num) k f HFI.out)
          have HO := Lib.hid (fun hp : isInB x.barred f.num = true => (any_off HXI.out (p := barredM) (any_off HFI.out (p := fun (f : Fd) => isInB x.barred f.num) hp) : barredT s = true))
          obtain ⟨r, hr⟩ : ∃ r, r = isInB x.barred f.num := ⟨_, rfl⟩
          have HR := Lib.hid hr
          rw [← hr] at HH HO
          clear hr
          cases r with
          | true =>
            have HOT : Hid (barredT s = true) := Lib.hid (HO.out rfl)
            go_wp2
            go_quiet (first | (go_at_call 53; refine Calls.quiet_of_same (HH.out _ (HBX.out.b_bel.trans ((drewN_under wr _).mono HBX.out.b_bel.size)))))
            go_wp2
            go_ret
            exact ⟨ret_bool' HOT.out.symm, (bx_drew HBX.out _).b_bel⟩
          | false =>
            go_wp2
            go_quiet (first | (go_at_call 53; refine Calls.quiet_of_same (HH.out _ (HBX.out.b_bel.trans ((drewN_under wr _).mono HBX.out.b_bel.size)))))
            go_wp2
            go_roundg (g1 - 1)
            case measure => omega
            case rel => exact ⟨k + 1, by go_num, by omega, by rw [HXF.out, HFK.out, ← HR.out]; rfl, bx_drew HBX.out _⟩
        · have tk : decide ((k : Int) < (nf : Int)) = false := decide_eq_false (by omega)
          obtain ⟨c0, c1, c2⟩ := HC.out _ HBX.out.b_bel
          rw [any_whole x.fields _ k (by have := HNF.out; omega)] at hfk
          have HFK := Lib.hid hfk
          clear hfk
          go_wp2
          go_roundg (g0 - 1)
          case measure => omega
          case rel => exact ⟨i + 1, by go_num, by omega, by rw [any_snoc s.msgs barredM i x HXI.out, HFB.out]; exact HFK.out, HBX.out⟩
    · have ti : decide ((i : Int) < (n2 : Int)) = false := decide_eq_false (by omega)
      rw [any_whole s.msgs _ i (by have := H.out.s_nm; omega)] at hfb
      have HFB : Hid (barredT s = false) := Lib.hid hfb
      clear hfb
      go_wp2
      go_ret
      exact ⟨ret_bool' HFB.out.symm, HBX.out.b_bel⟩
set_option maxHeartbeats 8000000 in
theorem rvrefs_any {S : Nat → Nat → Prop} (w : World) {A A2 : Option Addr} {n cap n2 cap2 : Nat} {s : Sc} (h : ScAt S w A n cap A2 n2 cap2 s) :
    Calls Tryz.prog 29 #[.agg #[.slice A n cap, .slice A2 n2 cap2]] w fun e w' => e = .returned (.bool (refsT s)) ∧ Below w.heap.size w w' := by
  obtain ⟨m1, m2, m3, m4⟩ := scAt_max h
  have H := Lib.hid h
  have HBX := Lib.hid (bx_start w #[.slice A n cap, .slice A2 n2 cap2] 25)
  clear h
  have r0 := obj_cell (HBX.out).b_blk 0
  have r1 := obj_cell (HBX.out).b_blk 1
  go_enter Tryz.func29, Tryz.ntmps29
  go_wp2
  clear r0 r1
  go_loopg [3] n2 (fun gz x0 wr => ∃ i : Nat, x0 = .int .i64 (i : Int) ∧ i + gz = n2 ∧ (s.msgs.take i).any (refsM s) = false ∧ Bx w wr (.cells #[.slice A n cap, .slice A2 n2 cap2] 25 (0, 0)))
  case atStart => exact ⟨0, rfl, by omega, rfl, HBX.out⟩
  case round =>
    obtain ⟨i, rfl, hi, hfb, hbx⟩ := hrel
    have HBX := Lib.hid hbx
    clear hbx
    have r0 := obj_cell (HBX.out).b_blk 0
    have r1 := obj_cell (HBX.out).b_blk 1
    obtain ⟨g0, hg0⟩ : ∃ g0, g0 = gk := ⟨_, rfl⟩
    subst hg0
    by_cases hlti : i < n2
    · have ti : decide ((i : Int) < (n2 : Int)) = true := decide_eq_true (by omega)
      obtain ⟨x, hx⟩ : ∃ x, s.msgs[i]? = some x := ⟨_, List.getElem?_eq_getElem (by have := H.out.s_nm; omega)⟩
      have HXI := Lib.hid hx
      obtain ⟨ge, oe, A1, cap1, A3, cap3, rfl, _, hc, hl, hl2⟩ := ms_at H.out.s_m hx
      have q1 := hl.l_le
      have q2 := hl.l_max
      have q3 := hl2.l_le
      have q4 := hl2.l_max
      unfold maxLen at q2 q4
      have HL := Lib.hid hl
      have HL2 := Lib.hid hl2
      obtain ⟨nf, hnf⟩ : ∃ nf, nf = x.fields.length := ⟨_, rfl⟩
      obtain ⟨nb, hnb⟩ : ∃ nb, nb = x.barred.length := ⟨_, rfl⟩
      have HNF := Lib.hid hnf
      have HNB := Lib.hid hnb
      rw [← hnf] at hc q1
      rw [← hnb] at hc q3
      obtain ⟨sn, hsn⟩ : ∃ sn, sn = strOf x.name := ⟨_, rfl⟩
      have HSN := Lib.hid hsn
      rw [← hsn] at hc
      have HC := Lib.hid hc
      clear hx hl hl2 hnf hnb hsn hc
      obtain ⟨c0, c1, c2⟩ := HC.out _ HBX.out.b_bel
      have HFB := Lib.hid hfb
      clear hfb
      go_wp2
      clear c0 c1 c2
      clear r0 r1
      go_loopg [4] nf (fun gz x0 wr => ∃ k : Nat, x0 = .int .i64 (k : Int) ∧ k + gz = nf ∧ (x.fields.take k).any (refF s) = false ∧ Bx w wr (.cells #[.slice A n cap, .slice (some ⟨ge, oe, none⟩) n2 cap2] 25 (0, 0)))
      case atStart => exact ⟨0, rfl, by omega, rfl, HBX.out⟩
      case round =>
        obtain ⟨k, rfl, hk, hfk, hbx⟩ := hrel
        have HBX := Lib.hid hbx
        clear hbx
        have r0 := obj_cell (HBX.out).b_blk 0
        have r1 := obj_cell (HBX.out).b_blk 1
        obtain ⟨g1, hg1⟩ : ∃ g1, g1 = gk := ⟨_, rfl⟩
        subst hg1
        by_cases hltk : k < nf
        · have tk : decide ((k : Int) < (nf : Int)) = true := decide_eq_true (by omega)
          obtain ⟨f, hf⟩ : ∃ f, x.fields[k]? = some f := ⟨_, List.getElem?_eq_getElem (by have := HNF.out; omega)⟩
          have HFI := Lib.hid hf
          obtain ⟨gf, of, rfl, _, hcf⟩ := fd_at HL.out hf
          have HCF := Lib.hid hcf
          clear hf hcf
          have HFK := Lib.hid hfk
          clear hfk
          obtain ⟨c0, c1, c2⟩ := HC.out _ HBX.out.b_bel
          obtain ⟨d0, d1, d2, d3, d4, d5, d6⟩ := HCF.out _ HBX.out.b_bel
          have HXF := Lib.hid (any_snoc x.fields (refF s) k f HFI.out)
          have HO := Lib.hid (fun hp : refF s f = true => (any_off HXI.out (p := refsM s) (any_off HFI.out (p := refF s) hp) : refsT s = true))
          obtain ⟨p, hp⟩ : ∃ p, p = refF s f := ⟨_, rfl⟩
          rw [← hp] at HXF HO
          have HE : Hid (∀ u, Below w.heap.size w u → Calls Tryz.prog 54 #[.agg #[.slice A n cap, .slice (some ⟨ge, oe, none⟩) n2 cap2], .string (strOf f.ref)] u fun e w' => e = .returned (.int .i64 (enumT s f.ref)) ∧ Below u.heap.size u w') := Lib.hid (fun u hb => rvenum_any u (scAt_bel H.out hb) f.ref)
          have HM : Hid (∀ u, Below w.heap.size w u → Calls Tryz.prog 55 #[.agg #[.slice A n cap, .slice (some ⟨ge, oe, none⟩) n2 cap2], .string (strOf f.ref)] u fun e w' => e = .returned (.int .i64 (messageT s f.ref)) ∧ Below u.heap.size u w') := Lib.hid (fun u hb => rvmessage_any u (scAt_bel H.out hb) f.ref)
          unfold refF at hp
          obtain ⟨ei, hei⟩ : ∃ z, z = enumT s f.ref := ⟨_, rfl⟩
          obtain ⟨mi, hmi⟩ : ∃ z, z = messageT s f.ref := ⟨_, rfl⟩
          rw [← hei] at HE hp
          rw [← hmi] at HM hp
          clear hei hmi
          obtain ⟨name, num, ty, ref, rep, loose, one⟩ := f
          dsimp only at HE HM hp d0 d1 d2 d3 d4 d5 d6
          obtain ⟨sn1, hsn1⟩ : ∃ z, z = strOf name := ⟨_, rfl⟩
          obtain ⟨sr1, hsr1⟩ : ∃ z, z = strOf ref := ⟨_, rfl⟩
          obtain ⟨so1, hso1⟩ : ∃ z, z = strOf one := ⟨_, rfl⟩
          rw [← hsr1] at HE HM
          rw [← hsn1] at d0
          rw [← hsr1] at d3
          rw [← hso1] at d6
          clear hsn1 hsr1 hso1
          have HBA : Hid (Bx w (wr.alloc (.cells #[.string sn1, .int .i64 num, .int .i64 ty, .string sr1, .bool rep, .bool loose, .string so1] 43)) (.cells #[.slice A n cap, .slice (some ⟨ge, oe, none⟩) n2 cap2] 25 (0, 0))) := Lib.hid (bx_step HBX.out ((Below.refl _ wr).alloc (Nat.le_refl _) _))
          have a0 := obj_cell HBA.out.b_blk 0
          have a1 := obj_cell HBA.out.b_blk 1
          have HFX : Hid ((wr.alloc (.cells #[.string sn1, .int .i64 num, .int .i64 ty, .string sr1, .bool rep, .bool loose, .string so1] 43)).heap[wr.heap.size]? = some (.cells #[.string sn1, .int .i64 num, .int .i64 ty, .string sr1, .bool rep, .bool loose, .string so1] 43 (0, 0))) := Lib.hid (heap_alloc_new wr _)
          have f2 := obj_cell HFX.out 2
          have f3 := obj_cell HFX.out 3
          by_cases h14 : ty = 14
          · subst h14
            by_cases hn : ei < 0
            · skip
              have dn : decide (ei < 0) = true := decide_eq_true hn
              replace hp : p = true := by rw [hp]; simp [*]
              go_wp2_with (first
                | (go_at_call 54; refine (HE.out _ HBA.out.b_bel).mono ?_; rintro e w1 ⟨rfl, hb⟩; replace HBA := Lib.hid (bx_step HBA.out hb); have hx := (hb.block _ (lt_of_block HFX.out)).trans HFX.out; have f2 := obj_cell hx 2; have f3 := obj_cell hx 3; clear hb hx))
              go_ret
              exact ⟨ret_bool' (HO.out hp).symm, HBA.out.b_bel⟩
            · skip
              have dn : decide (ei < 0) = false := decide_eq_false hn
              replace hp : p = false := by rw [hp]; simp [*]
              go_wp2_with (first
                | (go_at_call 54; refine (HE.out _ HBA.out.b_bel).mono ?_; rintro e w1 ⟨rfl, hb⟩; replace HBA := Lib.hid (bx_step HBA.out hb); have hx := (hb.block _ (lt_of_block HFX.out)).trans HFX.out; have f2 := obj_cell hx 2; have f3 := obj_cell hx 3; clear hb hx))
              go_roundg (g1 - 1)
              case measure => omega
              case rel => exact ⟨k + 1, by go_num, by omega, by rw [HXF.out, HFK.out, hp]; rfl, HBA.out⟩
          · have e14 : (ty == 14) = false := beq_false_of_ne h14
            by_cases h15 : ty = 15
            · subst h15
              by_cases hn : mi < 0
              · skip
                have dn : decide (mi < 0) = true := decide_eq_true hn
                replace hp : p = true := by rw [hp]; simp [*]
                go_wp2_with (first
                  | (go_at_call 55; refine (HM.out _ HBA.out.b_bel).mono ?_; rintro e w1 ⟨rfl, hb⟩; replace HBA := Lib.hid (bx_step HBA.out hb); have hx := (hb.block _ (lt_of_block HFX.out)).trans HFX.out; have f2 := obj_cell hx 2; have f3 := obj_cell hx 3; clear hb hx))
                go_ret
                exact ⟨ret_bool' (HO.out hp).symm, HBA.out.b_bel⟩
              · skip
                have dn : decide (mi < 0) = false := decide_eq_false hn
                replace hp : p = false := by rw [hp]; simp [*]
                go_wp2_with (first
                  | (go_at_call 55; refine (HM.out _ HBA.out.b_bel).mono ?_; rintro e w1 ⟨rfl, hb⟩; replace HBA := Lib.hid (bx_step HBA.out hb); have hx := (hb.block _ (lt_of_block HFX.out)).trans HFX.out; have f2 := obj_cell hx 2; have f3 := obj_cell hx 3; clear hb hx))
                go_roundg (g1 - 1)
                case measure => omega
                case rel => exact ⟨k + 1, by go_num, by omega, by rw [HXF.out, HFK.out, hp]; rfl, HBA.out⟩
            · have e15 : (ty == 15) = false := beq_false_of_ne h15
              replace hp : p = false := by rw [hp]; simp [*]
              go_wp2
              go_roundg (g1 - 1)
              case measure => omega
              case rel => exact ⟨k + 1, by go_num, by omega, by rw [HXF.out, HFK.out, hp]; rfl, HBA.out⟩
        · have tk : decide ((k : Int) < (nf : Int)) = false := decide_eq_false (by omega)
          obtain ⟨c0, c1, c2⟩ := HC.out _ HBX.out.b_bel
          rw [any_whole x.fields _ k (by have := HNF.out; omega)] at hfk
          have HFK := Lib.hid hfk
          clear hfk
          go_wp2
          go_roundg (g0 - 1)
          case measure => omega
          case rel => exact ⟨i + 1, by go_num, by omega, by rw [any_snoc s.msgs (refsM s) i x HXI.out, HFB.out]; exact HFK.out, HBX.out⟩
    · have ti : decide ((i : Int) < (n2 : Int)) = false := decide_eq_false (by omega)
      rw [any_whole s.msgs _ i (by have := H.out.s_nm; omega)] at hfb
      have HFB : Hid (refsT s = false) := Lib.hid hfb
      clear hfb
      go_wp2
      go_ret
      exact ⟨ret_bool' HFB.out.symm, HBX.out.b_bel⟩
end Go.Proofs.YtjogamffdbedkaaGreatDoor

/- The document's layer 15: which schemas are the same. Conditions: those that each theorem names. -/
namespace Go.Proofs.YtjogamffdbedkaaGreatDoor
open Go.RowKit
set_option linter.unusedVariables false
set_option maxRecDepth 100000

set_option maxHeartbeats 8000000 in
theorem rvsamemsg_any {S1 S2 T1 T2 : Nat → Prop} (w : World) {a b : Ms} {A1 A2 B1 B2 : Option Addr} {na ca ba da nb cb bb db : Nat} (hAf : Lst 7 S1 fdR w A1 ca a.fields) (hAb : Lst 1 S2 inR w A2 da a.barred) (hBf : Lst 7 T1 fdR w B1 cb b.fields) (hBb : Lst 1 T2 inR w B2 db b.barred)
    (hna : na = a.fields.length) (hba : ba = a.barred.length) (hnb : nb = b.fields.length) (hbb : bb = b.barred.length) (sa sb : ByteArray) (hsa : sa = strOf a.name) (hsb : sb = strOf b.name) :
    Calls Tryz.prog 30 #[.agg #[.string sa, .slice A1 na ca, .slice A2 ba da], .agg #[.string sb, .slice B1 nb cb, .slice B2 bb db]] w fun e w' => e = .returned (.bool (decide (a = b))) ∧ Below w.heap.size w w' := by
  have q1 := hAf.l_le
  have q2 := hAf.l_max
  have q3 := hAb.l_le
  have q4 := hAb.l_max
  have q5 := hBf.l_le
  have q6 := hBf.l_max
  have q7 := hBb.l_le
  have q8 := hBb.l_max
  unfold maxLen at q2 q4 q6 q8
  rw [← hna] at q1
  rw [← hba] at q3
  rw [← hnb] at q5
  rw [← hbb] at q7
  have HAF := Lib.hid hAf
  have HBF := Lib.hid hBf
  have HNA := Lib.hid hna
  have HNBX := Lib.hid hnb
  have HI : Hid (∀ u, Below w.heap.size w u → Calls Tryz.prog 56 #[.slice A2 ba da, .slice B2 bb db] u fun e w' => e = .returned (.bool (decide (a.barred = b.barred))) ∧ Below u.heap.size u w') :=
    Lib.hid (fun u hb => (vints_any u (lst_keep hAb inR_keep (fun _ h => h) (bel_keep hb)) (lst_keep hBb inR_keep (fun _ h => h) (bel_keep hb)) hba hbb).mono fun e w' h => ⟨h.1, by obtain ⟨k, rfl⟩ := h.2; exact drewN_under u k⟩)
  have HBX := Lib.hid (bx2_start w #[.string sa, .slice A1 na ca, .slice A2 ba da] #[.string sb, .slice B1 nb cb, .slice B2 bb db] 32 32)
  have HEQ : Hid (a = b ↔ a.name = b.name ∧ a.barred = b.barred ∧ a.fields = b.fields) := Lib.hid ⟨fun e => by rw [e]; exact ⟨rfl, rfl, rfl⟩, fun ⟨e1, e2, e3⟩ => by cases a; cases b; dsimp only at e1 e2 e3; rw [e1, e2, e3]⟩
  have hs1 : (sa.toList == sb.toList) = decide (a.name = b.name) := by rw [hsa, hsb, strOf_beq]
  have hs2 : sa.toList = sb.toList ↔ a.name = b.name := by rw [hsa, hsb, str_list, str_list]
  have r0 := obj_cell (HBX.out).b2_one 0
  have s0 := obj_cell (HBX.out).b2_two 0
  have r1 := obj_cell (HBX.out).b2_one 1
  have s1 := obj_cell (HBX.out).b2_two 1
  have r2 := obj_cell (HBX.out).b2_one 2
  have s2 := obj_cell (HBX.out).b2_two 2
  by_cases hn : a.name = b.name
  · have t1 : (sa.toList == sb.toList) = true := by rw [hs1]; exact decide_eq_true hn
    have t2 : sa.toList = sb.toList := hs2.2 hn
    clear hs1 hs2
    by_cases hb : a.barred = b.barred
    · rw [decide_eq_true hb] at HI
      by_cases hl : na = nb
      · subst hl
        have HNM := Lib.hid hn
        have HBA := Lib.hid hb
        clear hAf hAb hBf hBb hna hba hnb hbb hsa hsb hn hb
        go_enter Tryz.func30, Tryz.ntmps30
        go_wp2_with (first
          | (go_at_call 56; refine (HI.out _ HBX.out.b2_bel).mono ?_; rintro e w1 ⟨rfl, hb⟩; replace HBX := Lib.hid (bx2_step HBX.out hb); clear hb; have r0 := obj_cell HBX.out.b2_one 0; have s0 := obj_cell HBX.out.b2_two 0; have r1 := obj_cell HBX.out.b2_one 1; have s1 := obj_cell HBX.out.b2_two 1; have r2 := obj_cell HBX.out.b2_one 2; have s2 := obj_cell HBX.out.b2_two 2))
        go_loopg [5] na (fun gz x0 wr => ∃ i : Nat, x0 = .int .i64 (i : Int) ∧ i + gz = na ∧ (∀ (j : Nat) x y, j < i → a.fields[j]? = some x → b.fields[j]? = some y → x = y) ∧ Bx2 w wr (.cells #[.string sa, .slice A1 na ca, .slice A2 ba da] 32 (0, 0)) (.cells #[.string sb, .slice B1 na cb, .slice B2 bb db] 32 (0, 0)))
        case atStart => exact ⟨0, rfl, by omega, fun j x y hj => absurd hj (Nat.not_lt_zero _), HBX.out⟩
        case round =>
          obtain ⟨i, rfl, hi, hall, hbx⟩ := hrel
          have HALL := Lib.hid hall
          have HBX := Lib.hid hbx
          clear hall hbx
          have r0 := obj_cell (HBX.out).b2_one 0
          have s0 := obj_cell (HBX.out).b2_two 0
          have r1 := obj_cell (HBX.out).b2_one 1
          have s1 := obj_cell (HBX.out).b2_two 1
          have r2 := obj_cell (HBX.out).b2_one 2
          have s2 := obj_cell (HBX.out).b2_two 2
          obtain ⟨g0, hg0⟩ : ∃ g0, g0 = gk := ⟨_, rfl⟩
          subst hg0
          by_cases hlti : i < na
          · have ti : decide ((i : Int) < (na : Int)) = true := decide_eq_true (by omega)
            obtain ⟨x, hx⟩ : ∃ x, a.fields[i]? = some x := ⟨_, List.getElem?_eq_getElem (by have := HNA.out; omega)⟩
            obtain ⟨y, hy⟩ : ∃ y, b.fields[i]? = some y := ⟨_, List.getElem?_eq_getElem (by have := HNBX.out; omega)⟩
            have HXI := Lib.hid hx
            have HYI := Lib.hid hy
            obtain ⟨gf, of, rfl, _, hcf⟩ := fd_at HAF.out hx
            obtain ⟨gg, og, rfl, _, hcg⟩ := fd_at HBF.out hy
            obtain ⟨d0, d1, d2, d3, d4, d5, d6⟩ := hcf _ HBX.out.b2_bel
            obtain ⟨e0, e1, e2, e3, e4, e5, e6⟩ := hcg _ HBX.out.b2_bel
            have hq := run_neq_fd x y
            obtain ⟨r, hr⟩ : ∃ r, r = decide (x = y) := ⟨_, rfl⟩
            have HR := Lib.hid hr
            rw [← hr] at hq
            clear hx hy hcf hcg hr
            obtain ⟨name1, num1, ty1, ref1, rep1, loose1, one1⟩ := x
            dsimp only at hq d0 d1 d2 d3 d4 d5 d6
            obtain ⟨sn1, hsn1⟩ : ∃ z, z = strOf name1 := ⟨_, rfl⟩
            rw [← hsn1] at hq d0
            obtain ⟨sr1, hsr1⟩ : ∃ z, z = strOf ref1 := ⟨_, rfl⟩
            rw [← hsr1] at hq d3
            obtain ⟨so1, hso1⟩ : ∃ z, z = strOf one1 := ⟨_, rfl⟩
            rw [← hso1] at hq d6
            clear hsn1 hsr1 hso1
            obtain ⟨name2, num2, ty2, ref2, rep2, loose2, one2⟩ := y
            dsimp only at hq e0 e1 e2 e3 e4 e5 e6
            obtain ⟨sn2, hsn2⟩ : ∃ z, z = strOf name2 := ⟨_, rfl⟩
            rw [← hsn2] at hq e0
            obtain ⟨sr2, hsr2⟩ : ∃ z, z = strOf ref2 := ⟨_, rfl⟩
            rw [← hsr2] at hq e3
            obtain ⟨so2, hso2⟩ : ∃ z, z = strOf one2 := ⟨_, rfl⟩
            rw [← hso2] at hq e6
            clear hsn2 hsr2 hso2
            cases r with
            | true =>
              go_wp2
              go_quiet (fail)
              go_wp2
              go_roundg (g0 - 1)
              case measure => omega
              case rel => exact ⟨i + 1, by go_num, by omega, (fun j x y hj hx hy => by
                            by_cases hji : j < i
                            · exact HALL.out j x y hji hx hy
                            · have : j = i := by omega
                              subst this
                              have e1 := HXI.out.symm.trans hx
                              have e2 := HYI.out.symm.trans hy
                              injection e1 with e1
                              injection e2 with e2
                              rw [← e1, ← e2]
                              exact of_decide_eq_true HR.out.symm), bx2_step HBX.out (drewN_under wr _)⟩
            | false =>
              have HO : Hid (decide (a = b) = false) := Lib.hid (decide_eq_false (fun e => lists_ne HXI.out HYI.out (of_decide_eq_false HR.out.symm) (HEQ.out.1 e).2.2))
              go_wp2
              go_quiet (fail)
              go_wp2
              go_ret
              exact ⟨ret_bool' HO.out.symm, (bx2_step HBX.out (drewN_under wr _)).b2_bel⟩
          · have ti : decide ((i : Int) < (na : Int)) = false := decide_eq_false (by omega)
            have HO : Hid (decide (a = b) = true) := Lib.hid (decide_eq_true (HEQ.out.2 ⟨HNM.out, HBA.out, lists_eq (by have := HNA.out; have := HNBX.out; omega) (fun j x y hx hy => HALL.out j x y (by have := (List.getElem?_eq_some_iff.mp hx).1; have := HNA.out; omega) hx hy)⟩))
            go_wp2
            go_ret
            exact ⟨ret_bool' HO.out.symm, HBX.out.b2_bel⟩
      · have t3 : ((na : Int) == (nb : Int)) = false := beq_false_of_ne (by omega)
        have t4 : ((na : Int) != (nb : Int)) = true := by simp; omega
        have t5 : ¬ na = nb := hl
        have HO : Hid (decide (a = b) = false) := Lib.hid (decide_eq_false (fun e => hl (by have := (HEQ.out.1 e).2.2; rw [hna, hnb, this])))
        clear hAf hAb hBf hBb hna hba hnb hbb hsa hsb
        go_enter Tryz.func30, Tryz.ntmps30
        go_wp2_with (first
          | (go_at_call 56; refine (HI.out _ HBX.out.b2_bel).mono ?_; rintro e w1 ⟨rfl, hb⟩; replace HBX := Lib.hid (bx2_step HBX.out hb); clear hb; have r0 := obj_cell HBX.out.b2_one 0; have s0 := obj_cell HBX.out.b2_two 0; have r1 := obj_cell HBX.out.b2_one 1; have s1 := obj_cell HBX.out.b2_two 1; have r2 := obj_cell HBX.out.b2_one 2; have s2 := obj_cell HBX.out.b2_two 2))
        go_ret
        exact ⟨ret_bool' HO.out.symm, HBX.out.b2_bel⟩
    · rw [decide_eq_false hb] at HI
      have HO : Hid (decide (a = b) = false) := Lib.hid (decide_eq_false (fun e => hb (HEQ.out.1 e).2.1))
      clear hAf hAb hBf hBb hna hba hnb hbb hsa hsb
      go_enter Tryz.func30, Tryz.ntmps30
      go_wp2_with (first
        | (go_at_call 56; refine (HI.out _ HBX.out.b2_bel).mono ?_; rintro e w1 ⟨rfl, hb⟩; replace HBX := Lib.hid (bx2_step HBX.out hb); clear hb; have r0 := obj_cell HBX.out.b2_one 0; have s0 := obj_cell HBX.out.b2_two 0; have r1 := obj_cell HBX.out.b2_one 1; have s1 := obj_cell HBX.out.b2_two 1; have r2 := obj_cell HBX.out.b2_one 2; have s2 := obj_cell HBX.out.b2_two 2))
      go_ret
      exact ⟨ret_bool' HO.out.symm, HBX.out.b2_bel⟩
  · have t1 : (sa.toList == sb.toList) = false := by rw [hs1]; exact decide_eq_false hn
    have t2 : ¬ sa.toList = sb.toList := fun e => hn (hs2.1 e)
    clear hs1 hs2
    have HO : Hid (decide (a = b) = false) := Lib.hid (decide_eq_false (fun e => hn (HEQ.out.1 e).1))
    clear hAf hAb hBf hBb hna hba hnb hbb hsa hsb
    go_enter Tryz.func30, Tryz.ntmps30
    go_wp2
    go_ret
    exact ⟨ret_bool' HO.out.symm, HBX.out.b2_bel⟩

set_option maxHeartbeats 16000000 in
theorem rvsame_any {S T : Nat → Nat → Prop} (w : World) {A A2 B B2 : Option Addr} {n cap n2 cap2 m cb m2 cb2 : Nat} {s t : Sc} (h : ScAt S w A n cap A2 n2 cap2 s) (k : ScAt T w B m cb B2 m2 cb2 t) :
    Calls Tryz.prog 15 #[.agg #[.slice A n cap, .slice A2 n2 cap2], .agg #[.slice B m cb, .slice B2 m2 cb2]] w fun e w' => e = .returned (.bool (decide (s = t))) ∧ Below w.heap.size w w' := by
  obtain ⟨m1, m3, m4, m5⟩ := scAt_max h
  obtain ⟨k1, k3, k4, k5⟩ := scAt_max k
  have H := Lib.hid h
  have K := Lib.hid k
  have HEQ : Hid (s = t ↔ s.enums = t.enums ∧ s.msgs = t.msgs) := Lib.hid ⟨fun e => by rw [e]; exact ⟨rfl, rfl⟩, fun ⟨e1, e2⟩ => by cases s; cases t; dsimp only at e1 e2; rw [e1, e2]⟩
  have HBX := Lib.hid (bx2_start w #[.slice A n cap, .slice A2 n2 cap2] #[.slice B m cb, .slice B2 m2 cb2] 25 25)
  clear h k
  have r0 := obj_cell (HBX.out).b2_one 0
  have s0 := obj_cell (HBX.out).b2_two 0
  have r1 := obj_cell (HBX.out).b2_one 1
  have s1 := obj_cell (HBX.out).b2_two 1
  by_cases hn : n = m
  · subst hn
    by_cases hn2 : n2 = m2
    · subst hn2
      go_enter Tryz.func15, Tryz.ntmps15
      go_wp2
      clear r0 r1 s0 s1
      go_loopg [5] n (fun gz x0 wr => ∃ i : Nat, x0 = .int .i64 (i : Int) ∧ i + gz = n ∧ (∀ (j : Nat) a b, j < i → s.enums[j]? = some a → t.enums[j]? = some b → a = b) ∧ Bx2 w wr (.cells #[.slice A n cap, .slice A2 n2 cap2] 25 (0, 0)) (.cells #[.slice B n cb, .slice B2 n2 cb2] 25 (0, 0)))
      case atStart => exact ⟨0, rfl, by omega, fun j a b hj => absurd hj (Nat.not_lt_zero _), HBX.out⟩
      case round =>
        obtain ⟨i, rfl, hi, hall, hbx⟩ := hrel
        have HALL := Lib.hid hall
        have HBX := Lib.hid hbx
        clear hall hbx
        have r0 := obj_cell (HBX.out).b2_one 0
        have s0 := obj_cell (HBX.out).b2_two 0
        have r1 := obj_cell (HBX.out).b2_one 1
        have s1 := obj_cell (HBX.out).b2_two 1
        obtain ⟨g0, hg0⟩ : ∃ g0, g0 = gk := ⟨_, rfl⟩
        subst hg0
        by_cases hlti : i < n
        · have ti : decide ((i : Int) < (n : Int)) = true := decide_eq_true (by omega)
          obtain ⟨x, hx⟩ : ∃ x, s.enums[i]? = some x := ⟨_, List.getElem?_eq_getElem (by have := H.out.s_ne; omega)⟩
          obtain ⟨y, hy⟩ : ∃ y, t.enums[i]? = some y := ⟨_, List.getElem?_eq_getElem (by have := K.out.s_ne; omega)⟩
          have HXI := Lib.hid hx
          have HYI := Lib.hid hy
          obtain ⟨ge, oe, A1, cap1, rfl, _, hc, hl⟩ := en_at H.out.s_e hx
          obtain ⟨gb, ob, B1, cb1, rfl, _, hd, hm⟩ := en_at K.out.s_e hy
          have q1 := hl.l_le
          have q2 := hl.l_max
          have q3 := hm.l_le
          have q4 := hm.l_max
          unfold maxLen at q2 q4
          have HL := Lib.hid hl
          have HM := Lib.hid hm
          obtain ⟨nv, hnv⟩ : ∃ z, z = x.values.length := ⟨_, rfl⟩
          have HNV := Lib.hid hnv
          rw [← hnv] at hc q1
          obtain ⟨nw, hnw⟩ : ∃ z, z = y.values.length := ⟨_, rfl⟩
          have HNW := Lib.hid hnw
          rw [← hnw] at hd q3
          obtain ⟨sn, hsn⟩ : ∃ z, z = strOf x.name := ⟨_, rfl⟩
          rw [← hsn] at hc
          obtain ⟨sm, hsm⟩ : ∃ z, z = strOf y.name := ⟨_, rfl⟩
          rw [← hsm] at hd
          have HC := Lib.hid hc
          have HD := Lib.hid hd
          obtain ⟨c0, c1⟩ := hc _ HBX.out.b2_bel
          obtain ⟨e0, e1⟩ := hd _ HBX.out.b2_bel
          have hs1 : (sn.toList == sm.toList) = decide (x.name = y.name) := by rw [hsn, hsm, strOf_beq]
          have hs2 : sn.toList = sm.toList ↔ x.name = y.name := by rw [hsn, hsm, str_list, str_list]
          clear hx hy hc hd hl hm hnv hnw hsn hsm
          by_cases hnm : x.name = y.name
          · have t1 : (sn.toList == sm.toList) = true := by rw [hs1]; exact decide_eq_true hnm
            have t2 : sn.toList = sm.toList := hs2.2 hnm
            have HNM := Lib.hid hnm
            clear hs1 hs2 hnm
            by_cases hv : nv = nw
            · subst hv
              have t3 : ((nv : Int) == (nv : Int)) = true := beq_self_eq_true _
              have t4 : ((nv : Int) != (nv : Int)) = false := by simp
              go_wp2
              go_quiet (fail)
              go_wp2
              have HBX2 := Lib.hid (bx2_step HBX.out (drewN_under wr nq))
              clear c0 c1 e0 e1 r0 r1 s0 s1
              go_loopg [6] nv (fun gz x0 wr => ∃ k : Nat, x0 = .int .i64 (k : Int) ∧ k + gz = nv ∧ (∀ (j : Nat) a b, j < k → x.values[j]? = some a → y.values[j]? = some b → a = b) ∧ Bx2 w wr (.cells #[.slice (some ⟨ge, oe, none⟩) n cap, .slice A2 n2 cap2] 25 (0, 0)) (.cells #[.slice (some ⟨gb, ob, none⟩) n cb, .slice B2 n2 cb2] 25 (0, 0)))
              case atStart => exact ⟨0, rfl, by omega, fun j a b hj => absurd hj (Nat.not_lt_zero _), HBX2.out⟩
              case round =>
                obtain ⟨k, rfl, hk, halk, hbx⟩ := hrel
                have HALK := Lib.hid halk
                have HBX := Lib.hid hbx
                clear halk hbx
                have r0 := obj_cell (HBX.out).b2_one 0
                have s0 := obj_cell (HBX.out).b2_two 0
                have r1 := obj_cell (HBX.out).b2_one 1
                have s1 := obj_cell (HBX.out).b2_two 1
                obtain ⟨c0, c1⟩ := HC.out _ HBX.out.b2_bel
                obtain ⟨e0, e1⟩ := HD.out _ HBX.out.b2_bel
                obtain ⟨g1, hg1⟩ : ∃ g1, g1 = gk := ⟨_, rfl⟩
                subst hg1
                by_cases hltk : k < nv
                · have tk : decide ((k : Int) < (nv : Int)) = true := decide_eq_true (by omega)
                  obtain ⟨v, hv⟩ : ∃ v, x.values[k]? = some v := ⟨_, List.getElem?_eq_getElem (by have := HNV.out; omega)⟩
                  obtain ⟨u, hu⟩ : ∃ u, y.values[k]? = some u := ⟨_, List.getElem?_eq_getElem (by have := HNW.out; omega)⟩
                  have HVI := Lib.hid hv
                  have HUI := Lib.hid hu
                  obtain ⟨gv, ov, rfl, _, hcv⟩ := vl_at HL.out hv
                  obtain ⟨gu, ou, rfl, _, hcu⟩ := vl_at HM.out hu
                  obtain ⟨d0, d1⟩ := hcv _ HBX.out.b2_bel
                  obtain ⟨f0, f1⟩ := hcu _ HBX.out.b2_bel
                  have hq := run_neq_vl v u
                  obtain ⟨r, hr⟩ : ∃ r, r = decide (v = u) := ⟨_, rfl⟩
                  have HR := Lib.hid hr
                  rw [← hr] at hq
                  clear hv hu hcv hcu hr
                  obtain ⟨name1, num1⟩ := v
                  dsimp only at hq d0 d1
                  obtain ⟨sv1, hsv1⟩ : ∃ z, z = strOf name1 := ⟨_, rfl⟩
                  rw [← hsv1] at hq d0
                  clear hsv1
                  obtain ⟨name2, num2⟩ := u
                  dsimp only at hq f0 f1
                  obtain ⟨sv2, hsv2⟩ : ∃ z, z = strOf name2 := ⟨_, rfl⟩
                  rw [← hsv2] at hq f0
                  clear hsv2
                  cases r with
                  | true =>
                    go_wp2
                    go_quiet (fail)
                    go_wp2
                    go_roundg (g1 - 1)
                    case measure => omega
                    case rel => exact ⟨k + 1, by go_num, by omega, (fun j a b hj ha hb => by
                                    by_cases hjk : j < k
                                    · exact HALK.out j a b hjk ha hb
                                    · have : j = k := by omega
                                      subst this
                                      have e1 := HVI.out.symm.trans ha
                                      have e2 := HUI.out.symm.trans hb
                                      injection e1 with e1
                                      injection e2 with e2
                                      rw [← e1, ← e2]
                                      exact of_decide_eq_true HR.out.symm), bx2_step HBX.out (drewN_under wr _)⟩
                  | false =>
                    have HO : Hid (decide (s = t) = false) := Lib.hid (decide_eq_false (fun e => lists_ne HXI.out HYI.out (fun e2 => lists_ne HVI.out HUI.out (of_decide_eq_false HR.out.symm) (congrArg En.values e2)) (HEQ.out.1 e).1))
                    go_wp2
                    go_quiet (fail)
                    go_wp2
                    go_ret
                    exact ⟨ret_bool' HO.out.symm, (bx2_step HBX.out (drewN_under wr _)).b2_bel⟩
                · have tk : decide ((k : Int) < (nv : Int)) = false := decide_eq_false (by omega)
                  have HXY : Hid (x = y) := Lib.hid (by have hv := lists_eq (by have := HNV.out; have := HNW.out; omega) (fun j a b ha hb => HALK.out j a b (by have := (List.getElem?_eq_some_iff.mp ha).1; have := HNV.out; omega) ha hb); have hn := HNM.out; cases x; cases y; dsimp only at hv hn; rw [hv, hn])
                  go_wp2
                  go_roundg (g0 - 1)
                  case measure => omega
                  case rel => exact ⟨i + 1, by go_num, by omega, (fun j a b hj ha hb => by
                                  by_cases hji : j < i
                                  · exact HALL.out j a b hji ha hb
                                  · have : j = i := by omega
                                    subst this
                                    have e1 := HXI.out.symm.trans ha
                                    have e2 := HYI.out.symm.trans hb
                                    injection e1 with e1
                                    injection e2 with e2
                                    rw [← e1, ← e2]
                                    exact HXY.out), HBX.out⟩
            · have t3 : ((nv : Int) == (nw : Int)) = false := beq_false_of_ne (by omega)
              have t4 : ((nv : Int) != (nw : Int)) = true := by simp; omega
              have t5 : ¬ nv = nw := hv
              have HO : Hid (decide (s = t) = false) := Lib.hid (decide_eq_false (fun e => lists_ne HXI.out HYI.out (fun e2 => hv (by rw [HNV.out, HNW.out, e2])) (HEQ.out.1 e).1))
              go_wp2
              go_quiet (fail)
              go_wp2
              go_ret
              exact ⟨ret_bool' HO.out.symm, (bx2_step HBX.out (drewN_under wr _)).b2_bel⟩
          · have t1 : (sn.toList == sm.toList) = false := by rw [hs1]; exact decide_eq_false hnm
            have t2 : ¬ sn.toList = sm.toList := fun e => hnm (hs2.1 e)
            have HO : Hid (decide (s = t) = false) := Lib.hid (decide_eq_false (fun e => lists_ne HXI.out HYI.out (fun e2 => hnm (by rw [e2])) (HEQ.out.1 e).1))
            clear hs1 hs2
            go_wp2
            go_quiet (fail)
            go_wp2
            go_ret
            exact ⟨ret_bool' HO.out.symm, (bx2_step HBX.out (drewN_under wr _)).b2_bel⟩
        · have ti : decide ((i : Int) < (n : Int)) = false := decide_eq_false (by omega)
          have HEE : Hid (s.enums = t.enums) := Lib.hid (lists_eq (by have := H.out.s_ne; have := K.out.s_ne; omega) (fun j a b ha hb => HALL.out j a b (by have := (List.getElem?_eq_some_iff.mp ha).1; have := H.out.s_ne; omega) ha hb))
          go_wp2
          go_loopg [7] n2 (fun gz x0 wr => ∃ i : Nat, x0 = .int .i64 (i : Int) ∧ i + gz = n2 ∧ (∀ (j : Nat) a b, j < i → s.msgs[j]? = some a → t.msgs[j]? = some b → a = b) ∧ Bx2 w wr (.cells #[.slice A n cap, .slice A2 n2 cap2] 25 (0, 0)) (.cells #[.slice B n cb, .slice B2 n2 cb2] 25 (0, 0)))
          case atStart => exact ⟨0, rfl, by omega, fun j a b hj => absurd hj (Nat.not_lt_zero _), HBX.out⟩
          case round =>
            obtain ⟨i, rfl, hi, hall, hbx⟩ := hrel
            have HALL := Lib.hid hall
            have HBX := Lib.hid hbx
            clear hall hbx
            have r0 := obj_cell (HBX.out).b2_one 0
            have s0 := obj_cell (HBX.out).b2_two 0
            have r1 := obj_cell (HBX.out).b2_one 1
            have s1 := obj_cell (HBX.out).b2_two 1
            obtain ⟨g0, hg0⟩ : ∃ g0, g0 = gk := ⟨_, rfl⟩
            subst hg0
            by_cases hlti : i < n2
            · have ti : decide ((i : Int) < (n2 : Int)) = true := decide_eq_true (by omega)
              obtain ⟨x, hx⟩ : ∃ x, s.msgs[i]? = some x := ⟨_, List.getElem?_eq_getElem (by have := H.out.s_nm; omega)⟩
              obtain ⟨y, hy⟩ : ∃ y, t.msgs[i]? = some y := ⟨_, List.getElem?_eq_getElem (by have := K.out.s_nm; omega)⟩
              have HXI := Lib.hid hx
              have HYI := Lib.hid hy
              obtain ⟨ge, oe, X1, xc1, X3, xc3, rfl, _, hc, hl, hl2⟩ := ms_at H.out.s_m hx
              obtain ⟨gb, ob, Y1, yc1, Y3, yc3, rfl, _, hd, hm, hm2⟩ := ms_at K.out.s_m hy
              obtain ⟨nf, hnf⟩ : ∃ z, z = x.fields.length := ⟨_, rfl⟩
              rw [← hnf] at hc
              obtain ⟨nb, hnb⟩ : ∃ z, z = x.barred.length := ⟨_, rfl⟩
              rw [← hnb] at hc
              obtain ⟨mf, hmf⟩ : ∃ z, z = y.fields.length := ⟨_, rfl⟩
              rw [← hmf] at hd
              obtain ⟨mb, hmb⟩ : ∃ z, z = y.barred.length := ⟨_, rfl⟩
              rw [← hmb] at hd
              obtain ⟨sn, hsn⟩ : ∃ z, z = strOf x.name := ⟨_, rfl⟩
              rw [← hsn] at hc
              obtain ⟨sm, hsm⟩ : ∃ z, z = strOf y.name := ⟨_, rfl⟩
              rw [← hsm] at hd
              have HSM := Lib.hid (fun u (hb : Below w.heap.size w u) => rvsamemsg_any u (lst_keep hl fdR_keep (fun _ h => h) (bel_keep hb)) (lst_keep hl2 inR_keep (fun _ h => h) (bel_keep hb)) (lst_keep hm fdR_keep (fun _ h => h) (bel_keep hb)) (lst_keep hm2 inR_keep (fun _ h => h) (bel_keep hb)) hnf hnb hmf hmb sn sm hsn hsm)
              obtain ⟨r, hr⟩ : ∃ r, r = decide (x = y) := ⟨_, rfl⟩
              have HR := Lib.hid hr
              rw [← hr] at HSM
              have HSK : Hid (∀ w', Bx2 w w' (.cells #[.slice A n cap, .slice (some ⟨ge, oe, none⟩) n2 cap2] 25 (0, 0)) (.cells #[.slice B n cb, .slice (some ⟨gb, ob, none⟩) n2 cb2] 25 (0, 0)) → w'.cell? ⟨w.heap.size, 1, none⟩ = some (.slice (some ⟨ge, oe, none⟩) n2 cap2) ∧ w'.cell? ⟨w.heap.size + 1, 1, none⟩ = some (.slice (some ⟨gb, ob, none⟩) n2 cb2) ∧ w'.cell? ⟨ge, oe + i * 3, none⟩ = some (.string sn) ∧ w'.cell? ⟨ge, oe + i * 3 + 1, none⟩ = some (.slice X1 nf xc1) ∧ w'.cell? ⟨ge, oe + i * 3 + 2, none⟩ = some (.slice X3 nb xc3) ∧ w'.cell? ⟨gb, ob + i * 3, none⟩ = some (.string sm) ∧ w'.cell? ⟨gb, ob + i * 3 + 1, none⟩ = some (.slice Y1 mf yc1) ∧ w'.cell? ⟨gb, ob + i * 3 + 2, none⟩ = some (.slice Y3 mb yc3)) := Lib.hid (fun w' hb => ⟨obj_cell hb.b2_one 1, obj_cell hb.b2_two 1, (hc _ hb.b2_bel).1, (hc _ hb.b2_bel).2.1, (hc _ hb.b2_bel).2.2, (hd _ hb.b2_bel).1, (hd _ hb.b2_bel).2.1, (hd _ hb.b2_bel).2.2⟩)
              clear hx hy hc hd hl hl2 hm hm2 hnf hnb hmf hmb hsn hsm hr
              replace HBX := Lib.hid (bx2_step HBX.out (drewN_under wr 1))
              cases r with
              | true =>
                go_wp2
                go_region_held3 (fun w' => w'.cell? ⟨w.heap.size, 1, none⟩ = some (.slice (some ⟨ge, oe, none⟩) n2 cap2) ∧ w'.cell? ⟨w.heap.size + 1, 1, none⟩ = some (.slice (some ⟨gb, ob, none⟩) n2 cb2) ∧ w'.cell? ⟨ge, oe + i * 3, none⟩ = some (.string sn) ∧ w'.cell? ⟨ge, oe + i * 3 + 1, none⟩ = some (.slice X1 nf xc1) ∧ w'.cell? ⟨ge, oe + i * 3 + 2, none⟩ = some (.slice X3 nb xc3) ∧ w'.cell? ⟨gb, ob + i * 3, none⟩ = some (.string sm) ∧ w'.cell? ⟨gb, ob + i * 3 + 1, none⟩ = some (.slice Y1 mf yc1) ∧ w'.cell? ⟨gb, ob + i * 3 + 2, none⟩ = some (.slice Y3 mb yc3))
                  (exact HSK.out _ HBX.out)
                  (first | (go_at_call 30; refine (HSM.out _ HBX.out.b2_bel).mono ?_; rintro e w1 ⟨rfl, hb⟩; replace HBX := Lib.hid (bx2_step HBX.out hb); clear hb))
                go_wp2
                go_roundg (g0 - 1)
                case measure => omega
                case rel => exact ⟨i + 1, by go_num, by omega, (fun j a b hj ha hb => by
                                by_cases hji : j < i
                                · exact HALL.out j a b hji ha hb
                                · have : j = i := by omega
                                  subst this
                                  have e1 := HXI.out.symm.trans ha
                                  have e2 := HYI.out.symm.trans hb
                                  injection e1 with e1
                                  injection e2 with e2
                                  rw [← e1, ← e2]
                                  exact of_decide_eq_true HR.out.symm), HBX.out⟩
              | false =>
                have HO : Hid (decide (s = t) = false) := Lib.hid (decide_eq_false (fun e => lists_ne HXI.out HYI.out (of_decide_eq_false HR.out.symm) (HEQ.out.1 e).2))
                go_wp2
                go_region_held3 (fun w' => w'.cell? ⟨w.heap.size, 1, none⟩ = some (.slice (some ⟨ge, oe, none⟩) n2 cap2) ∧ w'.cell? ⟨w.heap.size + 1, 1, none⟩ = some (.slice (some ⟨gb, ob, none⟩) n2 cb2) ∧ w'.cell? ⟨ge, oe + i * 3, none⟩ = some (.string sn) ∧ w'.cell? ⟨ge, oe + i * 3 + 1, none⟩ = some (.slice X1 nf xc1) ∧ w'.cell? ⟨ge, oe + i * 3 + 2, none⟩ = some (.slice X3 nb xc3) ∧ w'.cell? ⟨gb, ob + i * 3, none⟩ = some (.string sm) ∧ w'.cell? ⟨gb, ob + i * 3 + 1, none⟩ = some (.slice Y1 mf yc1) ∧ w'.cell? ⟨gb, ob + i * 3 + 2, none⟩ = some (.slice Y3 mb yc3))
                  (exact HSK.out _ HBX.out)
                  (first | (go_at_call 30; refine (HSM.out _ HBX.out.b2_bel).mono ?_; rintro e w1 ⟨rfl, hb⟩; replace HBX := Lib.hid (bx2_step HBX.out hb); clear hb))
                go_wp2
                go_ret
                exact ⟨ret_bool' HO.out.symm, HBX.out.b2_bel⟩
            · have ti : decide ((i : Int) < (n2 : Int)) = false := decide_eq_false (by omega)
              have HO : Hid (decide (s = t) = true) := Lib.hid (decide_eq_true (HEQ.out.2 ⟨HEE.out, lists_eq (by have := H.out.s_nm; have := K.out.s_nm; omega) (fun j a b ha hb => HALL.out j a b (by have := (List.getElem?_eq_some_iff.mp ha).1; have := H.out.s_nm; omega) ha hb)⟩))
              go_wp2
              go_ret
              exact ⟨ret_bool' HO.out.symm, HBX.out.b2_bel⟩
    · have t3 : ((n2 : Int) == (m2 : Int)) = false := beq_false_of_ne (by omega)
      have t4 : ((n2 : Int) != (m2 : Int)) = true := by simp; omega
      have t5 : ¬ n2 = m2 := hn2
      have HO : Hid (decide (s = t) = false) := Lib.hid (decide_eq_false (fun e => hn2 (by rw [H.out.s_nm, K.out.s_nm, e])))
      go_enter Tryz.func15, Tryz.ntmps15
      go_wp2
      go_ret
      exact ⟨ret_bool' HO.out.symm, HBX.out.b2_bel⟩
  · have t3 : ((n : Int) == (m : Int)) = false := beq_false_of_ne (by omega)
    have t4 : ((n : Int) != (m : Int)) = true := by simp; omega
    have t5 : ¬ n = m := hn
    have HO : Hid (decide (s = t) = false) := Lib.hid (decide_eq_false (fun e => hn (by rw [H.out.s_ne, K.out.s_ne, e])))
    go_enter Tryz.func15, Tryz.ntmps15
    go_wp2
    go_ret
    exact ⟨ret_bool' HO.out.symm, HBX.out.b2_bel⟩
end Go.Proofs.YtjogamffdbedkaaGreatDoor

/- The document's layer 15: which are not too great. Conditions: those that each theorem names. -/
namespace Go.Proofs.YtjogamffdbedkaaGreatDoor
open Go.RowKit
set_option linter.unusedVariables false
set_option maxRecDepth 100000

set_option maxHeartbeats 8000000 in
theorem rvsmall_any {S : Nat → Nat → Prop} (w : World) {A A2 : Option Addr} {n cap n2 cap2 : Nat} {s : Sc} (h : ScAt S w A n cap A2 n2 cap2 s) (hok : ScOk s) :
    Calls Tryz.prog 6 #[.agg #[.slice A n cap, .slice A2 n2 cap2]] w fun e w' => e = .returned (.bool (smallT s)) ∧ Below w.heap.size w w' := by
  obtain ⟨m1, m2, m3, m4⟩ := scAt_max h
  have H := Lib.hid h
  have HBX := Lib.hid (bx_start w #[.slice A n cap, .slice A2 n2 cap2] 25)
  have HOK := Lib.hid hok
  have HLN : Hid (n ≤ lenM ∧ n2 ≤ lenM) := Lib.hid (by have := hok.1; have := hok.2.1; have := h.s_ne; have := h.s_nm; omega)
  have HWG : Hid (weigh s = ((n + n2) + (s.enums.map weighE).sum) + (s.msgs.map weighM).sum) := Lib.hid (by unfold weigh; rw [h.s_ne, h.s_nm])
  have gw0 : IntKind.i64.wrap ((n : Int) + (n2 : Int)) = (n : Int) + (n2 : Int) := IntWalk.i64_in _ (by have := HLN.out; unfold lenM at this; omega)
  clear h hok
  have r0 := obj_cell (HBX.out).b_blk 0
  have r1 := obj_cell (HBX.out).b_blk 1
  go_enter Tryz.func6, Tryz.ntmps6
  go_wp2
  clear r0 r1
  go_loopg [3, 4] n (fun gz x0 x1 wr => ∃ i : Nat, x1 = .int .i64 (i : Int) ∧ i + gz = n ∧ ∃ N : Nat, x0 = .int .i64 (N : Int) ∧ N = (n + n2) + ((s.enums.take i).map weighE).sum ∧ Bx w wr (.cells #[.slice A n cap, .slice A2 n2 cap2] 25 (0, 0)))
  case atStart => exact ⟨0, rfl, by omega, n + n2, (by rw [Int.natCast_add]), (by simp), HBX.out⟩
  case round =>
    obtain ⟨i, rfl, hi, N, rfl, hns, hbx⟩ := hrel
    have HBX := Lib.hid hbx
    clear hbx
    have r0 := obj_cell (HBX.out).b_blk 0
    have r1 := obj_cell (HBX.out).b_blk 1
    obtain ⟨g0, hg0⟩ : ∃ g0, g0 = gk := ⟨_, rfl⟩
    subst hg0
    by_cases hlti : i < n
    · have ti : decide ((i : Int) < (n : Int)) = true := decide_eq_true (by omega)
      have HNS := Lib.hid hns
      clear hns
      by_cases h200 : N < 200
      · have t2 : decide ((N : Int) < 200) = true := decide_eq_true (by omega)
        have t3 : (N : Int) < 200 := by omega
        obtain ⟨x, hx⟩ : ∃ x, s.enums[i]? = some x := ⟨_, List.getElem?_eq_getElem (by have := H.out.s_ne; omega)⟩
        have HXI := Lib.hid hx
        obtain ⟨ge, oe, A1, cap1, rfl, _, hc, hl⟩ := en_at H.out.s_e hx
        have q1 := hl.l_le
        have q2 := hl.l_max
        unfold maxLen at q2
        have HL := Lib.hid hl
        obtain ⟨nv, hnv⟩ : ∃ nv, nv = x.values.length := ⟨_, rfl⟩
        have HNV := Lib.hid hnv
        rw [← hnv] at hc q1
        obtain ⟨sn, hsn⟩ : ∃ sn, sn = strOf x.name := ⟨_, rfl⟩
        have HSN := Lib.hid hsn
        rw [← hsn] at hc
        have HC := Lib.hid hc
        clear hx hl hnv hsn hc
        obtain ⟨c0, c1⟩ := HC.out _ HBX.out.b_bel
        have hxo := HOK.out.2.2.1 x (List.mem_of_getElem? HXI.out)
        obtain ⟨z, hz⟩ : ∃ z, z = sn.size := ⟨_, rfl⟩
        obtain ⟨q, hq⟩ : ∃ q, q = z / 10 := ⟨_, rfl⟩
        have hzl : z = x.name.length := by rw [hz, HSN.out, str_size]
        have HLX : Hid (nv ≤ lenM ∧ q ≤ lenM) := Lib.hid ⟨by rw [HNV.out]; exact hxo.2.1, by rw [hq, hzl]; have := hxo.1; omega⟩
        have HWX : Hid (weighE x = nv + q) := Lib.hid (by unfold weighE; rw [HNV.out, hq, hzl])
        have hsz : sn.size = z := hz.symm
        have hd1 : (z : Int).tdiv 10 = (q : Int) := by rw [Int.tdiv_eq_ediv_of_nonneg (by omega)]; omega
        have hd2 : (z : Int) / 10 = (q : Int) := by omega
        have hd3 : z / 10 = q := hq.symm
        have gq : IntKind.i64.wrap (q : Int) = (q : Int) := IntWalk.i64_in _ (by have := HLX.out; unfold lenM at this; omega)
        have gw1 : IntKind.i64.wrap ((N : Int) + (nv : Int)) = (N : Int) + (nv : Int) := IntWalk.i64_in _ (by have := HLX.out; unfold lenM at this; omega)
        have gw2 : IntKind.i64.wrap ((N : Int) + (nv : Int) + (q : Int)) = (N : Int) + (nv : Int) + (q : Int) := IntWalk.i64_in _ (by have := HLX.out; unfold lenM at this; omega)
        clear hxo hz hzl hq
        go_wp2
        go_quiet (fail)
        go_wp2
        go_roundg (g0 - 1)
        case measure => omega
        case rel => exact ⟨i + 1, by go_num, by omega, N + nv + q, (by rw [show ((N + nv + q : Nat) : Int) = (N : Int) + (nv : Int) + (q : Int) by omega]), (by rw [sum_snoc _ _ _ _ HXI.out, HWX.out, HNS.out]; omega), bx_drew HBX.out _⟩
      · have t2 : decide ((N : Int) < 200) = false := decide_eq_false (by omega)
        have t3 : ¬ (N : Int) < 200 := by omega
        have HNO : Hid (smallT s = false) := Lib.hid (small_no (by have := HWG.out; have := HNS.out; have := sum_take s.enums weighE i; omega))
        have t4 : decide ((N : Int) ≥ 200) = true := decide_eq_true (by omega)
        have t5 : decide ((200 : Int) ≤ (N : Int)) = true := decide_eq_true (by omega)
        have HN200 : Hid (200 ≤ N) := Lib.hid (by omega)
        go_wp2
        go_loopg [3, 5] 1 (fun gz x0 x1 wr => x0 = .int .i64 (N : Int) ∧ x1 = .int .i64 0 ∧ Bx w wr (.cells #[.slice A n cap, .slice A2 n2 cap2] 25 (0, 0)))
        case atStart => exact ⟨rfl, rfl, HBX.out⟩
        case round =>
          obtain ⟨rfl, rfl, hbx⟩ := hrel
          have HBX := Lib.hid hbx
          clear hbx
          have r0 := obj_cell (HBX.out).b_blk 0
          have r1 := obj_cell (HBX.out).b_blk 1
          by_cases h0 : 0 < n2
          · have t6 : decide ((0 : Int) < (n2 : Int)) = true := decide_eq_true (by omega)
            have t7 : decide (0 < n2) = true := decide_eq_true (by omega)
            go_wp2
            go_ret
            exact ⟨ret_bool' HNO.out.symm, HBX.out.b_bel⟩
          · have t6 : decide ((0 : Int) < (n2 : Int)) = false := decide_eq_false (by omega)
            have t7 : decide (0 < n2) = false := decide_eq_false (by omega)
            go_wp2
            go_ret
            exact ⟨ret_bool' HNO.out.symm, HBX.out.b_bel⟩
    · have ti : decide ((i : Int) < (n : Int)) = false := decide_eq_false (by omega)
      have HNS := Lib.hid hns
      clear hns
      have HTE : Hid (((s.enums.take i).map weighE).sum = (s.enums.map weighE).sum) := Lib.hid (by rw [List.take_of_length_le (by have := H.out.s_ne; omega)])
      rw [HTE.out] at HNS
      by_cases h200 : N < 200
      · skip
        have HN2 : Hid (N < 200) := Lib.hid h200
        clear h200
        go_wp2
        clear r0 r1
        go_loopg [3, 5] n2 (fun gz x0 x1 wr => ∃ i : Nat, x1 = .int .i64 (i : Int) ∧ i + gz = n2 ∧ ∃ N : Nat, x0 = .int .i64 (N : Int) ∧ N = ((n + n2) + (s.enums.map weighE).sum) + ((s.msgs.take i).map weighM).sum ∧ Bx w wr (.cells #[.slice A n cap, .slice A2 n2 cap2] 25 (0, 0)))
        case atStart => exact ⟨0, rfl, by omega, N, rfl, (by rw [HNS.out]; simp), HBX.out⟩
        case round =>
          obtain ⟨i, rfl, hi, N, rfl, hnm, hbx⟩ := hrel
          have HBX := Lib.hid hbx
          clear hbx
          have r0 := obj_cell (HBX.out).b_blk 0
          have r1 := obj_cell (HBX.out).b_blk 1
          obtain ⟨g0, hg0⟩ : ∃ g0, g0 = gk := ⟨_, rfl⟩
          subst hg0
          by_cases hlti : i < n2
          · have ti : decide ((i : Int) < (n2 : Int)) = true := decide_eq_true (by omega)
            have HNM := Lib.hid hnm
            clear hnm
            by_cases h200 : N < 200
            · have t2 : decide ((N : Int) < 200) = true := decide_eq_true (by omega)
              have t3 : (N : Int) < 200 := by omega
              obtain ⟨x, hx⟩ : ∃ x, s.msgs[i]? = some x := ⟨_, List.getElem?_eq_getElem (by have := H.out.s_nm; omega)⟩
              have HXI := Lib.hid hx
              obtain ⟨ge, oe, A1, cap1, A3, cap3, rfl, _, hc, hl, hl2⟩ := ms_at H.out.s_m hx
              have q1 := hl.l_le
              have q2 := hl.l_max
              have q3 := hl2.l_le
              have q4 := hl2.l_max
              unfold maxLen at q2 q4
              have HL := Lib.hid hl
              have HL2 := Lib.hid hl2
              obtain ⟨nf, hnf⟩ : ∃ nf, nf = x.fields.length := ⟨_, rfl⟩
              obtain ⟨nb, hnb⟩ : ∃ nb, nb = x.barred.length := ⟨_, rfl⟩
              have HNF := Lib.hid hnf
              have HNB := Lib.hid hnb
              rw [← hnf] at hc q1
              rw [← hnb] at hc q3
              obtain ⟨sn, hsn⟩ : ∃ sn, sn = strOf x.name := ⟨_, rfl⟩
              have HSN := Lib.hid hsn
              rw [← hsn] at hc
              have HC := Lib.hid hc
              clear hx hl hl2 hnf hnb hsn hc
              obtain ⟨c0, c1, c2⟩ := HC.out _ HBX.out.b_bel
              have hxo := HOK.out.2.2.2 x (List.mem_of_getElem? HXI.out)
              obtain ⟨z, hz⟩ : ∃ z, z = sn.size := ⟨_, rfl⟩
              obtain ⟨q, hq⟩ : ∃ q, q = z / 10 := ⟨_, rfl⟩
              have hzl : z = x.name.length := by rw [hz, HSN.out, str_size]
              have HLX : Hid (nf ≤ lenM ∧ nb ≤ lenM ∧ q ≤ lenM) := Lib.hid ⟨by rw [HNF.out]; exact hxo.2.1, by rw [HNB.out]; exact hxo.2.2.1, by rw [hq, hzl]; have := hxo.1; omega⟩
              have HWX : Hid (weighM x = nf + nb + q) := Lib.hid (by unfold weighM; rw [HNF.out, HNB.out, hq, hzl])
              have hsz : sn.size = z := hz.symm
              have hd1 : (z : Int).tdiv 10 = (q : Int) := by rw [Int.tdiv_eq_ediv_of_nonneg (by omega)]; omega
              have hd2 : (z : Int) / 10 = (q : Int) := by omega
              have hd3 : z / 10 = q := hq.symm
              have gq : IntKind.i64.wrap (q : Int) = (q : Int) := IntWalk.i64_in _ (by have := HLX.out; unfold lenM at this; omega)
              have gw1 : IntKind.i64.wrap ((N : Int) + (nf : Int)) = (N : Int) + (nf : Int) := IntWalk.i64_in _ (by have := HLX.out; unfold lenM at this; omega)
              have gw2 : IntKind.i64.wrap ((N : Int) + (nf : Int) + (nb : Int)) = (N : Int) + (nf : Int) + (nb : Int) := IntWalk.i64_in _ (by have := HLX.out; unfold lenM at this; omega)
              have gw3 : IntKind.i64.wrap ((N : Int) + (nf : Int) + (nb : Int) + (q : Int)) = (N : Int) + (nf : Int) + (nb : Int) + (q : Int) := IntWalk.i64_in _ (by have := HLX.out; unfold lenM at this; omega)
              clear hxo hz hzl hq
              go_wp2
              go_quiet (fail)
              go_wp2
              go_roundg (g0 - 1)
              case measure => omega
              case rel => exact ⟨i + 1, by go_num, by omega, N + nf + nb + q, (by rw [show ((N + nf + nb + q : Nat) : Int) = (N : Int) + (nf : Int) + (nb : Int) + (q : Int) by omega]), (by rw [sum_snoc _ _ _ _ HXI.out, HWX.out, HNM.out]; omega), bx_drew HBX.out _⟩
            · have t2 : decide ((N : Int) < 200) = false := decide_eq_false (by omega)
              have t3 : ¬ (N : Int) < 200 := by omega
              have HNO : Hid (smallT s = false) := Lib.hid (small_no (by have := HWG.out; have := HNM.out; have := sum_take s.msgs weighM i; omega))
              have t4 : decide ((N : Int) ≥ 200) = true := decide_eq_true (by omega)
              have t5 : decide ((200 : Int) ≤ (N : Int)) = true := decide_eq_true (by omega)
              go_wp2
              go_ret
              exact ⟨ret_bool' HNO.out.symm, HBX.out.b_bel⟩
          · have ti : decide ((i : Int) < (n2 : Int)) = false := decide_eq_false (by omega)
            have HNM := Lib.hid hnm
            clear hnm
            have HTM : Hid (((s.msgs.take i).map weighM).sum = (s.msgs.map weighM).sum) := Lib.hid (by rw [List.take_of_length_le (by have := H.out.s_nm; omega)])
            rw [HTM.out] at HNM
            by_cases h200 : N < 200
            · have t4 : decide ((N : Int) ≥ 200) = false := decide_eq_false (by omega)
              have t5 : decide ((200 : Int) ≤ (N : Int)) = false := decide_eq_false (by omega)
              have HWS : Hid (weigh s < 200) := Lib.hid (by have := HWG.out; have := HNM.out; omega)
              clear h200
              go_wp2
              clear r0 r1
              go_loopg [6] n (fun gz x0 wr => ∃ i : Nat, x0 = .int .i64 (i : Int) ∧ i + gz = n ∧ (s.enums.take i).any longE = false ∧ Bx w wr (.cells #[.slice A n cap, .slice A2 n2 cap2] 25 (0, 0)))
              case atStart => exact ⟨0, rfl, by omega, rfl, HBX.out⟩
              case round =>
                obtain ⟨i, rfl, hi, hfb, hbx⟩ := hrel
                have HBX := Lib.hid hbx
                clear hbx
                have r0 := obj_cell (HBX.out).b_blk 0
                have r1 := obj_cell (HBX.out).b_blk 1
                obtain ⟨g0, hg0⟩ : ∃ g0, g0 = gk := ⟨_, rfl⟩
                subst hg0
                by_cases hlti : i < n
                · have ti : decide ((i : Int) < (n : Int)) = true := decide_eq_true (by omega)
                  obtain ⟨x, hx⟩ : ∃ x, s.enums[i]? = some x := ⟨_, List.getElem?_eq_getElem (by have := H.out.s_ne; omega)⟩
                  have HXI := Lib.hid hx
                  obtain ⟨ge, oe, A1, cap1, rfl, _, hc, hl⟩ := en_at H.out.s_e hx
                  have q1 := hl.l_le
                  have q2 := hl.l_max
                  unfold maxLen at q2
                  have HL := Lib.hid hl
                  obtain ⟨nv, hnv⟩ : ∃ nv, nv = x.values.length := ⟨_, rfl⟩
                  have HNV := Lib.hid hnv
                  rw [← hnv] at hc q1
                  obtain ⟨sn, hsn⟩ : ∃ sn, sn = strOf x.name := ⟨_, rfl⟩
                  have HSN := Lib.hid hsn
                  rw [← hsn] at hc
                  have HC := Lib.hid hc
                  clear hx hl hnv hsn hc
                  obtain ⟨c0, c1⟩ := HC.out _ HBX.out.b_bel
                  have HFB := Lib.hid hfb
                  clear hfb
                  go_wp2
                  clear c0 c1
                  clear r0 r1
                  go_loopg [7] nv (fun gz x0 wr => ∃ k : Nat, x0 = .int .i64 (k : Int) ∧ k + gz = nv ∧ (x.values.take k).any longV = false ∧ Bx w wr (.cells #[.slice (some ⟨ge, oe, none⟩) n cap, .slice A2 n2 cap2] 25 (0, 0)))
                  case atStart => exact ⟨0, rfl, by omega, rfl, HBX.out⟩
                  case round =>
                    obtain ⟨k, rfl, hk, hfk, hbx⟩ := hrel
                    have HBX := Lib.hid hbx
                    clear hbx
                    have r0 := obj_cell (HBX.out).b_blk 0
                    have r1 := obj_cell (HBX.out).b_blk 1
                    obtain ⟨g1, hg1⟩ : ∃ g1, g1 = gk := ⟨_, rfl⟩
                    subst hg1
                    by_cases hltk : k < nv
                    · have tk : decide ((k : Int) < (nv : Int)) = true := decide_eq_true (by omega)
                      obtain ⟨v, hv⟩ : ∃ v, x.values[k]? = some v := ⟨_, List.getElem?_eq_getElem (by have := HNV.out; omega)⟩
                      have HVI := Lib.hid hv
                      obtain ⟨gv, ov, rfl, _, hcv⟩ := vl_at HL.out hv
                      obtain ⟨c0, c1⟩ := HC.out _ HBX.out.b_bel
                      obtain ⟨d0, d1⟩ := hcv _ HBX.out.b_bel
                      have HFK := Lib.hid hfk
                      clear hfk
                      obtain ⟨sv, hsv⟩ : ∃ sv, sv = strOf v.name := ⟨_, rfl⟩
                      obtain ⟨z, hz⟩ : ∃ z, z = v.name.length := ⟨_, rfl⟩
                      have hsz : sv.size = z := by rw [hsv, str_size, hz]
                      rw [← hsv] at d0
                      by_cases hl : 1000 < z
                      · have dl : decide ((z : Int) > 1000) = true := decide_eq_true (by omega)
                        have HNO : Hid (smallT s = false) := Lib.hid (small_noE (any_off HXI.out (p := longE) (any_off HVI.out (p := longV) (by unfold longV; rw [← hz]; exact decide_eq_true hl))))
                        clear hv hcv hsv hz
                        go_wp2
                        go_ret
                        exact ⟨ret_bool' HNO.out.symm, HBX.out.b_bel⟩
                      · have dl : decide ((z : Int) > 1000) = false := decide_eq_false (by omega)
                        have HXV : Hid ((x.values.take (k + 1)).any longV = false) := Lib.hid (by rw [any_snoc _ _ _ _ HVI.out, HFK.out]; unfold longV; rw [← hz]; exact decide_eq_false hl)
                        clear hv hcv hsv hz
                        go_wp2
                        go_roundg (g1 - 1)
                        case measure => omega
                        case rel => exact ⟨k + 1, by go_num, by omega, HXV.out, HBX.out⟩
                    · have tk : decide ((k : Int) < (nv : Int)) = false := decide_eq_false (by omega)
                      obtain ⟨c0, c1⟩ := HC.out _ HBX.out.b_bel
                      rw [any_whole x.values _ k (by have := HNV.out; omega)] at hfk
                      have HFK := Lib.hid hfk
                      clear hfk
                      go_wp2
                      go_roundg (g0 - 1)
                      case measure => omega
                      case rel => exact ⟨i + 1, by go_num, by omega, by rw [any_snoc s.enums longE i x HXI.out, HFB.out]; exact HFK.out, HBX.out⟩
                · have ti : decide ((i : Int) < (n : Int)) = false := decide_eq_false (by omega)
                  rw [any_whole s.enums _ i (by have := H.out.s_ne; omega)] at hfb
                  have HSE := Lib.hid hfb
                  clear hfb
                  go_wp2
                  clear r0 r1
                  go_loopg [8] n2 (fun gz x0 wr => ∃ i : Nat, x0 = .int .i64 (i : Int) ∧ i + gz = n2 ∧ (s.msgs.take i).any longM = false ∧ Bx w wr (.cells #[.slice A n cap, .slice A2 n2 cap2] 25 (0, 0)))
                  case atStart => exact ⟨0, rfl, by omega, rfl, HBX.out⟩
                  case round =>
                    obtain ⟨i, rfl, hi, hfb, hbx⟩ := hrel
                    have HBX := Lib.hid hbx
                    clear hbx
                    have r0 := obj_cell (HBX.out).b_blk 0
                    have r1 := obj_cell (HBX.out).b_blk 1
                    obtain ⟨g0, hg0⟩ : ∃ g0, g0 = gk := ⟨_, rfl⟩
                    subst hg0
                    by_cases hlti : i < n2
                    · have ti : decide ((i : Int) < (n2 : Int)) = true := decide_eq_true (by omega)
                      obtain ⟨x, hx⟩ : ∃ x, s.msgs[i]? = some x := ⟨_, List.getElem?_eq_getElem (by have := H.out.s_nm; omega)⟩
                      have HXI := Lib.hid hx
                      obtain ⟨ge, oe, A1, cap1, A3, cap3, rfl, _, hc, hl, hl2⟩ := ms_at H.out.s_m hx
                      have q1 := hl.l_le
                      have q2 := hl.l_max
                      have q3 := hl2.l_le
                      have q4 := hl2.l_max
                      unfold maxLen at q2 q4
                      have HL := Lib.hid hl
                      have HL2 := Lib.hid hl2
                      obtain ⟨nf, hnf⟩ : ∃ nf, nf = x.fields.length := ⟨_, rfl⟩
                      obtain ⟨nb, hnb⟩ : ∃ nb, nb = x.barred.length := ⟨_, rfl⟩
                      have HNF := Lib.hid hnf
                      have HNB := Lib.hid hnb
                      rw [← hnf] at hc q1
                      rw [← hnb] at hc q3
                      obtain ⟨sn, hsn⟩ : ∃ sn, sn = strOf x.name := ⟨_, rfl⟩
                      have HSN := Lib.hid hsn
                      rw [← hsn] at hc
                      have HC := Lib.hid hc
                      clear hx hl hl2 hnf hnb hsn hc
                      obtain ⟨c0, c1, c2⟩ := HC.out _ HBX.out.b_bel
                      have HFB := Lib.hid hfb
                      clear hfb
                      go_wp2
                      clear c0 c1 c2
                      clear r0 r1
                      go_loopg [9] nf (fun gz x0 wr => ∃ k : Nat, x0 = .int .i64 (k : Int) ∧ k + gz = nf ∧ (x.fields.take k).any longF = false ∧ Bx w wr (.cells #[.slice A n cap, .slice (some ⟨ge, oe, none⟩) n2 cap2] 25 (0, 0)))
                      case atStart => exact ⟨0, rfl, by omega, rfl, HBX.out⟩
                      case round =>
                        obtain ⟨k, rfl, hk, hfk, hbx⟩ := hrel
                        have HBX := Lib.hid hbx
                        clear hbx
                        have r0 := obj_cell (HBX.out).b_blk 0
                        have r1 := obj_cell (HBX.out).b_blk 1
                        obtain ⟨g1, hg1⟩ : ∃ g1, g1 = gk := ⟨_, rfl⟩
                        subst hg1
                        by_cases hltk : k < nf
                        · have tk : decide ((k : Int) < (nf : Int)) = true := decide_eq_true (by omega)
                          obtain ⟨f, hf⟩ : ∃ f, x.fields[k]? = some f := ⟨_, List.getElem?_eq_getElem (by have := HNF.out; omega)⟩
                          have HFI := Lib.hid hf
                          obtain ⟨gf, of, rfl, _, hcf⟩ := fd_at HL.out hf
                          have HCF := Lib.hid hcf
                          clear hf hcf
                          have HFK := Lib.hid hfk
                          clear hfk
                          obtain ⟨c0, c1, c2⟩ := HC.out _ HBX.out.b_bel
                          obtain ⟨d0, d1, d2, d3, d4, d5, d6⟩ := HCF.out _ HBX.out.b_bel
                          have HXF := Lib.hid (any_snoc x.fields longF k f HFI.out)
                          have HO := Lib.hid (fun hp : longF f = true => (small_noM (any_off HXI.out (p := longM) (any_off HFI.out (p := longF) hp)) : smallT s = false))
                          obtain ⟨p, hp⟩ : ∃ p, p = longF f := ⟨_, rfl⟩
                          rw [← hp] at HXF HO
                          unfold longF at hp
                          obtain ⟨name, num, ty, ref, rep, loose, one⟩ := f
                          dsimp only at hp d0 d1 d2 d3 d4 d5 d6
                          obtain ⟨sn1, hsn1⟩ : ∃ z, z = strOf name := ⟨_, rfl⟩
                          obtain ⟨z1, hz1⟩ : ∃ z, z = name.length := ⟨_, rfl⟩
                          have szz1 : sn1.size = z1 := by rw [hsn1, str_size, hz1]
                          obtain ⟨sr1, hsr1⟩ : ∃ z, z = strOf ref := ⟨_, rfl⟩
                          obtain ⟨z2, hz2⟩ : ∃ z, z = ref.length := ⟨_, rfl⟩
                          have szz2 : sr1.size = z2 := by rw [hsr1, str_size, hz2]
                          obtain ⟨so1, hso1⟩ : ∃ z, z = strOf one := ⟨_, rfl⟩
                          obtain ⟨z3, hz3⟩ : ∃ z, z = one.length := ⟨_, rfl⟩
                          have szz3 : so1.size = z3 := by rw [hso1, str_size, hz3]
                          rw [← hsn1] at d0
                          rw [← hsr1] at d3
                          rw [← hso1] at d6
                          rw [← hz1, ← hz2, ← hz3] at hp
                          clear hsn1 hsr1 hso1 hz1 hz2 hz3
                          have HBA : Hid (Bx w (wr.alloc (.cells #[.string sn1, .int .i64 num, .int .i64 ty, .string sr1, .bool rep, .bool loose, .string so1] 43)) (.cells #[.slice A n cap, .slice (some ⟨ge, oe, none⟩) n2 cap2] 25 (0, 0))) := Lib.hid (bx_step HBX.out ((Below.refl _ wr).alloc (Nat.le_refl _) _))
                          have a0 := obj_cell HBA.out.b_blk 0
                          have a1 := obj_cell HBA.out.b_blk 1
                          have HFX : Hid ((wr.alloc (.cells #[.string sn1, .int .i64 num, .int .i64 ty, .string sr1, .bool rep, .bool loose, .string so1] 43)).heap[wr.heap.size]? = some (.cells #[.string sn1, .int .i64 num, .int .i64 ty, .string sr1, .bool rep, .bool loose, .string so1] 43 (0, 0))) := Lib.hid (heap_alloc_new wr _)
                          have f0 := obj_cell HFX.out 0
                          have f3 := obj_cell HFX.out 3
                          have f6 := obj_cell HFX.out 6
                          by_cases hz1 : 1000 < z1
                          · have lz1 : decide ((z1 : Int) > 1000) = true := decide_eq_true (by omega)
                            replace hp : p = true := by rw [hp]; simp [*]
                            have HNO : Hid (smallT s = false) := Lib.hid (HO.out hp)
                            go_wp2
                            go_ret
                            exact ⟨ret_bool' HNO.out.symm, HBA.out.b_bel⟩
                          · have lz1 : decide ((z1 : Int) > 1000) = false := decide_eq_false (by omega)
                            by_cases hz2 : 1000 < z2
                            · have lz2 : decide ((z2 : Int) > 1000) = true := decide_eq_true (by omega)
                              replace hp : p = true := by rw [hp]; simp [*]
                              have HNO : Hid (smallT s = false) := Lib.hid (HO.out hp)
                              go_wp2
                              go_ret
                              exact ⟨ret_bool' HNO.out.symm, HBA.out.b_bel⟩
                            · have lz2 : decide ((z2 : Int) > 1000) = false := decide_eq_false (by omega)
                              by_cases hz3 : 1000 < z3
                              · have lz3 : decide ((z3 : Int) > 1000) = true := decide_eq_true (by omega)
                                replace hp : p = true := by rw [hp]; simp [*]
                                have HNO : Hid (smallT s = false) := Lib.hid (HO.out hp)
                                go_wp2
                                go_ret
                                exact ⟨ret_bool' HNO.out.symm, HBA.out.b_bel⟩
                              · have lz3 : decide ((z3 : Int) > 1000) = false := decide_eq_false (by omega)
                                replace hp : p = false := by rw [hp]; simp [*]
                                have HXK : Hid ((x.fields.take (k + 1)).any longF = false) := Lib.hid (by rw [HXF.out, HFK.out, hp]; rfl)
                                go_wp2
                                go_roundg (g1 - 1)
                                case measure => omega
                                case rel => exact ⟨k + 1, by go_num, by omega, HXK.out, HBA.out⟩
                        · have tk : decide ((k : Int) < (nf : Int)) = false := decide_eq_false (by omega)
                          obtain ⟨c0, c1, c2⟩ := HC.out _ HBX.out.b_bel
                          rw [any_whole x.fields _ k (by have := HNF.out; omega)] at hfk
                          have HFK := Lib.hid hfk
                          clear hfk
                          go_wp2
                          go_roundg (g0 - 1)
                          case measure => omega
                          case rel => exact ⟨i + 1, by go_num, by omega, by rw [any_snoc s.msgs longM i x HXI.out, HFB.out]; exact HFK.out, HBX.out⟩
                    · have ti : decide ((i : Int) < (n2 : Int)) = false := decide_eq_false (by omega)
                      rw [any_whole s.msgs _ i (by have := H.out.s_nm; omega)] at hfb
                      have HYES : Hid (smallT s = true) := Lib.hid (small_of HWS.out HSE.out hfb)
                      clear hfb
                      go_wp2
                      go_ret
                      exact ⟨ret_bool' HYES.out.symm, HBX.out.b_bel⟩
            · have t4 : decide ((N : Int) ≥ 200) = true := decide_eq_true (by omega)
              have t5 : decide ((200 : Int) ≤ (N : Int)) = true := decide_eq_true (by omega)
              have HNO : Hid (smallT s = false) := Lib.hid (small_no (by have := HWG.out; have := HNM.out; omega))
              go_wp2
              go_ret
              exact ⟨ret_bool' HNO.out.symm, HBX.out.b_bel⟩
      · have t3 : ¬ (N : Int) < 200 := by omega
        have t2 : decide ((N : Int) < 200) = false := decide_eq_false (by omega)
        have HNO : Hid (smallT s = false) := Lib.hid (small_no (by have := HWG.out; have := HNS.out; omega))
        have t4 : decide ((N : Int) ≥ 200) = true := decide_eq_true (by omega)
        have t5 : decide ((200 : Int) ≤ (N : Int)) = true := decide_eq_true (by omega)
        have HN200 : Hid (200 ≤ N) := Lib.hid (by omega)
        go_wp2
        go_loopg [3, 5] 1 (fun gz x0 x1 wr => x0 = .int .i64 (N : Int) ∧ x1 = .int .i64 0 ∧ Bx w wr (.cells #[.slice A n cap, .slice A2 n2 cap2] 25 (0, 0)))
        case atStart => exact ⟨rfl, rfl, HBX.out⟩
        case round =>
          obtain ⟨rfl, rfl, hbx⟩ := hrel
          have HBX := Lib.hid hbx
          clear hbx
          have r0 := obj_cell (HBX.out).b_blk 0
          have r1 := obj_cell (HBX.out).b_blk 1
          by_cases h0 : 0 < n2
          · have t6 : decide ((0 : Int) < (n2 : Int)) = true := decide_eq_true (by omega)
            have t7 : decide (0 < n2) = true := decide_eq_true (by omega)
            go_wp2
            go_ret
            exact ⟨ret_bool' HNO.out.symm, HBX.out.b_bel⟩
          · have t6 : decide ((0 : Int) < (n2 : Int)) = false := decide_eq_false (by omega)
            have t7 : decide (0 < n2) = false := decide_eq_false (by omega)
            go_wp2
            go_ret
            exact ⟨ret_bool' HNO.out.symm, HBX.out.b_bel⟩
end Go.Proofs.YtjogamffdbedkaaGreatDoor

/- Layer 17 in plain words (no program here): schemas' texts, and how long these are. Conditions: those that each theorem names. -/
namespace Go.Proofs.YtjogamffdbedkaaGreatDoor
open Go.RowKit
set_option linter.unusedVariables false

def digT (n : Int) : List UInt8 := if n < 0 then [48] else digitsT n.toNat false
def valLine (v : Vl) : List UInt8 := [32, 32] ++ v.name ++ [32, 61, 32] ++ digT v.num ++ [59, 10]
def enumHead (e : En) : List UInt8 := [101, 110, 117, 109, 32] ++ e.name ++ [32, 123, 10]
def enumText (e : En) : List UInt8 := enumHead e ++ e.values.flatMap valLine ++ [125, 10]
def barT : List Int → List UInt8
  | [] => []
  | a :: r => digT a ++ r.flatMap (fun n => [44, 32] ++ digT n)
def resHead : List UInt8 := [32, 32, 114, 101, 115, 101, 114, 118, 101, 100, 32]
def resLine (l : List Int) : List UInt8 := if l.length = 0 then [] else resHead ++ barT l ++ [59, 10]
def oneofT (f : Fd) : List UInt8 := if f.one = [] then [] else [111, 110, 101, 111, 102, 32] ++ f.one ++ [32]
def fieldLine (f : Fd) : List UInt8 := [32, 32] ++ oneofT f ++ ftextT f ++ [10]
def msgHead (m : Ms) : List UInt8 := [109, 101, 115, 115, 97, 103, 101, 32] ++ m.name ++ [32, 123, 10]
def msgText (m : Ms) : List UInt8 := msgHead m ++ resLine m.barred ++ m.fields.flatMap fieldLine ++ [125, 10]
def schText (s : Sc) : List UInt8 := if checkT s = 0 then s.enums.flatMap enumText ++ s.msgs.flatMap msgText else []

theorem digitsT_len {n : Nat} (h : n < 18446744073709551616) : (digitsT n false).length ≤ 21 := by
  have := decOf_len64 h
  unfold digitsT
  split
  · simp
  · rw [if_neg (by decide)]; omega
theorem digT_len {n : Int} (h : Int64 n) : (digT n).length ≤ 21 := by
  unfold digT
  split
  · simp
  · unfold Int64 at h
    exact digitsT_len (by omega)
theorem flat_le {α β : Type} (f : α → List β) (B : Nat) : ∀ (l : List α), (∀ x ∈ l, (f x).length ≤ B) → (l.flatMap f).length ≤ l.length * B
  | [], _ => by simp
  | a :: r, h => by
    have h1 := h a List.mem_cons_self
    have h2 := flat_le f B r (fun x hx => h x (List.mem_cons_of_mem _ hx))
    rw [List.flatMap_cons, List.length_append, List.length_cons, Nat.add_mul]
    omega
theorem flat_part {α β : Type} (f : α → List β) (l : List α) (i : Nat) : ((l.take i).flatMap f).length ≤ (l.flatMap f).length := by
  conv => rhs; rw [← List.take_append_drop i l]
  rw [List.flatMap_append, List.length_append]
  omega
structure EnFits (e : En) : Prop where
  ef_name : e.name.length ≤ 2000
  ef_vals : e.values.length ≤ 200
  ef_each : ∀ v ∈ e.values, v.name.length ≤ 1000 ∧ Int64 v.num
structure MsFits (m : Ms) : Prop where
  mf_name : m.name.length ≤ 2000
  mf_fields : m.fields.length ≤ 200
  mf_barred : m.barred.length ≤ 200
  mf_each : ∀ f ∈ m.fields, f.one.length ≤ 1000
  mf_nums : ∀ n ∈ m.barred, Int64 n
theorem valLine_len {v : Vl} (h : v.name.length ≤ 1000 ∧ Int64 v.num) : (valLine v).length ≤ 1028 := by
  have := digT_len h.2
  unfold valLine
  simp only [List.length_append, List.length_cons, List.length_nil]
  omega
theorem enumBody_len {e : En} (h : EnFits e) (i : Nat) : (enumHead e ++ (e.values.take i).flatMap valLine).length ≤ 208000 := by
  have h1 := flat_le valLine 1028 e.values (fun v hv => valLine_len (h.ef_each v hv))
  have h2 := flat_part valLine e.values i
  have h3 := h.ef_vals
  have h4 := h.ef_name
  unfold enumHead
  simp only [List.length_append, List.length_cons, List.length_nil]
  omega
theorem enumText_len {e : En} (h : EnFits e) : (enumText e).length ≤ 208002 := by
  have := enumBody_len h e.values.length
  rw [List.take_length] at this
  unfold enumText
  rw [List.length_append]
  simp only [List.length_cons, List.length_nil]
  omega
theorem ftextT_len (f : Fd) : (ftextT f).length ≤ 80 := by
  unfold ftextT
  by_cases h0 : fcheckT f = 0
  · rw [if_pos h0]
    obtain ⟨h1, h2, h3, h4, h5, h6, h7, h8⟩ := fcheck_ok h0
    have hn := fieldB_in h4
    have hln := nameB_len h1
    have hlr : f.ref.length ≤ 12 := by
      rcases h3 with ⟨_, e⟩ | ⟨_, e⟩
      · exact nameB_len e
      · rw [e]; simp
    have hlw := wordT_short f.ty
    have hld := digitsT_len (n := f.num.toNat) (by omega)
    have hb : (ftextB f).length ≤ 70 := by
      unfold ftextB
      simp only [List.length_append, List.length_cons, List.length_nil]
      omega
    split
    · simp only [List.length_append, List.length_cons, List.length_nil]; omega
    · split
      · simp only [List.length_append, List.length_cons, List.length_nil]; omega
      · omega
  · rw [if_neg h0]; simp
theorem oneofT_len {f : Fd} (h : f.one.length ≤ 1000) : (oneofT f).length ≤ 1007 := by
  unfold oneofT
  split
  · simp
  · simp only [List.length_append, List.length_cons, List.length_nil]; omega
theorem fieldLine_len {f : Fd} (h : f.one.length ≤ 1000) : (fieldLine f).length ≤ 1090 := by
  have h1 := oneofT_len h
  have h2 := ftextT_len f
  unfold fieldLine
  simp only [List.length_append, List.length_cons, List.length_nil]
  omega
theorem barT_snoc (l : List Int) (x : Int) : barT (l ++ [x]) = barT l ++ (if 0 < l.length then [44, 32] else []) ++ digT x := by
  cases l with
  | nil => simp [barT]
  | cons a r =>
    rw [List.cons_append, barT, barT, if_pos (by simp), List.flatMap_append]
    simp
theorem barT_len : ∀ (l : List Int), (∀ n ∈ l, Int64 n) → (barT l).length ≤ l.length * 23
  | [], _ => by simp [barT]
  | a :: r, h => by
    have h1 := digT_len (h a List.mem_cons_self)
    have h2 := flat_le (fun n => [44, 32] ++ digT n) 23 r (fun n hn => by
      have := digT_len (h n (List.mem_cons_of_mem _ hn))
      simp only [List.length_append, List.length_cons, List.length_nil]
      omega)
    rw [barT, List.length_append, List.length_cons, Nat.add_mul]
    omega
theorem barTake_len {m : Ms} (h : MsFits m) (i : Nat) : (barT (m.barred.take i)).length ≤ 4600 := by
  have h1 := barT_len (m.barred.take i) (fun n hn => h.mf_nums n (List.mem_of_mem_take hn))
  have h2 := h.mf_barred
  have h3 : (m.barred.take i).length ≤ 200 := by rw [List.length_take]; omega
  omega
theorem msgHead_len {m : Ms} (h : MsFits m) : (msgHead m).length ≤ 2011 := by
  have := h.mf_name
  unfold msgHead
  simp only [List.length_append, List.length_cons, List.length_nil]
  omega
theorem resLine_len {m : Ms} (h : MsFits m) : (resLine m.barred).length ≤ 4613 := by
  have := barTake_len h m.barred.length
  rw [List.take_length] at this
  unfold resLine resHead
  split
  · simp
  · simp only [List.length_append, List.length_cons, List.length_nil]; omega
theorem msgBody_len {m : Ms} (h : MsFits m) (i : Nat) : (msgHead m ++ resLine m.barred ++ (m.fields.take i).flatMap fieldLine).length ≤ 225000 := by
  have h1 := flat_le fieldLine 1090 m.fields (fun f hf => fieldLine_len (h.mf_each f hf))
  have h2 := flat_part fieldLine m.fields i
  have h3 := h.mf_fields
  have h4 := msgHead_len h
  have h5 := resLine_len h
  simp only [List.length_append]
  omega
theorem msgText_len {m : Ms} (h : MsFits m) : (msgText m).length ≤ 225002 := by
  have := msgBody_len h m.fields.length
  rw [List.take_length] at this
  unfold msgText
  rw [List.length_append]
  simp only [List.length_cons, List.length_nil]
  omega
theorem sc_fits {s : Sc} (hs : smallT s = true) (hok : ScOk s) : (∀ e ∈ s.enums, EnFits e) ∧ ∀ m ∈ s.msgs, MsFits m := by
  have hz := small_sizes hs
  unfold smallT at hs
  rw [Bool.and_eq_true, Bool.and_eq_true, Bool.not_eq_true', Bool.not_eq_true', decide_eq_true_iff, List.any_eq_false, List.any_eq_false] at hs
  obtain ⟨h1, h2, h3⟩ := hs
  unfold weigh at h1
  refine ⟨fun e he => ⟨?_, hz.2.2.1 e he, fun v hv => ⟨?_, ?_⟩⟩, fun m hm => ⟨?_, (hz.2.2.2 m hm).1, (hz.2.2.2 m hm).2, fun f hf => ?_, fun n hn => ?_⟩⟩
  · have := sum_mem (f := weighE) he
    unfold weighE at this h1
    omega
  · have := h2 e he
    unfold longE at this
    rw [Bool.not_eq_true, List.any_eq_false] at this
    have := this v hv
    unfold longV at this
    simp at this
    exact this
  · exact ((hok.2.2.1 e he).2.2 v hv).1
  · have := sum_mem (f := weighM) hm
    unfold weighM at this h1
    omega
  · have := h3 m hm
    unfold longM at this
    rw [Bool.not_eq_true, List.any_eq_false] at this
    have := this f hf
    unfold longF at this
    simp at this
    omega
  · exact (hok.2.2.2 m hm).2.2.2.2 n hn
end Go.Proofs.YtjogamffdbedkaaGreatDoor

/- Layer 17 in plain words: two schemas that may be have one text just if they are the same. Conditions: those that each theorem names. -/
namespace Go.Proofs.YtjogamffdbedkaaGreatDoor
open Go.RowKit
set_option linter.unusedVariables false

/-- A run of bytes of one kind, and what stands behind it. -/
theorem span_eq {P : UInt8 → Bool} : ∀ {a b : List UInt8} {c d : UInt8} {r q : List UInt8}, (∀ x ∈ a, P x = true) → (∀ x ∈ b, P x = true) → P c = false → P d = false → a ++ c :: r = b ++ d :: q → a = b ∧ c = d ∧ r = q
  | [], [], c, d, r, q, _, _, _, _, h => by
    injection h with h1 h2
    exact ⟨rfl, h1, h2⟩
  | [], y :: b, c, d, r, q, _, hb, hc, _, h => by
    injection h with h1 h2
    have := hb y List.mem_cons_self
    rw [← h1, hc] at this
    cases this
  | x :: a, [], c, d, r, q, ha, _, _, hd, h => by
    injection h with h1 h2
    have := ha x List.mem_cons_self
    rw [h1, hd] at this
    cases this
  | x :: a, y :: b, c, d, r, q, ha, hb, hc, hd, h => by
    injection h with h1 h2
    obtain ⟨e1, e2, e3⟩ := span_eq (fun z hz => ha z (List.mem_cons_of_mem _ hz)) (fun z hz => hb z (List.mem_cons_of_mem _ hz)) hc hd h2
    exact ⟨by rw [h1, e1], e2, e3⟩
theorem name_chars {t : List UInt8} (h : nameB t = true) : ∀ c ∈ t, charB c = true := by
  unfold nameB at h
  simp only [Bool.and_eq_true] at h
  exact fun c hc => List.all_eq_true.mp h.1.2 c hc
theorem name_word {t : List UInt8} (h : nameB t = true) : t ∉ wordsL := by
  unfold nameB at h
  simp only [Bool.and_eq_true, Bool.not_eq_true'] at h
  intro hm
  have := h.2
  rw [List.contains_eq_mem, decide_eq_false_iff_not] at this
  exact this hm
theorem char_blank : charB 32 = false := by decide
/-- A name and a blank. -/
theorem name_eq {a b r q : List UInt8} (ha : ∀ c ∈ a, charB c = true) (hb : ∀ c ∈ b, charB c = true) (h : a ++ 32 :: r = b ++ 32 :: q) : a = b ∧ r = q := by
  obtain ⟨h1, _, h2⟩ := span_eq ha hb char_blank char_blank h
  exact ⟨h1, h2⟩
theorem digT_digits {n : Int} : ∀ c ∈ digT n, digitB c = true := by
  intro c hc
  unfold digT at hc
  split at hc
  · simp at hc; subst hc; decide
  · unfold digitsT at hc
    split at hc
    · simp at hc; subst hc; decide
    · rw [if_neg (by decide)] at hc
      exact decOf_digits _ _ (Nat.le_refl _) c hc
theorem digT_val {n : Int} (h : 0 ≤ n) : (valOf 0 (digT n) : Int) = n := by
  unfold digT
  rw [if_neg (by omega)]
  unfold digitsT
  split
  · rename_i h0
    have : valOf 0 [48] = 0 := by decide
    rw [this]
    omega
  · rw [if_neg (by decide), decOf_val _ _ (Nat.le_refl _)]
    omega
theorem digT_inj {n m : Int} (h1 : 0 ≤ n) (h2 : 0 ≤ m) (h : digT n = digT m) : n = m := by rw [← digT_val h1, ← digT_val h2, h]
/-- A number and what ends it. -/
theorem dig_eq {n m : Int} {c d : UInt8} {r q : List UInt8} (h1 : 0 ≤ n) (h2 : 0 ≤ m) (hc : digitB c = false) (hd : digitB d = false) (h : digT n ++ c :: r = digT m ++ d :: q) : n = m ∧ c = d ∧ r = q := by
  obtain ⟨e1, e2, e3⟩ := span_eq digT_digits digT_digits hc hd h
  exact ⟨digT_inj h1 h2 e1, e2, e3⟩
/-- Lines that begin with one byte, up to what begins with another one. -/
theorem lines_eq {α β : Type} {f : α → List UInt8} {g : α → β} {V : α → Prop} {b0 : UInt8} (hf : ∀ x, ∃ t, f x = b0 :: t) (hone : ∀ x y r q, V x → V y → f x ++ r = f y ++ q → g x = g y ∧ r = q) :
    ∀ {l m : List α} {r q : List UInt8}, (∀ x ∈ l, V x) → (∀ x ∈ m, V x) → (∀ t, r ≠ b0 :: t) → (∀ t, q ≠ b0 :: t) → l.flatMap f ++ r = m.flatMap f ++ q → l.map g = m.map g ∧ r = q
  | [], [], r, q, _, _, _, _, h => ⟨rfl, by simpa using h⟩
  | [], y :: m, r, q, _, _, hr, _, h => by
    obtain ⟨t, ht⟩ := hf y
    rw [List.flatMap_cons, ht] at h
    exact absurd h (hr _)
  | x :: l, [], r, q, _, _, _, hq, h => by
    obtain ⟨t, ht⟩ := hf x
    rw [List.flatMap_cons, ht] at h
    exact absurd h.symm (hq _)
  | x :: l, y :: m, r, q, hl, hm, hr, hq, h => by
    rw [List.flatMap_cons, List.flatMap_cons, List.append_assoc, List.append_assoc] at h
    obtain ⟨e1, e2⟩ := hone x y _ _ (hl x List.mem_cons_self) (hm y List.mem_cons_self) h
    obtain ⟨e3, e4⟩ := lines_eq hf hone (fun z hz => hl z (List.mem_cons_of_mem _ hz)) (fun z hz => hm z (List.mem_cons_of_mem _ hz)) hr hq e2
    exact ⟨by rw [List.map_cons, List.map_cons, e1, e3], e4⟩

/-! ### Enums -/
theorem valLine_eq (v u : Vl) (r q : List UInt8) (hv : nameB v.name = true ∧ 0 ≤ v.num) (hu : nameB u.name = true ∧ 0 ≤ u.num) (h : valLine v ++ r = valLine u ++ q) : id v = id u ∧ r = q := by
  unfold valLine at h
  simp only [List.append_assoc, List.cons_append, List.nil_append] at h
  injection h with _ h
  injection h with _ h
  obtain ⟨e1, h⟩ := name_eq (name_chars hv.1) (name_chars hu.1) h
  injection h with _ h
  injection h with _ h
  obtain ⟨e2, _, h⟩ := dig_eq hv.2 hu.2 (by decide) (by decide) h
  injection h with _ hz
  obtain ⟨n1, x1⟩ := v
  obtain ⟨n2, x2⟩ := u
  dsimp only at e1 e2
  rw [e1, e2]
  exact ⟨rfl, hz⟩
def EnGood (e : En) : Prop := nameB e.name = true ∧ ∀ v ∈ e.values, nameB v.name = true ∧ 0 ≤ v.num
theorem enum_eq (e d : En) (r q : List UInt8) (he : EnGood e) (hd : EnGood d) (h : enumText e ++ r = enumText d ++ q) : id e = id d ∧ r = q := by
  unfold enumText enumHead at h
  simp only [List.append_assoc, List.cons_append, List.nil_append] at h
  injection h with _ h
  injection h with _ h
  injection h with _ h
  injection h with _ h
  injection h with _ h
  obtain ⟨e1, h⟩ := name_eq (name_chars he.1) (name_chars hd.1) h
  injection h with _ h
  injection h with _ h
  obtain ⟨e2, h⟩ := lines_eq (f := valLine) (g := id) (V := fun v => nameB v.name = true ∧ 0 ≤ v.num) (b0 := 32) (fun x => ⟨_, rfl⟩) valLine_eq he.2 hd.2 (fun t e => by injection e with e; exact absurd e (by decide)) (fun t e => by injection e with e; exact absurd e (by decide)) h
  injection h with _ h
  injection h with _ hz
  obtain ⟨n1, l1⟩ := e
  obtain ⟨n2, l2⟩ := d
  dsimp only at e1 e2
  rw [List.map_id, List.map_id] at e2
  rw [e1, e2]
  exact ⟨rfl, hz⟩

/-! ### Barred numbers -/
def tailT (l : List Int) : List UInt8 := l.flatMap (fun n => [44, 32] ++ digT n)
theorem tail_eq : ∀ {l m : List Int} {r q : List UInt8}, (∀ n ∈ l, 0 ≤ n) → (∀ n ∈ m, 0 ≤ n) → ∀ {a b : Int}, 0 ≤ a → 0 ≤ b → digT a ++ (tailT l ++ 59 :: r) = digT b ++ (tailT m ++ 59 :: q) → a :: l = b :: m ∧ r = q
  | [], [], r, q, _, _, a, b, ha, hb, h => by
    obtain ⟨e1, _, e2⟩ := dig_eq ha hb (by decide) (by decide) h
    exact ⟨by rw [e1], e2⟩
  | [], y :: m, r, q, _, _, a, b, ha, hb, h => by
    unfold tailT at h
    rw [List.flatMap_cons] at h
    obtain ⟨_, e, _⟩ := dig_eq (c := 59) (d := 44) ha hb (by decide) (by decide) h
    exact absurd e (by decide)
  | x :: l, [], r, q, _, _, a, b, ha, hb, h => by
    unfold tailT at h
    rw [List.flatMap_cons] at h
    obtain ⟨_, e, _⟩ := dig_eq (c := 44) (d := 59) ha hb (by decide) (by decide) h
    exact absurd e (by decide)
  | x :: l, y :: m, r, q, hl, hm, a, b, ha, hb, h => by
    have ex : ∀ (z : Int) (k : List Int) (t : List UInt8), tailT (z :: k) ++ 59 :: t = 44 :: (32 :: (digT z ++ (tailT k ++ 59 :: t))) := by
      intro z k t
      unfold tailT
      rw [List.flatMap_cons]
      simp
    rw [ex, ex] at h
    obtain ⟨e1, _, e2⟩ := dig_eq ha hb (by decide) (by decide) h
    injection e2 with _ e2
    obtain ⟨e3, e4⟩ := tail_eq (fun n hn => hl n (List.mem_cons_of_mem _ hn)) (fun n hn => hm n (List.mem_cons_of_mem _ hn)) (hl x List.mem_cons_self) (hm y List.mem_cons_self) e2
    exact ⟨by rw [e1, e3], e4⟩

/-! ### Fields -/
def oneofW : List UInt8 := [111, 110, 101, 111, 102]
def looseW : List UInt8 := [108, 111, 111, 115, 101]
def repW : List UInt8 := [114, 101, 112, 101, 97, 116, 101, 100]
def resW : List UInt8 := [114, 101, 115, 101, 114, 118, 101, 100]
/-- The word of a field's type, or what it refers to. -/
def tyW (f : Fd) : List UInt8 := wordT f.ty ++ f.ref
def FdGood (f : Fd) : Prop := fcheckT f = 0
/-- A field but for which kind of thing it refers to. -/
def normF (f : Fd) : Fd := { f with ty := if f.ty = 14 then 15 else f.ty }
theorem wordT_mem {ty : Int} (h1 : 1 ≤ ty) (h2 : ty ≤ 13) : wordT ty ∈ wordsL ∧ wordT ty ≠ oneofW ∧ wordT ty ≠ looseW ∧ wordT ty ≠ repW ∧ wordT ty ≠ resW ∧ (∀ c ∈ wordT ty, charB c = true) ∧ ∀ k : Int, 1 ≤ k → k ≤ 13 → wordT ty = wordT k → ty = k := by
  have hc : ty = 1 ∨ ty = 2 ∨ ty = 3 ∨ ty = 4 ∨ ty = 5 ∨ ty = 6 ∨ ty = 7 ∨ ty = 8 ∨ ty = 9 ∨ ty = 10 ∨ ty = 11 ∨ ty = 12 ∨ ty = 13 := by omega
  refine ⟨?_, ?_, ?_, ?_, ?_, ?_, fun k k1 k2 e => ?_⟩
  · rcases hc with rfl | rfl | rfl | rfl | rfl | rfl | rfl | rfl | rfl | rfl | rfl | rfl | rfl <;> decide
  · rcases hc with rfl | rfl | rfl | rfl | rfl | rfl | rfl | rfl | rfl | rfl | rfl | rfl | rfl <;> decide
  · rcases hc with rfl | rfl | rfl | rfl | rfl | rfl | rfl | rfl | rfl | rfl | rfl | rfl | rfl <;> decide
  · rcases hc with rfl | rfl | rfl | rfl | rfl | rfl | rfl | rfl | rfl | rfl | rfl | rfl | rfl <;> decide
  · rcases hc with rfl | rfl | rfl | rfl | rfl | rfl | rfl | rfl | rfl | rfl | rfl | rfl | rfl <;> decide
  · rcases hc with rfl | rfl | rfl | rfl | rfl | rfl | rfl | rfl | rfl | rfl | rfl | rfl | rfl <;> decide
  · have hk : k = 1 ∨ k = 2 ∨ k = 3 ∨ k = 4 ∨ k = 5 ∨ k = 6 ∨ k = 7 ∨ k = 8 ∨ k = 9 ∨ k = 10 ∨ k = 11 ∨ k = 12 ∨ k = 13 := by omega
    have ht : ∀ i : Fin 13, ∀ j : Fin 13, wordT ((i.val : Int) + 1) = wordT ((j.val : Int) + 1) → i = j := by decide +kernel
    have := ht ⟨(ty - 1).toNat, by omega⟩ ⟨(k - 1).toNat, by omega⟩ (by
      show wordT (((ty - 1).toNat : Int) + 1) = wordT (((k - 1).toNat : Int) + 1)
      rw [show ((ty - 1).toNat : Int) + 1 = ty by omega, show ((k - 1).toNat : Int) + 1 = k by omega]
      exact e)
    injection this with this
    omega
theorem wordT_none {ty : Int} (h : ty = 14 ∨ ty = 15) : wordT ty = [] := by unfold wordT; rw [if_neg (by omega)]
/-- What a field's type word is: one of the language's, or a name. -/
theorem tyW_cases {f : Fd} (h : FdGood f) : (1 ≤ f.ty ∧ f.ty ≤ 13 ∧ f.ref = [] ∧ tyW f = wordT f.ty) ∨ ((f.ty = 14 ∨ f.ty = 15) ∧ nameB f.ref = true ∧ tyW f = f.ref) := by
  obtain ⟨h1, h2, h3, h4, h5, h6, h7, h8⟩ := fcheck_ok h
  unfold tyW
  rcases h3 with ⟨e1, e2⟩ | ⟨e1, e2⟩
  · exact .inr ⟨e1, e2, by rw [wordT_none e1]; rfl⟩
  · exact .inl ⟨h5, by omega, e2, by rw [e2, List.append_nil]⟩
theorem tyW_not {f : Fd} (h : FdGood f) : (∀ c ∈ tyW f, charB c = true) ∧ tyW f ≠ oneofW ∧ tyW f ≠ looseW ∧ tyW f ≠ repW ∧ tyW f ≠ resW := by
  rcases tyW_cases h with ⟨h1, h2, _, e⟩ | ⟨_, h2, e⟩
  · obtain ⟨_, k1, k2, k3, k4, k5, _⟩ := wordT_mem h1 h2
    rw [e]
    exact ⟨k5, k1, k2, k3, k4⟩
  · have hw := name_word h2
    rw [e]
    exact ⟨name_chars h2, fun e => hw (e ▸ by decide), fun e => hw (e ▸ by decide), fun e => hw (e ▸ by decide), fun e => hw (e ▸ by decide)⟩
theorem tyW_inj {f g : Fd} (hf : FdGood f) (hg : FdGood g) (h : tyW f = tyW g) : (normF f).ty = (normF g).ty ∧ f.ref = g.ref := by
  unfold normF
  dsimp only
  rcases tyW_cases hf with ⟨a1, a2, a3, a4⟩ | ⟨a1, a2, a3⟩
  · obtain ⟨w1, _, _, _, _, _, w2⟩ := wordT_mem a1 a2
    rcases tyW_cases hg with ⟨b1, b2, b3, b4⟩ | ⟨b1, b2, b3⟩
    · rw [a4, b4] at h
      have := w2 _ b1 b2 h
      rw [a3, b3, this]
      exact ⟨rfl, rfl⟩
    · rw [a4, b3] at h
      exact absurd (h ▸ w1) (name_word b2)
  · rcases tyW_cases hg with ⟨b1, b2, b3, b4⟩ | ⟨b1, b2, b3⟩
    · obtain ⟨w1, _⟩ := wordT_mem b1 b2
      rw [a3, b4] at h
      exact absurd (h ▸ w1) (name_word a2)
    · rw [a3, b3] at h
      refine ⟨?_, h⟩
      rcases a1 with e | e <;> rcases b1 with e' | e' <;> rw [e, e'] <;> rfl
/-- What stands behind the type's word. -/
def fdTail (f : Fd) : List UInt8 := f.name ++ [32, 61, 32] ++ digT f.num ++ [59]
theorem fdTail_eq {f g : Fd} {r q : List UInt8} (hf : FdGood f) (hg : FdGood g) (h : fdTail f ++ r = fdTail g ++ q) : f.name = g.name ∧ f.num = g.num ∧ r = q := by
  obtain ⟨a1, _, _, a4, _⟩ := fcheck_ok hf
  obtain ⟨b1, _, _, b4, _⟩ := fcheck_ok hg
  have ha := fieldB_in a4
  have hb := fieldB_in b4
  unfold fdTail at h
  simp only [List.append_assoc, List.cons_append, List.nil_append] at h
  obtain ⟨e1, h⟩ := name_eq (name_chars a1) (name_chars b1) h
  injection h with _ h
  injection h with _ h
  obtain ⟨e2, _, h⟩ := dig_eq (by omega) (by omega) (by decide) (by decide) h
  exact ⟨e1, e2, h⟩
theorem ftext_form {f : Fd} (h : FdGood f) : ftextT f = (if f.loose = true then looseW ++ [32] else if f.rep = true then repW ++ [32] else []) ++ (tyW f ++ 32 :: fdTail f) := by
  obtain ⟨_, _, _, a4, _⟩ := fcheck_ok h
  have ha := fieldB_in a4
  have hb : ftextB f = tyW f ++ 32 :: fdTail f := by
    unfold ftextB tyW fdTail digT
    rw [if_neg (by omega)]
    simp
  unfold ftextT
  rw [if_pos (show fcheckT f = 0 from h), hb]
  unfold looseW repW
  split
  · simp
  · split
    · simp
    · simp
theorem word_chars : (∀ c ∈ oneofW, charB c = true) ∧ (∀ c ∈ looseW, charB c = true) ∧ (∀ c ∈ repW, charB c = true) ∧ ∀ c ∈ resW, charB c = true := by decide
/-- The first word of a field's text, and what stands behind it. -/
theorem ftext_word {f : Fd} (h : FdGood f) : ∃ u t, ftextT f = u ++ 32 :: t ∧ (∀ c ∈ u, charB c = true) ∧ u ≠ oneofW ∧ u ≠ resW := by
  obtain ⟨k0, k1, k2, k3, k4⟩ := tyW_not h
  rw [ftext_form h]
  cases f.loose with
  | true => exact ⟨looseW, tyW f ++ 32 :: fdTail f, by rw [if_pos rfl, List.append_assoc]; rfl, word_chars.2.1, by decide, by decide⟩
  | false =>
    cases f.rep with
    | true => exact ⟨repW, tyW f ++ 32 :: fdTail f, by rw [if_neg (by decide), if_pos rfl, List.append_assoc]; rfl, word_chars.2.2.1, by decide, by decide⟩
    | false => exact ⟨tyW f, fdTail f, by rw [if_neg (by decide), if_neg (by decide)]; rfl, k0, k1, k4⟩
theorem ftext_eq {f g : Fd} {r q : List UInt8} (hf : FdGood f) (hg : FdGood g) (h : ftextT f ++ r = ftextT g ++ q) : f.loose = g.loose ∧ f.rep = g.rep ∧ (normF f).ty = (normF g).ty ∧ f.ref = g.ref ∧ f.name = g.name ∧ f.num = g.num ∧ r = q := by
  obtain ⟨a0, a1, a2, a3, a4⟩ := tyW_not hf
  obtain ⟨b0, b1, b2, b3, b4⟩ := tyW_not hg
  obtain ⟨_, _, _, _, _, _, _, f8⟩ := fcheck_ok hf
  obtain ⟨_, _, _, _, _, _, _, g8⟩ := fcheck_ok hg
  have fin : ∀ {r q : List UInt8}, (tyW f ++ 32 :: fdTail f) ++ r = (tyW g ++ 32 :: fdTail g) ++ q → (normF f).ty = (normF g).ty ∧ f.ref = g.ref ∧ f.name = g.name ∧ f.num = g.num ∧ r = q := by
    intro r q h
    rw [List.append_assoc, List.append_assoc, List.cons_append, List.cons_append] at h
    obtain ⟨e1, e2⟩ := name_eq a0 b0 h
    obtain ⟨e3, e4, e5⟩ := fdTail_eq hf hg e2
    obtain ⟨e6, e7⟩ := tyW_inj hf hg e1
    exact ⟨e6, e7, e3, e4, e5⟩
  rw [ftext_form hf, ftext_form hg] at h
  cases hfl : f.loose with
  | true =>
    have hfr : f.rep = true := by
      rcases f8 with e | e
      · rw [e] at hfl; cases hfl
      · exact e.1
    rw [hfl, if_pos rfl] at h
    cases hgl : g.loose with
    | true =>
      have hgr : g.rep = true := by
        rcases g8 with e | e
        · rw [e] at hgl; cases hgl
        · exact e.1
      rw [hgl, if_pos rfl] at h
      simp only [List.append_assoc] at h
      have h2 := List.append_cancel_left (List.append_cancel_left h)
      rw [← List.append_assoc, ← List.append_assoc] at h2
      exact ⟨rfl, by rw [hfr, hgr], fin h2⟩
    | false =>
      rw [hgl, if_neg (by decide)] at h
      cases hgr : g.rep with
      | true =>
        rw [hgr, if_pos rfl] at h
        simp only [List.append_assoc, List.cons_append, List.nil_append] at h
        exact absurd (name_eq word_chars.2.1 word_chars.2.2.1 h).1 (by decide)
      | false =>
        rw [hgr, if_neg (by decide)] at h
        simp only [List.append_assoc, List.cons_append, List.nil_append] at h
        exact absurd (name_eq word_chars.2.1 b0 h).1.symm b2
  | false =>
    rw [hfl, if_neg (by decide)] at h
    cases hfr : f.rep with
    | true =>
      rw [hfr, if_pos rfl] at h
      cases hgl : g.loose with
      | true =>
        rw [hgl, if_pos rfl] at h
        simp only [List.append_assoc, List.cons_append, List.nil_append] at h
        exact absurd (name_eq word_chars.2.2.1 word_chars.2.1 h).1 (by decide)
      | false =>
        rw [hgl, if_neg (by decide)] at h
        cases hgr : g.rep with
        | true =>
          rw [hgr, if_pos rfl] at h
          simp only [List.append_assoc] at h
          have h2 := List.append_cancel_left (List.append_cancel_left h)
          rw [← List.append_assoc, ← List.append_assoc] at h2
          exact ⟨rfl, rfl, fin h2⟩
        | false =>
          rw [hgr, if_neg (by decide)] at h
          simp only [List.append_assoc, List.cons_append, List.nil_append] at h
          exact absurd (name_eq word_chars.2.2.1 b0 h).1.symm b3
    | false =>
      rw [hfr, if_neg (by decide)] at h
      cases hgl : g.loose with
      | true =>
        rw [hgl, if_pos rfl] at h
        simp only [List.append_assoc, List.cons_append, List.nil_append] at h
        exact absurd (name_eq a0 word_chars.2.1 h).1 a2
      | false =>
        rw [hgl, if_neg (by decide)] at h
        cases hgr : g.rep with
        | true =>
          rw [hgr, if_pos rfl] at h
          simp only [List.append_assoc, List.cons_append, List.nil_append] at h
          exact absurd (name_eq a0 word_chars.2.2.1 h).1 a3
        | false =>
          rw [hgr, if_neg (by decide)] at h
          exact ⟨rfl, rfl, fin h⟩
theorem fieldLine_eq (f g : Fd) (r q : List UInt8) (hf : FdGood f) (hg : FdGood g) (h : fieldLine f ++ r = fieldLine g ++ q) : normF f = normF g ∧ r = q := by
  obtain ⟨_, f2, _⟩ := fcheck_ok hf
  obtain ⟨_, g2, _⟩ := fcheck_ok hg
  have fin : f.one = g.one → ∀ {r q : List UInt8}, ftextT f ++ 10 :: r = ftextT g ++ 10 :: q → normF f = normF g ∧ r = q := by
    intro ho r q h
    obtain ⟨e1, e2, e3, e4, e5, e6, e7⟩ := ftext_eq hf hg h
    injection e7 with _ e7
    obtain ⟨n1, x1, t1, r1, p1, l1, o1⟩ := f
    obtain ⟨n2, x2, t2, r2, p2, l2, o2⟩ := g
    unfold normF at e3 ⊢
    dsimp only at e1 e2 e3 e4 e5 e6 ho ⊢
    rw [e1, e2, e3, e4, e5, e6, ho]
    exact ⟨rfl, e7⟩
  unfold fieldLine at h
  simp only [List.append_assoc, List.cons_append, List.nil_append] at h
  injection h with _ h
  injection h with _ h
  unfold oneofT at h
  by_cases ho : f.one = []
  · rw [if_pos ho] at h
    by_cases go : g.one = []
    · rw [if_pos go] at h
      exact fin (by rw [ho, go]) h
    · rw [if_neg go] at h
      obtain ⟨u, t, e1, e2, e3, _⟩ := ftext_word hf
      rw [e1] at h
      simp only [List.append_assoc, List.cons_append, List.nil_append] at h
      exact absurd (name_eq (b := oneofW) e2 word_chars.1 h).1 e3
  · rw [if_neg ho] at h
    have fo : nameB f.one = true := by
      rcases f2 with e | e
      · exact absurd e ho
      · exact e
    by_cases go : g.one = []
    · rw [if_pos go] at h
      obtain ⟨u, t, e1, e2, e3, _⟩ := ftext_word hg
      rw [e1] at h
      simp only [List.append_assoc, List.cons_append, List.nil_append] at h
      exact absurd (name_eq (a := oneofW) word_chars.1 e2 h).1.symm e3
    · rw [if_neg go] at h
      have gone : nameB g.one = true := by
        rcases g2 with e | e
        · exact absurd e go
        · exact e
      simp only [List.append_assoc, List.cons_append, List.nil_append] at h
      obtain ⟨_, h⟩ := name_eq (a := oneofW) (b := oneofW) word_chars.1 word_chars.1 h
      obtain ⟨e1, h⟩ := name_eq (name_chars fo) (name_chars gone) h
      exact fin e1 h
/-- The first word of a field's line is not that of barred numbers. -/
theorem fieldLine_word {f : Fd} (h : FdGood f) : ∃ u t, fieldLine f = 32 :: 32 :: (u ++ 32 :: t) ∧ (∀ c ∈ u, charB c = true) ∧ u ≠ resW := by
  unfold fieldLine oneofT
  by_cases ho : f.one = []
  · rw [if_pos ho]
    obtain ⟨u, t, e1, e2, _, e3⟩ := ftext_word h
    exact ⟨u, t ++ [10], by rw [e1]; simp, e2, e3⟩
  · rw [if_neg ho]
    exact ⟨oneofW, f.one ++ [32] ++ ftextT f ++ [10], by unfold oneofW; simp, word_chars.1, by decide⟩

/-! ### Messages -/
def MsGood (m : Ms) : Prop := nameB m.name = true ∧ (∀ n ∈ m.barred, 0 ≤ n) ∧ ∀ f ∈ m.fields, FdGood f
def normM (m : Ms) : Ms := { m with fields := m.fields.map normF }
theorem bar_form {l : List Int} (h : l.length ≠ 0) : ∃ a k, l = a :: k ∧ barT l = digT a ++ tailT k := by
  cases l with
  | nil => exact absurd rfl h
  | cons a k => exact ⟨a, k, rfl, rfl⟩
theorem fields_eq {l m : List Fd} {r q : List UInt8} (hl : ∀ f ∈ l, FdGood f) (hm : ∀ f ∈ m, FdGood f) (h : l.flatMap fieldLine ++ 125 :: 10 :: r = m.flatMap fieldLine ++ 125 :: 10 :: q) : l.map normF = m.map normF ∧ r = q := by
  obtain ⟨e1, e2⟩ := lines_eq (f := fieldLine) (g := normF) (V := FdGood) (b0 := 32) (fun x => ⟨_, rfl⟩) fieldLine_eq hl hm (fun t e => by injection e with e; exact absurd e (by decide)) (fun t e => by injection e with e; exact absurd e (by decide)) h
  injection e2 with _ e2
  injection e2 with _ e2
  exact ⟨e1, e2⟩
/-- Barred numbers' line is no field's, and not the end. -/
theorem res_not {l : List Fd} {t r : List UInt8} (hl : ∀ f ∈ l, FdGood f) : ¬ 32 :: 32 :: (resW ++ 32 :: t) = l.flatMap fieldLine ++ 125 :: r := by
  intro h
  cases l with
  | nil =>
    injection h with h
    exact absurd h (by decide)
  | cons f k =>
    obtain ⟨u, v, e1, e2, e3⟩ := fieldLine_word (hl f List.mem_cons_self)
    rw [List.flatMap_cons, e1] at h
    simp only [List.append_assoc, List.cons_append] at h
    injection h with _ h
    injection h with _ h
    exact e3 (name_eq word_chars.2.2.2 e2 h).1.symm
theorem msg_eq (m k : Ms) (r q : List UInt8) (hm : MsGood m) (hk : MsGood k) (h : msgText m ++ r = msgText k ++ q) : normM m = normM k ∧ r = q := by
  unfold msgText msgHead at h
  simp only [List.append_assoc, List.cons_append, List.nil_append] at h
  injection h with _ h
  injection h with _ h
  injection h with _ h
  injection h with _ h
  injection h with _ h
  injection h with _ h
  injection h with _ h
  injection h with _ h
  obtain ⟨e1, h⟩ := name_eq (name_chars hm.1) (name_chars hk.1) h
  injection h with _ h
  injection h with _ h
  have fin : m.barred = k.barred → (m.fields.map normF = k.fields.map normF ∧ r = q) → normM m = normM k ∧ r = q := by
    intro hb ⟨hf, hz⟩
    unfold normM
    rw [hf, hb, e1]
    exact ⟨rfl, hz⟩
  unfold resLine at h
  by_cases h1 : m.barred.length = 0
  · rw [if_pos h1] at h
    by_cases h2 : k.barred.length = 0
    · rw [if_pos h2] at h
      exact fin (by rw [List.eq_nil_of_length_eq_zero h1, List.eq_nil_of_length_eq_zero h2]) (fields_eq hm.2.2 hk.2.2 h)
    · rw [if_neg h2] at h
      unfold resHead at h
      simp only [List.append_assoc, List.cons_append, List.nil_append] at h
      exact absurd h.symm (res_not (t := barT k.barred ++ 59 :: 10 :: (k.fields.flatMap fieldLine ++ 125 :: 10 :: q)) hm.2.2)
  · rw [if_neg h1] at h
    by_cases h2 : k.barred.length = 0
    · rw [if_pos h2] at h
      unfold resHead at h
      simp only [List.append_assoc, List.cons_append, List.nil_append] at h
      exact absurd h (res_not (t := barT m.barred ++ 59 :: 10 :: (m.fields.flatMap fieldLine ++ 125 :: 10 :: r)) hk.2.2)
    · rw [if_neg h2] at h
      obtain ⟨a, l, ea, ea2⟩ := bar_form h1
      obtain ⟨b, l2, eb, eb2⟩ := bar_form h2
      rw [ea2, eb2] at h
      simp only [List.append_assoc, List.cons_append, List.nil_append] at h
      have h3 := List.append_cancel_left h
      obtain ⟨e2, e3⟩ := tail_eq (fun n hn => hm.2.1 n (by rw [ea]; exact List.mem_cons_of_mem _ hn)) (fun n hn => hk.2.1 n (by rw [eb]; exact List.mem_cons_of_mem _ hn)) (hm.2.1 a (by rw [ea]; exact List.mem_cons_self)) (hk.2.1 b (by rw [eb]; exact List.mem_cons_self)) h3
      injection e3 with _ e3
      exact fin (by rw [ea, eb, e2]) (fields_eq hm.2.2 hk.2.2 e3)

/-! ### Schemas -/
theorem rises_ge : ∀ {l : List Int} {c : Int}, risesB l = true → (∀ x, l.head? = some x → c ≤ x) → ∀ y ∈ l, c ≤ y
  | [], _, _, _, y, hy => by cases hy
  | [a], c, _, h, y, hy => by
    rw [List.mem_singleton.mp hy]
    exact h a rfl
  | a :: b :: r, c, hr, h, y, hy => by
    rw [risesB, Bool.and_eq_true, decide_eq_true_iff] at hr
    have ha := h a rfl
    rcases List.mem_cons.mp hy with rfl | hy
    · exact ha
    · exact rises_ge (l := b :: r) hr.2 (fun x hx => by
        have : b = x := by simpa using hx
        omega) y hy
theorem good_of {s : Sc} (h : checkT s = 0) : (∀ e ∈ s.enums, EnGood e) ∧ ∀ m ∈ s.msgs, MsGood m := by
  obtain ⟨_, h2, h3, h4, _, h6, _, _⟩ := check_parts h
  unfold scTextT at h3
  rw [Bool.or_eq_false_iff, List.any_eq_false, List.any_eq_false] at h3
  unfold noneT at h2
  rw [Bool.or_eq_false_iff, List.any_eq_false] at h2
  unfold orderT at h6
  simp only [Bool.or_eq_false_iff, List.any_eq_false] at h6
  unfold fieldsT fieldsOf at h4
  rw [firstBad_zero] at h4
  refine ⟨fun e he => ⟨?_, fun v hv => ⟨?_, ?_⟩⟩, fun m hm => ⟨?_, fun n hn => ?_, fun f hf => h4 f (List.mem_flatMap.mpr ⟨m, hm, hf⟩)⟩⟩
  · have := h3.1 e he
    unfold textE at this
    simp only [Bool.not_eq_true, Bool.or_eq_false_iff] at this
    have := this.1
    unfold badName at this
    simpa using this
  · have := h3.1 e he
    unfold textE at this
    simp only [Bool.not_eq_true, Bool.or_eq_false_iff, List.any_eq_false] at this
    have := this.2 v hv
    unfold textV badName at this
    simpa using this
  · have := h6.1.1.1 e he
    unfold orderE at this
    simp only [Bool.not_eq_true, Bool.or_eq_false_iff, Bool.not_eq_false', decide_eq_true_iff, decide_eq_false_iff_not] at this
    obtain ⟨⟨k1, k2⟩, _⟩ := this
    exact rises_ge k1 (fun x hx => by
      rw [List.headD_eq_head?_getD, hx] at k2
      have : x = 0 := k2
      omega) v.num (List.mem_map.mpr ⟨v, hv, rfl⟩)
  · have := h3.2 m hm
    unfold textM badName at this
    simpa using this
  · have := h6.1.2 m hm
    unfold orderM at this
    simp only [Bool.not_eq_true, Bool.or_eq_false_iff, Bool.not_eq_false', Bool.and_eq_false_iff, decide_eq_false_iff_not] at this
    obtain ⟨⟨_, k1⟩, k2⟩ := this
    refine rises_ge k1 (fun x hx => ?_) n hn
    rcases k2 with k2 | k2
    · have := List.length_pos_of_mem hn
      exact absurd this k2
    · rw [List.headD_eq_head?_getD, hx] at k2
      have : ¬ x < 1 := k2.1
      omega
theorem enum_byte (e : En) : ∃ t, enumText e = 101 :: t := ⟨_, rfl⟩
theorem msg_byte (m : Ms) : ∃ t, msgText m = 109 :: t := ⟨_, rfl⟩
theorem msgs_not (l : List Ms) (t : List UInt8) : l.flatMap msgText ≠ 101 :: t := by
  intro h
  cases l with
  | nil => simp at h
  | cons m k =>
    obtain ⟨u, hu⟩ := msg_byte m
    rw [List.flatMap_cons, hu] at h
    injection h with h
    exact absurd h (by decide)
/-- The type of a field that refers: by what it refers to. -/
theorem ref_kind {s : Sc} (h : checkT s = 0) {m : Ms} (hm : m ∈ s.msgs) {f : Fd} (hf : f ∈ m.fields) : (f.ty = 14 → f.ref ∈ eNames s) ∧ (f.ty = 15 → f.ref ∈ mNames s) := by
  have h8 := (check_parts h).2.2.2.2.2.2.2
  unfold refsT refsM at h8
  rw [List.any_eq_false] at h8
  have h9 := h8 m hm
  simp only [Bool.not_eq_true] at h9
  rw [List.any_eq_false] at h9
  have h10 := h9 f hf
  simp only [Bool.not_eq_true] at h10
  unfold refF at h10
  rw [Bool.or_eq_false_iff, Bool.and_eq_false_iff, Bool.and_eq_false_iff, decide_eq_false_iff_not, decide_eq_false_iff_not, decide_eq_false_iff_not, decide_eq_false_iff_not] at h10
  constructor
  · intro ht
    rcases h10.1 with e | e
    · exact absurd ht e
    · unfold enumT at e
      rw [placeT_neg, Decidable.not_not] at e
      exact e
  · intro ht
    rcases h10.2 with e | e
    · exact absurd ht e
    · unfold messageT at e
      rw [placeT_neg, Decidable.not_not] at e
      exact e
theorem names_apart {s : Sc} (h : checkT s = 0) {t : List UInt8} (h1 : t ∈ eNames s) (h2 : t ∈ mNames s) : False := by
  have h5 := (check_parts h).2.2.2.2.1
  unfold twiceT at h5
  simp only [Bool.or_eq_false_iff, Bool.not_eq_false'] at h5
  have hn := (onceB_iff _).mp h5.2
  rw [List.nodup_append] at hn
  exact hn.2.2 t h1 t h2 rfl
theorem sch_inj {a b : Sc} (ha : checkT a = 0) (hb : checkT b = 0) (h : schText a = schText b) : a = b := by
  obtain ⟨ga1, ga2⟩ := good_of ha
  obtain ⟨gb1, gb2⟩ := good_of hb
  unfold schText at h
  rw [if_pos ha, if_pos hb] at h
  obtain ⟨e1, e2⟩ := lines_eq (f := enumText) (g := id) (V := EnGood) (b0 := 101) enum_byte enum_eq ga1 gb1 (msgs_not _) (msgs_not _) h
  rw [List.map_id, List.map_id] at e1
  obtain ⟨e3, _⟩ := lines_eq (f := msgText) (g := normM) (V := MsGood) (b0 := 109) (r := []) (q := []) msg_byte msg_eq ga2 gb2 (fun t e => by cases e) (fun t e => by cases e) (by rw [List.append_nil, List.append_nil]; exact e2)
  have hnames : mNames a = mNames b := by
    have := congrArg (List.map Ms.name) e3
    rw [List.map_map, List.map_map] at this
    exact this
  have hen : eNames a = eNames b := by unfold eNames; rw [e1]
  have hml : a.msgs.length = b.msgs.length := by have := congrArg List.length e3; rwa [List.length_map, List.length_map] at this
  have hms : a.msgs = b.msgs := by
    refine lists_eq hml (fun j x y hx hy => ?_)
    have hxy : normM x = normM y := by
      have := congrArg (fun l => l[j]?) e3
      simp only [List.getElem?_map, hx, hy, Option.map_some] at this
      exact Option.some.inj this
    have hxm := List.mem_of_getElem? hx
    have hym := List.mem_of_getElem? hy
    have hfl : x.fields = y.fields := by
      have hf : x.fields.map normF = y.fields.map normF := congrArg Ms.fields hxy
      have hfn : x.fields.length = y.fields.length := by have := congrArg List.length hf; rwa [List.length_map, List.length_map] at this
      refine lists_eq hfn (fun i f g hfi hgi => ?_)
      have hfg : normF f = normF g := by
        have := congrArg (fun l => l[i]?) hf
        simp only [List.getElem?_map, hfi, hgi, Option.map_some] at this
        exact Option.some.inj this
      have rf := ref_kind ha hxm (List.mem_of_getElem? hfi)
      have rg := ref_kind hb hym (List.mem_of_getElem? hgi)
      have href : f.ref = g.ref := by have e := congrArg Fd.ref hfg; exact e
      have hty : (if f.ty = 14 then (15 : Int) else f.ty) = if g.ty = 14 then 15 else g.ty := by have e := congrArg Fd.ty hfg; exact e
      have ht : f.ty = g.ty := by
        by_cases h1 : f.ty = 14
        · by_cases h2 : g.ty = 14
          · rw [h1, h2]
          · rw [if_pos h1, if_neg h2] at hty
            have i1 := rf.1 h1
            have i2 := rg.2 hty.symm
            rw [← href, ← hnames] at i2
            exact (names_apart ha i1 i2).elim
        · by_cases h2 : g.ty = 14
          · rw [if_neg h1, if_pos h2] at hty
            have i1 := rf.2 hty
            have i2 := rg.1 h2
            rw [← href, ← hen] at i2
            exact (names_apart ha i2 i1).elim
          · rwa [if_neg h1, if_neg h2] at hty
      have k1 : f.name = g.name := by have e := congrArg Fd.name hfg; exact e
      have k2 : f.num = g.num := by have e := congrArg Fd.num hfg; exact e
      have k3 : f.rep = g.rep := by have e := congrArg Fd.rep hfg; exact e
      have k4 : f.loose = g.loose := by have e := congrArg Fd.loose hfg; exact e
      have k5 : f.one = g.one := by have e := congrArg Fd.one hfg; exact e
      obtain ⟨n1, x1, t1, r1, p1, l1, o1⟩ := f
      obtain ⟨n2, x2, t2, r2, p2, l2, o2⟩ := g
      dsimp only at k1 k2 k3 k4 k5 ht href
      rw [k1, k2, k3, k4, k5, ht, href]
    have k1 : x.name = y.name := by have e := congrArg Ms.name hxy; exact e
    have k2 : x.barred = y.barred := by have e := congrArg Ms.barred hxy; exact e
    obtain ⟨n1, f1, b1⟩ := x
    obtain ⟨n2, f2, b2⟩ := y
    dsimp only at k1 k2 hfl
    rw [k1, k2, hfl]
  obtain ⟨E1, M1⟩ := a
  obtain ⟨E2, M2⟩ := b
  dsimp only at e1 hms
  rw [e1, hms]
theorem sch_some {s : Sc} (h : checkT s = 0) : schText s ≠ [] := by
  unfold schText
  rw [if_pos h]
  have h2 := (check_parts h).2.1
  unfold noneT at h2
  rw [Bool.or_eq_false_iff, decide_eq_false_iff_not] at h2
  intro e
  rw [List.append_eq_nil_iff] at e
  cases hm : s.msgs with
  | nil => rw [hm] at h2; exact h2.1 rfl
  | cons m k =>
    rw [hm, List.flatMap_cons] at e
    obtain ⟨u, hu⟩ := msg_byte m
    rw [hu] at e
    cases e.2
end Go.Proofs.YtjogamffdbedkaaGreatDoor
