/- Several texts in one: RvB, RvD, RvH, RvJ, SpMath, SpInj, TokSch, SqPars, RzC, SqBack, SqMsg, SqSort. What each proves, and its conditions, stands at its own head. -/
import Derived.Test.YtcjjphioeneiiaaGreatDoorPkSB16
import Derived.Test.YtcjjphioeneiiaaGreatDoorPkSB25
import Derived.Test.YtcjjphioeneiiaaGreatDoorPkSB15
import Derived.Test.YtcjjphioeneiiaaGreatDoorPkSB14
import Derived.Test.YtcjjphioeneiiaaGreatDoorPkSB17
/- The document's layer 15: names, fields. Conditions: those that each theorem names. -/
namespace Go.Proofs.YtcjjphioeneiiaaGreatDoor
open Go.RowKit
set_option linter.unusedVariables false
set_option maxRecDepth 100000

set_option maxHeartbeats 4000000 in
theorem rvtext_any {S : Nat → Nat → Prop} (w : World) {A A2 : Option Addr} {n cap n2 cap2 : Nat} {s : Sc} (h : ScAt S w A n cap A2 n2 cap2 s) :
 Calls Tryz.prog 30 #[.agg #[.slice A n cap, .slice A2 n2 cap2]] w fun e w' => e = .returned (.bool (scTextT s)) ∧ Below w.heap.size w w' := by
 obtain ⟨m1, m2, m3, m4⟩ := scAt_max h
 have H := Lib.hid h
 have HBX := Lib.hid (bx_start w #[.slice A n cap, .slice A2 n2 cap2] 26)
 have HV : Hid (scTextT s = ((false || s.enums.any textE) || s.msgs.any textM)) := Lib.hid rfl
 clear h
 have r0 := obj_cell (HBX.out).b_blk 0
 have r1 := obj_cell (HBX.out).b_blk 1
 go_enter Tryz.func30, Tryz.ntmps30
 go_wp2
 clear r0 r1
 go_loopg [3, 4] n (fun gz x0 x1 wr => ∃ i : Nat, x1 = .int .i64 (i : Int) ∧ i + gz = n ∧ x0 = .bool (false || (s.enums.take i).any textE) ∧ Bx w wr (.cells #[.slice A n cap, .slice A2 n2 cap2] 26 (0, 0)))
 case atStart => exact ⟨0, rfl, by omega, by simp, HBX.out⟩
 case round =>
  obtain ⟨i, rfl, hi, rfl, hbx⟩ := hrel
  have HBX := Lib.hid hbx
  clear hbx
  have r0 := obj_cell (HBX.out).b_blk 0
  have r1 := obj_cell (HBX.out).b_blk 1
  obtain ⟨g0, hg0⟩ : ∃ g0, g0 = gk := ⟨_, rfl⟩
  subst hg0
  by_cases hlti : i < n
  ·have ti : decide ((i : Int) < (n : Int)) = true := decide_eq_true (by omega)
   obtain ⟨x, hx⟩ : ∃ x, s.enums[i]? = some x := ⟨_, List.getElem?_eq_getElem (by have := H.out.s_ne; omega)⟩
   have HXI := Lib.hid hx
   obtain ⟨ge, oe, A1, cap1, rfl, _, hc, hl⟩ := en_at H.out.s_e hx
   have q1 := hl.l_le
   have q2 := hl.l_max
   unfold maxLen at q2
   have HL := Lib.hid hl
   obtain ⟨nv, hnv⟩ : ∃ nv, nv = x.values.length := ⟨_, rfl⟩
   have HNV := Lib.hid hnv
   rw [← hnv] at hc q1
   obtain ⟨sn, hsn⟩ : ∃ sn, sn = strOf x.name := ⟨_, rfl⟩
   have HSN := Lib.hid hsn
   rw [← hsn] at hc
   have HC := Lib.hid hc
   clear hx hl hnv hsn hc
   obtain ⟨c0, c1⟩ := HC.out _ HBX.out.b_bel
   have HX := Lib.hid (any_snoc s.enums textE i x HXI.out)
   obtain ⟨r, hr⟩ : ∃ r, r = nameB x.name := ⟨_, rfl⟩
   have HR := Lib.hid (fun u => rname_any u x.name)
   rw [← hr, ← HSN.out] at HR
   have HD : Hid (textE x = (!r || x.values.any textV)) := Lib.hid (by unfold textE badName; rw [hr])
   clear hr
   obtain ⟨b0, hb0⟩ : ∃ b0, b0 = (false || (s.enums.take i).any textE || !r) := ⟨_, rfl⟩
   have HB0 := Lib.hid hb0
   clear hb0
   obtain ⟨b, hb⟩ : ∃ b, b = (false || (s.enums.take i).any textE) := ⟨_, rfl⟩
   have HBB := Lib.hid hb
   rw [← hb]
   clear hb
   cases b with
   | true =>
     go_wp2
     clear c0 c1
     clear r0 r1
     go_loopg [3, 5] nv (fun gz x0 x1 wr => ∃ k : Nat, x1 = .int .i64 (k : Int) ∧ k + gz = nv ∧ x0 = .bool (b0 || (x.values.take k).any textV) ∧ Bx w wr (.cells #[.slice (some ⟨ge, oe, none⟩) n cap, .slice A2 n2 cap2] 26 (0, 0)))
     case atStart => exact ⟨0, rfl, by omega, by rw [HB0.out, ← HBB.out]; simp, HBX.out⟩
     case round =>
      obtain ⟨k, rfl, hk, rfl, hbx⟩ := hrel
      have HBX := Lib.hid hbx
      clear hbx
      have r0 := obj_cell (HBX.out).b_blk 0
      have r1 := obj_cell (HBX.out).b_blk 1
      obtain ⟨g1, hg1⟩ : ∃ g1, g1 = gk := ⟨_, rfl⟩
      subst hg1
      by_cases hltk : k < nv
      ·have tk : decide ((k : Int) < (nv : Int)) = true := decide_eq_true (by omega)
       obtain ⟨v, hv⟩ : ∃ v, x.values[k]? = some v := ⟨_, List.getElem?_eq_getElem (by have := HNV.out; omega)⟩
       have HVI := Lib.hid hv
       obtain ⟨gv, ov, rfl, _, hcv⟩ := vl_at HL.out hv
       obtain ⟨c0, c1⟩ := HC.out _ HBX.out.b_bel
       obtain ⟨d0, d1⟩ := hcv _ HBX.out.b_bel
       obtain ⟨sv, hsv⟩ : ∃ sv, sv = strOf v.name := ⟨_, rfl⟩
       obtain ⟨rv, hrv⟩ : ∃ rv, rv = nameB v.name := ⟨_, rfl⟩
       have HRV := Lib.hid (fun u => rname_any u v.name)
       rw [← hrv, ← hsv] at HRV
       rw [← hsv] at d0
       have HDV : Hid (textV v = !rv) := Lib.hid (by unfold textV badName; rw [hrv])
       have HXV := Lib.hid (any_snoc x.values textV k v HVI.out)
       clear hv hsv hrv hcv
       obtain ⟨b, hb⟩ : ∃ b, b = (b0 || (x.values.take k).any textV) := ⟨_, rfl⟩
       have HBB := Lib.hid hb
       rw [← hb]
       clear hb
       cases b with
       | true =>
         go_wp2
         go_roundg (g1 - 1)
         case measure => omega
         case rel => exact ⟨k + 1, by go_num, by omega, by rw [HXV.out, ← Bool.or_assoc, ← HBB.out]; rfl, HBX.out⟩
       | false =>
         go_wp2_with (first
          | (go_at_call 75; refine (HRV.out _).mono ?_; rintro e w1 ⟨rfl, hb⟩; replace HBX := Lib.hid (bx_step HBX.out hb); clear hb; have r0 := obj_cell HBX.out.b_blk 0; have r1 := obj_cell HBX.out.b_blk 1))
         go_roundg (g1 - 1)
         case measure => omega
         case rel => exact ⟨k + 1, by go_num, by omega, by rw [HXV.out, ← Bool.or_assoc, ← HBB.out, HDV.out]; simp, HBX.out⟩
      ·have tk : decide ((k : Int) < (nv : Int)) = false := decide_eq_false (by omega)
       rw [any_whole x.values textV k (by have := HNV.out; omega)]
       obtain ⟨c0, c1⟩ := HC.out _ HBX.out.b_bel
       go_wp2
       go_roundg (g0 - 1)
       case measure => omega
       case rel => exact ⟨i + 1, by go_num, by omega, by rw [HX.out, HD.out, HB0.out]; simp only [Bool.or_assoc], HBX.out⟩
   | false =>
     go_wp2_with (first
      | (go_at_call 75; refine (HR.out _).mono ?_; rintro e w1 ⟨rfl, hb⟩; replace HBX := Lib.hid (bx_step HBX.out hb); clear hb; have r0 := obj_cell HBX.out.b_blk 0; have r1 := obj_cell HBX.out.b_blk 1))
     clear c0 c1
     clear r0 r1
     go_loopg [3, 5] nv (fun gz x0 x1 wr => ∃ k : Nat, x1 = .int .i64 (k : Int) ∧ k + gz = nv ∧ x0 = .bool (b0 || (x.values.take k).any textV) ∧ Bx w wr (.cells #[.slice (some ⟨ge, oe, none⟩) n cap, .slice A2 n2 cap2] 26 (0, 0)))
     case atStart => exact ⟨0, rfl, by omega, by rw [HB0.out, ← HBB.out]; simp, HBX.out⟩
     case round =>
      obtain ⟨k, rfl, hk, rfl, hbx⟩ := hrel
      have HBX := Lib.hid hbx
      clear hbx
      have r0 := obj_cell (HBX.out).b_blk 0
      have r1 := obj_cell (HBX.out).b_blk 1
      obtain ⟨g1, hg1⟩ : ∃ g1, g1 = gk := ⟨_, rfl⟩
      subst hg1
      by_cases hltk : k < nv
      ·have tk : decide ((k : Int) < (nv : Int)) = true := decide_eq_true (by omega)
       obtain ⟨v, hv⟩ : ∃ v, x.values[k]? = some v := ⟨_, List.getElem?_eq_getElem (by have := HNV.out; omega)⟩
       have HVI := Lib.hid hv
       obtain ⟨gv, ov, rfl, _, hcv⟩ := vl_at HL.out hv
       obtain ⟨c0, c1⟩ := HC.out _ HBX.out.b_bel
       obtain ⟨d0, d1⟩ := hcv _ HBX.out.b_bel
       obtain ⟨sv, hsv⟩ : ∃ sv, sv = strOf v.name := ⟨_, rfl⟩
       obtain ⟨rv, hrv⟩ : ∃ rv, rv = nameB v.name := ⟨_, rfl⟩
       have HRV := Lib.hid (fun u => rname_any u v.name)
       rw [← hrv, ← hsv] at HRV
       rw [← hsv] at d0
       have HDV : Hid (textV v = !rv) := Lib.hid (by unfold textV badName; rw [hrv])
       have HXV := Lib.hid (any_snoc x.values textV k v HVI.out)
       clear hv hsv hrv hcv
       obtain ⟨b, hb⟩ : ∃ b, b = (b0 || (x.values.take k).any textV) := ⟨_, rfl⟩
       have HBB := Lib.hid hb
       rw [← hb]
       clear hb
       cases b with
       | true =>
         go_wp2
         go_roundg (g1 - 1)
         case measure => omega
         case rel => exact ⟨k + 1, by go_num, by omega, by rw [HXV.out, ← Bool.or_assoc, ← HBB.out]; rfl, HBX.out⟩
       | false =>
         go_wp2_with (first
          | (go_at_call 75; refine (HRV.out _).mono ?_; rintro e w1 ⟨rfl, hb⟩; replace HBX := Lib.hid (bx_step HBX.out hb); clear hb; have r0 := obj_cell HBX.out.b_blk 0; have r1 := obj_cell HBX.out.b_blk 1))
         go_roundg (g1 - 1)
         case measure => omega
         case rel => exact ⟨k + 1, by go_num, by omega, by rw [HXV.out, ← Bool.or_assoc, ← HBB.out, HDV.out]; simp, HBX.out⟩
      ·have tk : decide ((k : Int) < (nv : Int)) = false := decide_eq_false (by omega)
       rw [any_whole x.values textV k (by have := HNV.out; omega)]
       obtain ⟨c0, c1⟩ := HC.out _ HBX.out.b_bel
       go_wp2
       go_roundg (g0 - 1)
       case measure => omega
       case rel => exact ⟨i + 1, by go_num, by omega, by rw [HX.out, HD.out, HB0.out]; simp only [Bool.or_assoc], HBX.out⟩
  ·have ti : decide ((i : Int) < (n : Int)) = false := decide_eq_false (by omega)
   rw [any_whole s.enums textE i (by have := H.out.s_ne; omega)]
   obtain ⟨h2, hh2⟩ : ∃ h2, h2 = (false || s.enums.any textE) := ⟨_, rfl⟩
   rw [← hh2] at HV ⊢
   clear hh2
   go_wp2
   clear r0 r1
   go_loopg [3, 6] n2 (fun gz x0 x1 wr => ∃ i : Nat, x1 = .int .i64 (i : Int) ∧ i + gz = n2 ∧ x0 = .bool (h2 || (s.msgs.take i).any textM) ∧ Bx w wr (.cells #[.slice A n cap, .slice A2 n2 cap2] 26 (0, 0)))
   case atStart => exact ⟨0, rfl, by omega, by simp, HBX.out⟩
   case round =>
    obtain ⟨i, rfl, hi, rfl, hbx⟩ := hrel
    have HBX := Lib.hid hbx
    clear hbx
    have r0 := obj_cell (HBX.out).b_blk 0
    have r1 := obj_cell (HBX.out).b_blk 1
    obtain ⟨g0, hg0⟩ : ∃ g0, g0 = gk := ⟨_, rfl⟩
    subst hg0
    by_cases hlti : i < n2
    ·have ti : decide ((i : Int) < (n2 : Int)) = true := decide_eq_true (by omega)
     obtain ⟨x, hx⟩ : ∃ x, s.msgs[i]? = some x := ⟨_, List.getElem?_eq_getElem (by have := H.out.s_nm; omega)⟩
     have HXI := Lib.hid hx
     obtain ⟨ge, oe, A1, cap1, A3, cap3, rfl, _, hc, hl, hl2⟩ := ms_at H.out.s_m hx
     have q1 := hl.l_le
     have q2 := hl.l_max
     have q3 := hl2.l_le
     have q4 := hl2.l_max
     unfold maxLen at q2 q4
     have HL := Lib.hid hl
     have HL2 := Lib.hid hl2
     obtain ⟨nf, hnf⟩ : ∃ nf, nf = x.fields.length := ⟨_, rfl⟩
     obtain ⟨nb, hnb⟩ : ∃ nb, nb = x.barred.length := ⟨_, rfl⟩
     have HNF := Lib.hid hnf
     have HNB := Lib.hid hnb
     rw [← hnf] at hc q1
     rw [← hnb] at hc q3
     obtain ⟨sn, hsn⟩ : ∃ sn, sn = strOf x.name := ⟨_, rfl⟩
     have HSN := Lib.hid hsn
     rw [← hsn] at hc
     have HC := Lib.hid hc
     clear hx hl hl2 hnf hnb hsn hc
     obtain ⟨c0, c1, c2⟩ := HC.out _ HBX.out.b_bel
     have HX := Lib.hid (any_snoc s.msgs textM i x HXI.out)
     obtain ⟨r, hr⟩ : ∃ r, r = nameB x.name := ⟨_, rfl⟩
     have HR := Lib.hid (fun u => rname_any u x.name)
     rw [← hr, ← HSN.out] at HR
     have HD : Hid (textM x = !r) := Lib.hid (by unfold textM badName; rw [hr])
     clear hr
     obtain ⟨b, hb⟩ : ∃ b, b = (h2 || (s.msgs.take i).any textM) := ⟨_, rfl⟩
     have HBB := Lib.hid hb
     rw [← hb]
     clear hb
     cases b with
     | true =>
       go_wp2
       go_roundg (g0 - 1)
       case measure => omega
       case rel => exact ⟨i + 1, by go_num, by omega, by rw [HX.out, ← Bool.or_assoc, ← HBB.out]; rfl, HBX.out⟩
     | false =>
       go_wp2_with (first
        | (go_at_call 75; refine (HR.out _).mono ?_; rintro e w1 ⟨rfl, hb⟩; replace HBX := Lib.hid (bx_step HBX.out hb); clear hb; have r0 := obj_cell HBX.out.b_blk 0; have r1 := obj_cell HBX.out.b_blk 1))
       go_roundg (g0 - 1)
       case measure => omega
       case rel => exact ⟨i + 1, by go_num, by omega, by rw [HX.out, ← Bool.or_assoc, ← HBB.out, HD.out]; simp, HBX.out⟩
    ·have ti : decide ((i : Int) < (n2 : Int)) = false := decide_eq_false (by omega)
     rw [any_whole s.msgs textM i (by have := H.out.s_nm; omega)]
     rw [← HV.out]
     go_wp2
     go_ret
     exact ⟨rfl, HBX.out.b_bel⟩
set_option maxHeartbeats 4000000 in
theorem rvfields_any {S : Nat → Nat → Prop} (w : World) {A A2 : Option Addr} {n cap n2 cap2 : Nat} {s : Sc} (h : ScAt S w A n cap A2 n2 cap2 s) :
 Calls Tryz.prog 31 #[.agg #[.slice A n cap, .slice A2 n2 cap2]] w fun e w' => e = .returned (.int .i64 (fieldsT s)) ∧ Below w.heap.size w w' := by
 obtain ⟨m1, m2, m3, m4⟩ := scAt_max h
 have H := Lib.hid h
 have HBX := Lib.hid (bx_start w #[.slice A n cap, .slice A2 n2 cap2] 26)
 clear h
 have r0 := obj_cell (HBX.out).b_blk 0
 have r1 := obj_cell (HBX.out).b_blk 1
 go_enter Tryz.func31, Tryz.ntmps31
 go_wp2
 clear r0 r1
 go_loopg [3] n2 (fun gz x0 wr => ∃ i : Nat, x0 = .int .i64 (i : Int) ∧ i + gz = n2 ∧ firstBad ((s.msgs.take i).flatMap Ms.fields) = 0 ∧ Bx w wr (.cells #[.slice A n cap, .slice A2 n2 cap2] 26 (0, 0)))
 case atStart => exact ⟨0, rfl, by omega, rfl, HBX.out⟩
 case round =>
  obtain ⟨i, rfl, hi, hfb, hbx⟩ := hrel
  have HBX := Lib.hid hbx
  clear hbx
  have r0 := obj_cell (HBX.out).b_blk 0
  have r1 := obj_cell (HBX.out).b_blk 1
  obtain ⟨g0, hg0⟩ : ∃ g0, g0 = gk := ⟨_, rfl⟩
  subst hg0
  by_cases hlti : i < n2
  ·have ti : decide ((i : Int) < (n2 : Int)) = true := decide_eq_true (by omega)
   obtain ⟨x, hx⟩ : ∃ x, s.msgs[i]? = some x := ⟨_, List.getElem?_eq_getElem (by have := H.out.s_nm; omega)⟩
   have HXI := Lib.hid hx
   obtain ⟨ge, oe, A1, cap1, A3, cap3, rfl, _, hc, hl, hl2⟩ := ms_at H.out.s_m hx
   have q1 := hl.l_le
   have q2 := hl.l_max
   have q3 := hl2.l_le
   have q4 := hl2.l_max
   unfold maxLen at q2 q4
   have HL := Lib.hid hl
   have HL2 := Lib.hid hl2
   obtain ⟨nf, hnf⟩ : ∃ nf, nf = x.fields.length := ⟨_, rfl⟩
   obtain ⟨nb, hnb⟩ : ∃ nb, nb = x.barred.length := ⟨_, rfl⟩
   have HNF := Lib.hid hnf
   have HNB := Lib.hid hnb
   rw [← hnf] at hc q1
   rw [← hnb] at hc q3
   obtain ⟨sn, hsn⟩ : ∃ sn, sn = strOf x.name := ⟨_, rfl⟩
   have HSN := Lib.hid hsn
   rw [← hsn] at hc
   have HC := Lib.hid hc
   clear hx hl hl2 hnf hnb hsn hc
   obtain ⟨c0, c1, c2⟩ := HC.out _ HBX.out.b_bel
   have HFB := Lib.hid hfb
   clear hfb
   go_wp2
   clear c0 c1 c2
   clear r0 r1
   go_loopg [4] nf (fun gz x0 wr => ∃ k : Nat, x0 = .int .i64 (k : Int) ∧ k + gz = nf ∧ firstBad ((s.msgs.take i).flatMap Ms.fields ++ x.fields.take k) = 0 ∧ Bx w wr (.cells #[.slice A n cap, .slice (some ⟨ge, oe, none⟩) n2 cap2] 26 (0, 0)))
   case atStart => exact ⟨0, rfl, by omega, by rw [List.take_zero, List.append_nil]; exact HFB.out, HBX.out⟩
   case round =>
    obtain ⟨k, rfl, hk, hfk, hbx⟩ := hrel
    have HBX := Lib.hid hbx
    clear hbx
    have r0 := obj_cell (HBX.out).b_blk 0
    have r1 := obj_cell (HBX.out).b_blk 1
    obtain ⟨g1, hg1⟩ : ∃ g1, g1 = gk := ⟨_, rfl⟩
    subst hg1
    by_cases hltk : k < nf
    ·have tk : decide ((k : Int) < (nf : Int)) = true := decide_eq_true (by omega)
     obtain ⟨f, hf⟩ : ∃ f, x.fields[k]? = some f := ⟨_, List.getElem?_eq_getElem (by have := HNF.out; omega)⟩
     have HFI := Lib.hid hf
     obtain ⟨gf, of, rfl, _, hcf⟩ := fd_at HL.out hf
     have HCF := Lib.hid hcf
     clear hf hcf
     have HFK := Lib.hid hfk
     clear hfk
     obtain ⟨c0, c1, c2⟩ := HC.out _ HBX.out.b_bel
     obtain ⟨d0, d1, d2, d3, d4, d5, d6⟩ := HCF.out _ HBX.out.b_bel
     have HK := Lib.hid (fun u => rfcheck_any f u)
     have HSP := Lib.hid (fields_split HXI.out HFI.out)
     have HTK := Lib.hid (split_take HFI.out)
     obtain ⟨C, hC⟩ : ∃ C, C = fcheckT f := ⟨_, rfl⟩
     have HCC := Lib.hid hC
     rw [← hC] at HK
     clear hC
     obtain ⟨name, num, ty, ref, rep, loose, one⟩ := f
     unfold fdV at HK
     dsimp only at HK d0 d1 d2 d3 d4 d5 d6
     obtain ⟨sn1, hsn1⟩ : ∃ z, z = strOf name := ⟨_, rfl⟩
     obtain ⟨sr1, hsr1⟩ : ∃ z, z = strOf ref := ⟨_, rfl⟩
     obtain ⟨so1, hso1⟩ : ∃ z, z = strOf one := ⟨_, rfl⟩
     rw [← hsn1, ← hsr1, ← hso1] at HK
     rw [← hsn1] at d0
     rw [← hsr1] at d3
     rw [← hso1] at d6
     clear hsn1 hsr1 hso1
     by_cases h0 : C = 0
     ·subst h0
      go_wp2_with (first
       | (go_at_call 76; refine (HK.out _).mono ?_; rintro e w1 ⟨rfl, hb⟩; replace HBX := Lib.hid (bx_step HBX.out hb); clear hb; have r0 := obj_cell HBX.out.b_blk 0; have r1 := obj_cell HBX.out.b_blk 1))
      go_roundg (g1 - 1)
      case measure => omega
      case rel => exact ⟨k + 1, by go_num, by omega, by rw [HTK.out, ← List.append_assoc]; exact firstBad_miss _ _ HFK.out HCC.out.symm, HBX.out⟩
     ·have e1 : (C == 0) = false := beq_false_of_ne h0
      have e2 : (C != 0) = true := by simp [h0]
      go_wp2_with (first
       | (go_at_call 76; refine (HK.out _).mono ?_; rintro e w1 ⟨rfl, hb⟩; replace HBX := Lib.hid (bx_step HBX.out hb); clear hb; have r0 := obj_cell HBX.out.b_blk 0; have r1 := obj_cell HBX.out.b_blk 1))
      go_ret
      exact ⟨ret_int' (by unfold fieldsT; rw [HSP.out, firstBad_hit _ _ _ HFK.out (by rw [← HCC.out]; exact h0), HCC.out]), HBX.out.b_bel⟩
    ·have tk : decide ((k : Int) < (nf : Int)) = false := decide_eq_false (by omega)
     obtain ⟨c0, c1, c2⟩ := HC.out _ HBX.out.b_bel
     have HFK := Lib.hid hfk
     clear hfk
     have HTW : Hid (x.fields.take k = x.fields) := Lib.hid (List.take_of_length_le (by have := HNF.out; omega))
     go_wp2
     go_roundg (g0 - 1)
     case measure => omega
     case rel => exact ⟨i + 1, by go_num, by omega, by rw [flat_snoc _ _ _ _ HXI.out, ← HTW.out]; exact HFK.out, HBX.out⟩
  ·have ti : decide ((i : Int) < (n2 : Int)) = false := decide_eq_false (by omega)
   have HFB : Hid (fieldsT s = 0) := Lib.hid (by unfold fieldsT fieldsOf; rw [show s.msgs.take i = s.msgs from List.take_of_length_le (by have := H.out.s_nm; omega)] at hfb; exact hfb)
   clear hfb
   go_wp2
   go_ret
   exact ⟨ret_int' HFB.out.symm, HBX.out.b_bel⟩
end Go.Proofs.YtcjjphioeneiiaaGreatDoor

/- The document's layer 15: barred numbers, names that fields refer to. Conditions: those that each theorem names. -/
namespace Go.Proofs.YtcjjphioeneiiaaGreatDoor
open Go.RowKit
set_option linter.unusedVariables false
set_option maxRecDepth 100000

set_option maxHeartbeats 4000000 in
theorem rvbarred_any {S : Nat → Nat → Prop} (w : World) {A A2 : Option Addr} {n cap n2 cap2 : Nat} {s : Sc} (h : ScAt S w A n cap A2 n2 cap2 s) :
 Calls Tryz.prog 34 #[.agg #[.slice A n cap, .slice A2 n2 cap2]] w fun e w' => e = .returned (.bool (barredT s)) ∧ Below w.heap.size w w' := by
 obtain ⟨m1, m2, m3, m4⟩ := scAt_max h
 have H := Lib.hid h
 have HBX := Lib.hid (bx_start w #[.slice A n cap, .slice A2 n2 cap2] 26)
 clear h
 have r0 := obj_cell (HBX.out).b_blk 0
 have r1 := obj_cell (HBX.out).b_blk 1
 go_enter Tryz.func34, Tryz.ntmps34
 go_wp2
 clear r0 r1
 go_loopg [3] n2 (fun gz x0 wr => ∃ i : Nat, x0 = .int .i64 (i : Int) ∧ i + gz = n2 ∧ (s.msgs.take i).any barredM = false ∧ Bx w wr (.cells #[.slice A n cap, .slice A2 n2 cap2] 26 (0, 0)))
 case atStart => exact ⟨0, rfl, by omega, rfl, HBX.out⟩
 case round =>
  obtain ⟨i, rfl, hi, hfb, hbx⟩ := hrel
  have HBX := Lib.hid hbx
  clear hbx
  have r0 := obj_cell (HBX.out).b_blk 0
  have r1 := obj_cell (HBX.out).b_blk 1
  obtain ⟨g0, hg0⟩ : ∃ g0, g0 = gk := ⟨_, rfl⟩
  subst hg0
  by_cases hlti : i < n2
  ·have ti : decide ((i : Int) < (n2 : Int)) = true := decide_eq_true (by omega)
   obtain ⟨x, hx⟩ : ∃ x, s.msgs[i]? = some x := ⟨_, List.getElem?_eq_getElem (by have := H.out.s_nm; omega)⟩
   have HXI := Lib.hid hx
   obtain ⟨ge, oe, A1, cap1, A3, cap3, rfl, _, hc, hl, hl2⟩ := ms_at H.out.s_m hx
   have q1 := hl.l_le
   have q2 := hl.l_max
   have q3 := hl2.l_le
   have q4 := hl2.l_max
   unfold maxLen at q2 q4
   have HL := Lib.hid hl
   have HL2 := Lib.hid hl2
   obtain ⟨nf, hnf⟩ : ∃ nf, nf = x.fields.length := ⟨_, rfl⟩
   obtain ⟨nb, hnb⟩ : ∃ nb, nb = x.barred.length := ⟨_, rfl⟩
   have HNF := Lib.hid hnf
   have HNB := Lib.hid hnb
   rw [← hnf] at hc q1
   rw [← hnb] at hc q3
   obtain ⟨sn, hsn⟩ : ∃ sn, sn = strOf x.name := ⟨_, rfl⟩
   have HSN := Lib.hid hsn
   rw [← hsn] at hc
   have HC := Lib.hid hc
   clear hx hl hl2 hnf hnb hsn hc
   obtain ⟨c0, c1, c2⟩ := HC.out _ HBX.out.b_bel
   have HFB := Lib.hid hfb
   clear hfb
   go_wp2
   clear c0 c1 c2
   clear r0 r1
   go_loopg [4] nf (fun gz x0 wr => ∃ k : Nat, x0 = .int .i64 (k : Int) ∧ k + gz = nf ∧ (x.fields.take k).any (fun f => isInB x.barred f.num) = false ∧ Bx w wr (.cells #[.slice A n cap, .slice (some ⟨ge, oe, none⟩) n2 cap2] 26 (0, 0)))
   case atStart => exact ⟨0, rfl, by omega, rfl, HBX.out⟩
   case round =>
    obtain ⟨k, rfl, hk, hfk, hbx⟩ := hrel
    have HBX := Lib.hid hbx
    clear hbx
    have r0 := obj_cell (HBX.out).b_blk 0
    have r1 := obj_cell (HBX.out).b_blk 1
    obtain ⟨g1, hg1⟩ : ∃ g1, g1 = gk := ⟨_, rfl⟩
    subst hg1
    by_cases hltk : k < nf
    ·have tk : decide ((k : Int) < (nf : Int)) = true := decide_eq_true (by omega)
     obtain ⟨f, hf⟩ : ∃ f, x.fields[k]? = some f := ⟨_, List.getElem?_eq_getElem (by have := HNF.out; omega)⟩
     have HFI := Lib.hid hf
     obtain ⟨gf, of, rfl, _, hcf⟩ := fd_at HL.out hf
     have HCF := Lib.hid hcf
     clear hf hcf
     have HFK := Lib.hid hfk
     clear hfk
     obtain ⟨c0, c1, c2⟩ := HC.out _ HBX.out.b_bel
     obtain ⟨d0, d1, d2, d3, d4, d5, d6⟩ := HCF.out _ HBX.out.b_bel
     have HH : Hid (∀ u, Below w.heap.size w u → Calls Tryz.prog 81 #[.slice A3 nb cap3, .int .i64 f.num] u fun e w' => e = .returned (.bool (isInB x.barred f.num)) ∧ w' = u) := Lib.hid (fun u hb => (rvhas_any u (lst_keep HL2.out inR_keep (fun _ h => h) (bel_keep hb)) HNB.out f.num).mono fun _ _ h => ⟨h.1, h.2.symm⟩)
     have HXF := Lib.hid (any_snoc x.fields (fun f => isInB x.barred f.num) k f HFI.out)
     have HO := Lib.hid (fun hp : isInB x.barred f.num = true => (any_off HXI.out (p := barredM) (any_off HFI.out (p := fun (f : Fd) => isInB x.barred f.num) hp) : barredT s = true))
     obtain ⟨r, hr⟩ : ∃ r, r = isInB x.barred f.num := ⟨_, rfl⟩
     have HR := Lib.hid hr
     rw [← hr] at HH HO
     clear hr
     cases r with
     | true =>
       have HOT : Hid (barredT s = true) := Lib.hid (HO.out rfl)
       go_wp2
       go_quiet (first | (go_at_call 81; refine Calls.quiet_of_same (HH.out _ (HBX.out.b_bel.trans ((drewN_under wr _).mono HBX.out.b_bel.size)))))
       go_wp2
       go_ret
       exact ⟨ret_bool' HOT.out.symm, (bx_drew HBX.out _).b_bel⟩
     | false =>
       go_wp2
       go_quiet (first | (go_at_call 81; refine Calls.quiet_of_same (HH.out _ (HBX.out.b_bel.trans ((drewN_under wr _).mono HBX.out.b_bel.size)))))
       go_wp2
       go_roundg (g1 - 1)
       case measure => omega
       case rel => exact ⟨k + 1, by go_num, by omega, by rw [HXF.out, HFK.out, ← HR.out]; rfl, bx_drew HBX.out _⟩
    ·have tk : decide ((k : Int) < (nf : Int)) = false := decide_eq_false (by omega)
     obtain ⟨c0, c1, c2⟩ := HC.out _ HBX.out.b_bel
     rw [any_whole x.fields _ k (by have := HNF.out; omega)] at hfk
     have HFK := Lib.hid hfk
     clear hfk
     go_wp2
     go_roundg (g0 - 1)
     case measure => omega
     case rel => exact ⟨i + 1, by go_num, by omega, by rw [any_snoc s.msgs barredM i x HXI.out, HFB.out]; exact HFK.out, HBX.out⟩
  ·have ti : decide ((i : Int) < (n2 : Int)) = false := decide_eq_false (by omega)
   rw [any_whole s.msgs _ i (by have := H.out.s_nm; omega)] at hfb
   have HFB : Hid (barredT s = false) := Lib.hid hfb
   clear hfb
   go_wp2
   go_ret
   exact ⟨ret_bool' HFB.out.symm, HBX.out.b_bel⟩
set_option maxHeartbeats 8000000 in
theorem rvrefs_any {S : Nat → Nat → Prop} (w : World) {A A2 : Option Addr} {n cap n2 cap2 : Nat} {s : Sc} (h : ScAt S w A n cap A2 n2 cap2 s) :
 Calls Tryz.prog 35 #[.agg #[.slice A n cap, .slice A2 n2 cap2]] w fun e w' => e = .returned (.bool (refsT s)) ∧ Below w.heap.size w w' := by
 obtain ⟨m1, m2, m3, m4⟩ := scAt_max h
 have H := Lib.hid h
 have HBX := Lib.hid (bx_start w #[.slice A n cap, .slice A2 n2 cap2] 26)
 clear h
 have r0 := obj_cell (HBX.out).b_blk 0
 have r1 := obj_cell (HBX.out).b_blk 1
 go_enter Tryz.func35, Tryz.ntmps35
 go_wp2
 clear r0 r1
 go_loopg [3] n2 (fun gz x0 wr => ∃ i : Nat, x0 = .int .i64 (i : Int) ∧ i + gz = n2 ∧ (s.msgs.take i).any (refsM s) = false ∧ Bx w wr (.cells #[.slice A n cap, .slice A2 n2 cap2] 26 (0, 0)))
 case atStart => exact ⟨0, rfl, by omega, rfl, HBX.out⟩
 case round =>
  obtain ⟨i, rfl, hi, hfb, hbx⟩ := hrel
  have HBX := Lib.hid hbx
  clear hbx
  have r0 := obj_cell (HBX.out).b_blk 0
  have r1 := obj_cell (HBX.out).b_blk 1
  obtain ⟨g0, hg0⟩ : ∃ g0, g0 = gk := ⟨_, rfl⟩
  subst hg0
  by_cases hlti : i < n2
  ·have ti : decide ((i : Int) < (n2 : Int)) = true := decide_eq_true (by omega)
   obtain ⟨x, hx⟩ : ∃ x, s.msgs[i]? = some x := ⟨_, List.getElem?_eq_getElem (by have := H.out.s_nm; omega)⟩
   have HXI := Lib.hid hx
   obtain ⟨ge, oe, A1, cap1, A3, cap3, rfl, _, hc, hl, hl2⟩ := ms_at H.out.s_m hx
   have q1 := hl.l_le
   have q2 := hl.l_max
   have q3 := hl2.l_le
   have q4 := hl2.l_max
   unfold maxLen at q2 q4
   have HL := Lib.hid hl
   have HL2 := Lib.hid hl2
   obtain ⟨nf, hnf⟩ : ∃ nf, nf = x.fields.length := ⟨_, rfl⟩
   obtain ⟨nb, hnb⟩ : ∃ nb, nb = x.barred.length := ⟨_, rfl⟩
   have HNF := Lib.hid hnf
   have HNB := Lib.hid hnb
   rw [← hnf] at hc q1
   rw [← hnb] at hc q3
   obtain ⟨sn, hsn⟩ : ∃ sn, sn = strOf x.name := ⟨_, rfl⟩
   have HSN := Lib.hid hsn
   rw [← hsn] at hc
   have HC := Lib.hid hc
   clear hx hl hl2 hnf hnb hsn hc
   obtain ⟨c0, c1, c2⟩ := HC.out _ HBX.out.b_bel
   have HFB := Lib.hid hfb
   clear hfb
   go_wp2
   clear c0 c1 c2
   clear r0 r1
   go_loopg [4] nf (fun gz x0 wr => ∃ k : Nat, x0 = .int .i64 (k : Int) ∧ k + gz = nf ∧ (x.fields.take k).any (refF s) = false ∧ Bx w wr (.cells #[.slice A n cap, .slice (some ⟨ge, oe, none⟩) n2 cap2] 26 (0, 0)))
   case atStart => exact ⟨0, rfl, by omega, rfl, HBX.out⟩
   case round =>
    obtain ⟨k, rfl, hk, hfk, hbx⟩ := hrel
    have HBX := Lib.hid hbx
    clear hbx
    have r0 := obj_cell (HBX.out).b_blk 0
    have r1 := obj_cell (HBX.out).b_blk 1
    obtain ⟨g1, hg1⟩ : ∃ g1, g1 = gk := ⟨_, rfl⟩
    subst hg1
    by_cases hltk : k < nf
    ·have tk : decide ((k : Int) < (nf : Int)) = true := decide_eq_true (by omega)
     obtain ⟨f, hf⟩ : ∃ f, x.fields[k]? = some f := ⟨_, List.getElem?_eq_getElem (by have := HNF.out; omega)⟩
     have HFI := Lib.hid hf
     obtain ⟨gf, of, rfl, _, hcf⟩ := fd_at HL.out hf
     have HCF := Lib.hid hcf
     clear hf hcf
     have HFK := Lib.hid hfk
     clear hfk
     obtain ⟨c0, c1, c2⟩ := HC.out _ HBX.out.b_bel
     obtain ⟨d0, d1, d2, d3, d4, d5, d6⟩ := HCF.out _ HBX.out.b_bel
     have HXF := Lib.hid (any_snoc x.fields (refF s) k f HFI.out)
     have HO := Lib.hid (fun hp : refF s f = true => (any_off HXI.out (p := refsM s) (any_off HFI.out (p := refF s) hp) : refsT s = true))
     obtain ⟨p, hp⟩ : ∃ p, p = refF s f := ⟨_, rfl⟩
     rw [← hp] at HXF HO
     have HE : Hid (∀ u, Below w.heap.size w u → Calls Tryz.prog 73 #[.agg #[.slice A n cap, .slice (some ⟨ge, oe, none⟩) n2 cap2], .string (strOf f.ref)] u fun e w' => e = .returned (.int .i64 (enumT s f.ref)) ∧ Below u.heap.size u w') := Lib.hid (fun u hb => rvenum_any u (scAt_bel H.out hb) f.ref)
     have HM : Hid (∀ u, Below w.heap.size w u → Calls Tryz.prog 82 #[.agg #[.slice A n cap, .slice (some ⟨ge, oe, none⟩) n2 cap2], .string (strOf f.ref)] u fun e w' => e = .returned (.int .i64 (messageT s f.ref)) ∧ Below u.heap.size u w') := Lib.hid (fun u hb => rvmessage_any u (scAt_bel H.out hb) f.ref)
     unfold refF at hp
     obtain ⟨ei, hei⟩ : ∃ z, z = enumT s f.ref := ⟨_, rfl⟩
     obtain ⟨mi, hmi⟩ : ∃ z, z = messageT s f.ref := ⟨_, rfl⟩
     rw [← hei] at HE hp
     rw [← hmi] at HM hp
     clear hei hmi
     obtain ⟨name, num, ty, ref, rep, loose, one⟩ := f
     dsimp only at HE HM hp d0 d1 d2 d3 d4 d5 d6
     obtain ⟨sn1, hsn1⟩ : ∃ z, z = strOf name := ⟨_, rfl⟩
     obtain ⟨sr1, hsr1⟩ : ∃ z, z = strOf ref := ⟨_, rfl⟩
     obtain ⟨so1, hso1⟩ : ∃ z, z = strOf one := ⟨_, rfl⟩
     rw [← hsr1] at HE HM
     rw [← hsn1] at d0
     rw [← hsr1] at d3
     rw [← hso1] at d6
     clear hsn1 hsr1 hso1
     have HBA : Hid (Bx w (wr.alloc (.cells #[.string sn1, .int .i64 num, .int .i64 ty, .string sr1, .bool rep, .bool loose, .string so1] 70)) (.cells #[.slice A n cap, .slice (some ⟨ge, oe, none⟩) n2 cap2] 26 (0, 0))) := Lib.hid (bx_step HBX.out ((Below.refl _ wr).alloc (Nat.le_refl _) _))
     have a0 := obj_cell HBA.out.b_blk 0
     have a1 := obj_cell HBA.out.b_blk 1
     have HFX : Hid ((wr.alloc (.cells #[.string sn1, .int .i64 num, .int .i64 ty, .string sr1, .bool rep, .bool loose, .string so1] 70)).heap[wr.heap.size]? = some (.cells #[.string sn1, .int .i64 num, .int .i64 ty, .string sr1, .bool rep, .bool loose, .string so1] 70 (0, 0))) := Lib.hid (heap_alloc_new wr _)
     have f2 := obj_cell HFX.out 2
     have f3 := obj_cell HFX.out 3
     by_cases h14 : ty = 14
     ·subst h14
      by_cases hn : ei < 0
      ·skip
       have dn : decide (ei < 0) = true := decide_eq_true hn
       replace hp : p = true := by rw [hp]; simp [*]
       go_wp2_with (first
        | (go_at_call 73; refine (HE.out _ HBA.out.b_bel).mono ?_; rintro e w1 ⟨rfl, hb⟩; replace HBA := Lib.hid (bx_step HBA.out hb); have hx := (hb.block _ (lt_of_block HFX.out)).trans HFX.out; have f2 := obj_cell hx 2; have f3 := obj_cell hx 3; clear hb hx))
       go_ret
       exact ⟨ret_bool' (HO.out hp).symm, HBA.out.b_bel⟩
      ·skip
       have dn : decide (ei < 0) = false := decide_eq_false hn
       replace hp : p = false := by rw [hp]; simp [*]
       go_wp2_with (first
        | (go_at_call 73; refine (HE.out _ HBA.out.b_bel).mono ?_; rintro e w1 ⟨rfl, hb⟩; replace HBA := Lib.hid (bx_step HBA.out hb); have hx := (hb.block _ (lt_of_block HFX.out)).trans HFX.out; have f2 := obj_cell hx 2; have f3 := obj_cell hx 3; clear hb hx))
       go_roundg (g1 - 1)
       case measure => omega
       case rel => exact ⟨k + 1, by go_num, by omega, by rw [HXF.out, HFK.out, hp]; rfl, HBA.out⟩
     ·have e14 : (ty == 14) = false := beq_false_of_ne h14
      by_cases h15 : ty = 15
      ·subst h15
       by_cases hn : mi < 0
       ·skip
        have dn : decide (mi < 0) = true := decide_eq_true hn
        replace hp : p = true := by rw [hp]; simp [*]
        go_wp2_with (first
         | (go_at_call 82; refine (HM.out _ HBA.out.b_bel).mono ?_; rintro e w1 ⟨rfl, hb⟩; replace HBA := Lib.hid (bx_step HBA.out hb); have hx := (hb.block _ (lt_of_block HFX.out)).trans HFX.out; have f2 := obj_cell hx 2; have f3 := obj_cell hx 3; clear hb hx))
        go_ret
        exact ⟨ret_bool' (HO.out hp).symm, HBA.out.b_bel⟩
       ·skip
        have dn : decide (mi < 0) = false := decide_eq_false hn
        replace hp : p = false := by rw [hp]; simp [*]
        go_wp2_with (first
         | (go_at_call 82; refine (HM.out _ HBA.out.b_bel).mono ?_; rintro e w1 ⟨rfl, hb⟩; replace HBA := Lib.hid (bx_step HBA.out hb); have hx := (hb.block _ (lt_of_block HFX.out)).trans HFX.out; have f2 := obj_cell hx 2; have f3 := obj_cell hx 3; clear hb hx))
        go_roundg (g1 - 1)
        case measure => omega
        case rel => exact ⟨k + 1, by go_num, by omega, by rw [HXF.out, HFK.out, hp]; rfl, HBA.out⟩
      ·have e15 : (ty == 15) = false := beq_false_of_ne h15
       replace hp : p = false := by rw [hp]; simp [*]
       go_wp2
       go_roundg (g1 - 1)
       case measure => omega
       case rel => exact ⟨k + 1, by go_num, by omega, by rw [HXF.out, HFK.out, hp]; rfl, HBA.out⟩
    ·have tk : decide ((k : Int) < (nf : Int)) = false := decide_eq_false (by omega)
     obtain ⟨c0, c1, c2⟩ := HC.out _ HBX.out.b_bel
     rw [any_whole x.fields _ k (by have := HNF.out; omega)] at hfk
     have HFK := Lib.hid hfk
     clear hfk
     go_wp2
     go_roundg (g0 - 1)
     case measure => omega
     case rel => exact ⟨i + 1, by go_num, by omega, by rw [any_snoc s.msgs (refsM s) i x HXI.out, HFB.out]; exact HFK.out, HBX.out⟩
  ·have ti : decide ((i : Int) < (n2 : Int)) = false := decide_eq_false (by omega)
   rw [any_whole s.msgs _ i (by have := H.out.s_nm; omega)] at hfb
   have HFB : Hid (refsT s = false) := Lib.hid hfb
   clear hfb
   go_wp2
   go_ret
   exact ⟨ret_bool' HFB.out.symm, HBX.out.b_bel⟩
end Go.Proofs.YtcjjphioeneiiaaGreatDoor

/- The document's layer 15: which schemas are the same. Conditions: those that each theorem names. -/
namespace Go.Proofs.YtcjjphioeneiiaaGreatDoor
open Go.RowKit
set_option linter.unusedVariables false
set_option maxRecDepth 100000

set_option maxHeartbeats 8000000 in
theorem rvsamemsg_any {S1 S2 T1 T2 : Nat → Prop} (w : World) {a b : Ms} {A1 A2 B1 B2 : Option Addr} {na ca ba da nb cb bb db : Nat} (hAf : Lst 7 S1 fdR w A1 ca a.fields) (hAb : Lst 1 S2 inR w A2 da a.barred) (hBf : Lst 7 T1 fdR w B1 cb b.fields) (hBb : Lst 1 T2 inR w B2 db b.barred)
 (hna : na = a.fields.length) (hba : ba = a.barred.length) (hnb : nb = b.fields.length) (hbb : bb = b.barred.length) (sa sb : ByteArray) (hsa : sa = strOf a.name) (hsb : sb = strOf b.name) :
 Calls Tryz.prog 27 #[.agg #[.string sa, .slice A1 na ca, .slice A2 ba da], .agg #[.string sb, .slice B1 nb cb, .slice B2 bb db]] w fun e w' => e = .returned (.bool (decide (a = b))) ∧ Below w.heap.size w w' := by
 have q1 := hAf.l_le
 have q2 := hAf.l_max
 have q3 := hAb.l_le
 have q4 := hAb.l_max
 have q5 := hBf.l_le
 have q6 := hBf.l_max
 have q7 := hBb.l_le
 have q8 := hBb.l_max
 unfold maxLen at q2 q4 q6 q8
 rw [← hna] at q1
 rw [← hba] at q3
 rw [← hnb] at q5
 rw [← hbb] at q7
 have HAF := Lib.hid hAf
 have HBF := Lib.hid hBf
 have HNA := Lib.hid hna
 have HNBX := Lib.hid hnb
 have HI : Hid (∀ u, Below w.heap.size w u → Calls Tryz.prog 74 #[.slice A2 ba da, .slice B2 bb db] u fun e w' => e = .returned (.bool (decide (a.barred = b.barred))) ∧ Below u.heap.size u w') :=
  Lib.hid (fun u hb => (vints_any u (lst_keep hAb inR_keep (fun _ h => h) (bel_keep hb)) (lst_keep hBb inR_keep (fun _ h => h) (bel_keep hb)) hba hbb).mono fun e w' h => ⟨h.1, by obtain ⟨k, rfl⟩ := h.2; exact drewN_under u k⟩)
 have HBX := Lib.hid (bx2_start w #[.string sa, .slice A1 na ca, .slice A2 ba da] #[.string sb, .slice B1 nb cb, .slice B2 bb db] 43 43)
 have HEQ : Hid (a = b ↔ a.name = b.name ∧ a.barred = b.barred ∧ a.fields = b.fields) := Lib.hid ⟨fun e => by rw [e]; exact ⟨rfl, rfl, rfl⟩, fun ⟨e1, e2, e3⟩ => by cases a; cases b; dsimp only at e1 e2 e3; rw [e1, e2, e3]⟩
 have hs1 : (sa.toList == sb.toList) = decide (a.name = b.name) := by rw [hsa, hsb, strOf_beq]
 have hs2 : sa.toList = sb.toList ↔ a.name = b.name := by rw [hsa, hsb, str_list, str_list]
 have r0 := obj_cell (HBX.out).b2_one 0
 have s0 := obj_cell (HBX.out).b2_two 0
 have r1 := obj_cell (HBX.out).b2_one 1
 have s1 := obj_cell (HBX.out).b2_two 1
 have r2 := obj_cell (HBX.out).b2_one 2
 have s2 := obj_cell (HBX.out).b2_two 2
 by_cases hn : a.name = b.name
 ·have t1 : (sa.toList == sb.toList) = true := by rw [hs1]; exact decide_eq_true hn
  have t2 : sa.toList = sb.toList := hs2.2 hn
  clear hs1 hs2
  by_cases hb : a.barred = b.barred
  ·rw [decide_eq_true hb] at HI
   by_cases hl : na = nb
   ·subst hl
    have HNM := Lib.hid hn
    have HBA := Lib.hid hb
    clear hAf hAb hBf hBb hna hba hnb hbb hsa hsb hn hb
    go_enter Tryz.func27, Tryz.ntmps27
    go_wp2_with (first
     | (go_at_call 74; refine (HI.out _ HBX.out.b2_bel).mono ?_; rintro e w1 ⟨rfl, hb⟩; replace HBX := Lib.hid (bx2_step HBX.out hb); clear hb; have r0 := obj_cell HBX.out.b2_one 0; have s0 := obj_cell HBX.out.b2_two 0; have r1 := obj_cell HBX.out.b2_one 1; have s1 := obj_cell HBX.out.b2_two 1; have r2 := obj_cell HBX.out.b2_one 2; have s2 := obj_cell HBX.out.b2_two 2))
    go_loopg [5] na (fun gz x0 wr => ∃ i : Nat, x0 = .int .i64 (i : Int) ∧ i + gz = na ∧ (∀ (j : Nat) x y, j < i → a.fields[j]? = some x → b.fields[j]? = some y → x = y) ∧ Bx2 w wr (.cells #[.string sa, .slice A1 na ca, .slice A2 ba da] 43 (0, 0)) (.cells #[.string sb, .slice B1 na cb, .slice B2 bb db] 43 (0, 0)))
    case atStart => exact ⟨0, rfl, by omega, fun j x y hj => absurd hj (Nat.not_lt_zero _), HBX.out⟩
    case round =>
     obtain ⟨i, rfl, hi, hall, hbx⟩ := hrel
     have HALL := Lib.hid hall
     have HBX := Lib.hid hbx
     clear hall hbx
     have r0 := obj_cell (HBX.out).b2_one 0
     have s0 := obj_cell (HBX.out).b2_two 0
     have r1 := obj_cell (HBX.out).b2_one 1
     have s1 := obj_cell (HBX.out).b2_two 1
     have r2 := obj_cell (HBX.out).b2_one 2
     have s2 := obj_cell (HBX.out).b2_two 2
     obtain ⟨g0, hg0⟩ : ∃ g0, g0 = gk := ⟨_, rfl⟩
     subst hg0
     by_cases hlti : i < na
     ·have ti : decide ((i : Int) < (na : Int)) = true := decide_eq_true (by omega)
      obtain ⟨x, hx⟩ : ∃ x, a.fields[i]? = some x := ⟨_, List.getElem?_eq_getElem (by have := HNA.out; omega)⟩
      obtain ⟨y, hy⟩ : ∃ y, b.fields[i]? = some y := ⟨_, List.getElem?_eq_getElem (by have := HNBX.out; omega)⟩
      have HXI := Lib.hid hx
      have HYI := Lib.hid hy
      obtain ⟨gf, of, rfl, _, hcf⟩ := fd_at HAF.out hx
      obtain ⟨gg, og, rfl, _, hcg⟩ := fd_at HBF.out hy
      obtain ⟨d0, d1, d2, d3, d4, d5, d6⟩ := hcf _ HBX.out.b2_bel
      obtain ⟨e0, e1, e2, e3, e4, e5, e6⟩ := hcg _ HBX.out.b2_bel
      have hq := run_neq_fd x y
      obtain ⟨r, hr⟩ : ∃ r, r = decide (x = y) := ⟨_, rfl⟩
      have HR := Lib.hid hr
      rw [← hr] at hq
      clear hx hy hcf hcg hr
      obtain ⟨name1, num1, ty1, ref1, rep1, loose1, one1⟩ := x
      dsimp only at hq d0 d1 d2 d3 d4 d5 d6
      obtain ⟨sn1, hsn1⟩ : ∃ z, z = strOf name1 := ⟨_, rfl⟩
      rw [← hsn1] at hq d0
      obtain ⟨sr1, hsr1⟩ : ∃ z, z = strOf ref1 := ⟨_, rfl⟩
      rw [← hsr1] at hq d3
      obtain ⟨so1, hso1⟩ : ∃ z, z = strOf one1 := ⟨_, rfl⟩
      rw [← hso1] at hq d6
      clear hsn1 hsr1 hso1
      obtain ⟨name2, num2, ty2, ref2, rep2, loose2, one2⟩ := y
      dsimp only at hq e0 e1 e2 e3 e4 e5 e6
      obtain ⟨sn2, hsn2⟩ : ∃ z, z = strOf name2 := ⟨_, rfl⟩
      rw [← hsn2] at hq e0
      obtain ⟨sr2, hsr2⟩ : ∃ z, z = strOf ref2 := ⟨_, rfl⟩
      rw [← hsr2] at hq e3
      obtain ⟨so2, hso2⟩ : ∃ z, z = strOf one2 := ⟨_, rfl⟩
      rw [← hso2] at hq e6
      clear hsn2 hsr2 hso2
      cases r with
      | true =>
        go_wp2
        go_quiet (fail)
        go_wp2
        go_roundg (g0 - 1)
        case measure => omega
        case rel => exact ⟨i + 1, by go_num, by omega, (fun j x y hj hx hy => by
         by_cases hji : j < i
         ·exact HALL.out j x y hji hx hy
         ·have : j = i := by omega
          subst this
          have e1 := HXI.out.symm.trans hx
          have e2 := HYI.out.symm.trans hy
          injection e1 with e1
          injection e2 with e2
          rw [← e1, ← e2]
          exact of_decide_eq_true HR.out.symm), bx2_step HBX.out (drewN_under wr _)⟩
      | false =>
        have HO : Hid (decide (a = b) = false) := Lib.hid (decide_eq_false (fun e => lists_ne HXI.out HYI.out (of_decide_eq_false HR.out.symm) (HEQ.out.1 e).2.2))
        go_wp2
        go_quiet (fail)
        go_wp2
        go_ret
        exact ⟨ret_bool' HO.out.symm, (bx2_step HBX.out (drewN_under wr _)).b2_bel⟩
     ·have ti : decide ((i : Int) < (na : Int)) = false := decide_eq_false (by omega)
      have HO : Hid (decide (a = b) = true) := Lib.hid (decide_eq_true (HEQ.out.2 ⟨HNM.out, HBA.out, lists_eq (by have := HNA.out; have := HNBX.out; omega) (fun j x y hx hy => HALL.out j x y (by have := (List.getElem?_eq_some_iff.mp hx).1; have := HNA.out; omega) hx hy)⟩))
      go_wp2
      go_ret
      exact ⟨ret_bool' HO.out.symm, HBX.out.b2_bel⟩
   ·have t3 : ((na : Int) == (nb : Int)) = false := beq_false_of_ne (by omega)
    have t4 : ((na : Int) != (nb : Int)) = true := by simp; omega
    have t5 : ¬ na = nb := hl
    have HO : Hid (decide (a = b) = false) := Lib.hid (decide_eq_false (fun e => hl (by have := (HEQ.out.1 e).2.2; rw [hna, hnb, this])))
    clear hAf hAb hBf hBb hna hba hnb hbb hsa hsb
    go_enter Tryz.func27, Tryz.ntmps27
    go_wp2_with (first
     | (go_at_call 74; refine (HI.out _ HBX.out.b2_bel).mono ?_; rintro e w1 ⟨rfl, hb⟩; replace HBX := Lib.hid (bx2_step HBX.out hb); clear hb; have r0 := obj_cell HBX.out.b2_one 0; have s0 := obj_cell HBX.out.b2_two 0; have r1 := obj_cell HBX.out.b2_one 1; have s1 := obj_cell HBX.out.b2_two 1; have r2 := obj_cell HBX.out.b2_one 2; have s2 := obj_cell HBX.out.b2_two 2))
    go_ret
    exact ⟨ret_bool' HO.out.symm, HBX.out.b2_bel⟩
  ·rw [decide_eq_false hb] at HI
   have HO : Hid (decide (a = b) = false) := Lib.hid (decide_eq_false (fun e => hb (HEQ.out.1 e).2.1))
   clear hAf hAb hBf hBb hna hba hnb hbb hsa hsb
   go_enter Tryz.func27, Tryz.ntmps27
   go_wp2_with (first
    | (go_at_call 74; refine (HI.out _ HBX.out.b2_bel).mono ?_; rintro e w1 ⟨rfl, hb⟩; replace HBX := Lib.hid (bx2_step HBX.out hb); clear hb; have r0 := obj_cell HBX.out.b2_one 0; have s0 := obj_cell HBX.out.b2_two 0; have r1 := obj_cell HBX.out.b2_one 1; have s1 := obj_cell HBX.out.b2_two 1; have r2 := obj_cell HBX.out.b2_one 2; have s2 := obj_cell HBX.out.b2_two 2))
   go_ret
   exact ⟨ret_bool' HO.out.symm, HBX.out.b2_bel⟩
 ·have t1 : (sa.toList == sb.toList) = false := by rw [hs1]; exact decide_eq_false hn
  have t2 : ¬ sa.toList = sb.toList := fun e => hn (hs2.1 e)
  clear hs1 hs2
  have HO : Hid (decide (a = b) = false) := Lib.hid (decide_eq_false (fun e => hn (HEQ.out.1 e).1))
  clear hAf hAb hBf hBb hna hba hnb hbb hsa hsb
  go_enter Tryz.func27, Tryz.ntmps27
  go_wp2
  go_ret
  exact ⟨ret_bool' HO.out.symm, HBX.out.b2_bel⟩

set_option maxHeartbeats 16000000 in
theorem rvsame_any {S T : Nat → Nat → Prop} (w : World) {A A2 B B2 : Option Addr} {n cap n2 cap2 m cb m2 cb2 : Nat} {s t : Sc} (h : ScAt S w A n cap A2 n2 cap2 s) (k : ScAt T w B m cb B2 m2 cb2 t) :
 Calls Tryz.prog 9 #[.agg #[.slice A n cap, .slice A2 n2 cap2], .agg #[.slice B m cb, .slice B2 m2 cb2]] w fun e w' => e = .returned (.bool (decide (s = t))) ∧ Below w.heap.size w w' := by
 obtain ⟨m1, m3, m4, m5⟩ := scAt_max h
 obtain ⟨k1, k3, k4, k5⟩ := scAt_max k
 have H := Lib.hid h
 have K := Lib.hid k
 have HEQ : Hid (s = t ↔ s.enums = t.enums ∧ s.msgs = t.msgs) := Lib.hid ⟨fun e => by rw [e]; exact ⟨rfl, rfl⟩, fun ⟨e1, e2⟩ => by cases s; cases t; dsimp only at e1 e2; rw [e1, e2]⟩
 have HBX := Lib.hid (bx2_start w #[.slice A n cap, .slice A2 n2 cap2] #[.slice B m cb, .slice B2 m2 cb2] 26 26)
 clear h k
 have r0 := obj_cell (HBX.out).b2_one 0
 have s0 := obj_cell (HBX.out).b2_two 0
 have r1 := obj_cell (HBX.out).b2_one 1
 have s1 := obj_cell (HBX.out).b2_two 1
 by_cases hn : n = m
 ·subst hn
  by_cases hn2 : n2 = m2
  ·subst hn2
   go_enter Tryz.func9, Tryz.ntmps9
   go_wp2
   clear r0 r1 s0 s1
   go_loopg [5] n (fun gz x0 wr => ∃ i : Nat, x0 = .int .i64 (i : Int) ∧ i + gz = n ∧ (∀ (j : Nat) a b, j < i → s.enums[j]? = some a → t.enums[j]? = some b → a = b) ∧ Bx2 w wr (.cells #[.slice A n cap, .slice A2 n2 cap2] 26 (0, 0)) (.cells #[.slice B n cb, .slice B2 n2 cb2] 26 (0, 0)))
   case atStart => exact ⟨0, rfl, by omega, fun j a b hj => absurd hj (Nat.not_lt_zero _), HBX.out⟩
   case round =>
    obtain ⟨i, rfl, hi, hall, hbx⟩ := hrel
    have HALL := Lib.hid hall
    have HBX := Lib.hid hbx
    clear hall hbx
    have r0 := obj_cell (HBX.out).b2_one 0
    have s0 := obj_cell (HBX.out).b2_two 0
    have r1 := obj_cell (HBX.out).b2_one 1
    have s1 := obj_cell (HBX.out).b2_two 1
    obtain ⟨g0, hg0⟩ : ∃ g0, g0 = gk := ⟨_, rfl⟩
    subst hg0
    by_cases hlti : i < n
    ·have ti : decide ((i : Int) < (n : Int)) = true := decide_eq_true (by omega)
     obtain ⟨x, hx⟩ : ∃ x, s.enums[i]? = some x := ⟨_, List.getElem?_eq_getElem (by have := H.out.s_ne; omega)⟩
     obtain ⟨y, hy⟩ : ∃ y, t.enums[i]? = some y := ⟨_, List.getElem?_eq_getElem (by have := K.out.s_ne; omega)⟩
     have HXI := Lib.hid hx
     have HYI := Lib.hid hy
     obtain ⟨ge, oe, A1, cap1, rfl, _, hc, hl⟩ := en_at H.out.s_e hx
     obtain ⟨gb, ob, B1, cb1, rfl, _, hd, hm⟩ := en_at K.out.s_e hy
     have q1 := hl.l_le
     have q2 := hl.l_max
     have q3 := hm.l_le
     have q4 := hm.l_max
     unfold maxLen at q2 q4
     have HL := Lib.hid hl
     have HM := Lib.hid hm
     obtain ⟨nv, hnv⟩ : ∃ z, z = x.values.length := ⟨_, rfl⟩
     have HNV := Lib.hid hnv
     rw [← hnv] at hc q1
     obtain ⟨nw, hnw⟩ : ∃ z, z = y.values.length := ⟨_, rfl⟩
     have HNW := Lib.hid hnw
     rw [← hnw] at hd q3
     obtain ⟨sn, hsn⟩ : ∃ z, z = strOf x.name := ⟨_, rfl⟩
     rw [← hsn] at hc
     obtain ⟨sm, hsm⟩ : ∃ z, z = strOf y.name := ⟨_, rfl⟩
     rw [← hsm] at hd
     have HC := Lib.hid hc
     have HD := Lib.hid hd
     obtain ⟨c0, c1⟩ := hc _ HBX.out.b2_bel
     obtain ⟨e0, e1⟩ := hd _ HBX.out.b2_bel
     have hs1 : (sn.toList == sm.toList) = decide (x.name = y.name) := by rw [hsn, hsm, strOf_beq]
     have hs2 : sn.toList = sm.toList ↔ x.name = y.name := by rw [hsn, hsm, str_list, str_list]
     clear hx hy hc hd hl hm hnv hnw hsn hsm
     by_cases hnm : x.name = y.name
     ·have t1 : (sn.toList == sm.toList) = true := by rw [hs1]; exact decide_eq_true hnm
      have t2 : sn.toList = sm.toList := hs2.2 hnm
      have HNM := Lib.hid hnm
      clear hs1 hs2 hnm
      by_cases hv : nv = nw
      ·subst hv
       have t3 : ((nv : Int) == (nv : Int)) = true := beq_self_eq_true _
       have t4 : ((nv : Int) != (nv : Int)) = false := by simp
       go_wp2
       go_quiet (fail)
       go_wp2
       have HBX2 := Lib.hid (bx2_step HBX.out (drewN_under wr nq))
       clear c0 c1 e0 e1 r0 r1 s0 s1
       go_loopg [6] nv (fun gz x0 wr => ∃ k : Nat, x0 = .int .i64 (k : Int) ∧ k + gz = nv ∧ (∀ (j : Nat) a b, j < k → x.values[j]? = some a → y.values[j]? = some b → a = b) ∧ Bx2 w wr (.cells #[.slice (some ⟨ge, oe, none⟩) n cap, .slice A2 n2 cap2] 26 (0, 0)) (.cells #[.slice (some ⟨gb, ob, none⟩) n cb, .slice B2 n2 cb2] 26 (0, 0)))
       case atStart => exact ⟨0, rfl, by omega, fun j a b hj => absurd hj (Nat.not_lt_zero _), HBX2.out⟩
       case round =>
        obtain ⟨k, rfl, hk, halk, hbx⟩ := hrel
        have HALK := Lib.hid halk
        have HBX := Lib.hid hbx
        clear halk hbx
        have r0 := obj_cell (HBX.out).b2_one 0
        have s0 := obj_cell (HBX.out).b2_two 0
        have r1 := obj_cell (HBX.out).b2_one 1
        have s1 := obj_cell (HBX.out).b2_two 1
        obtain ⟨c0, c1⟩ := HC.out _ HBX.out.b2_bel
        obtain ⟨e0, e1⟩ := HD.out _ HBX.out.b2_bel
        obtain ⟨g1, hg1⟩ : ∃ g1, g1 = gk := ⟨_, rfl⟩
        subst hg1
        by_cases hltk : k < nv
        ·have tk : decide ((k : Int) < (nv : Int)) = true := decide_eq_true (by omega)
         obtain ⟨v, hv⟩ : ∃ v, x.values[k]? = some v := ⟨_, List.getElem?_eq_getElem (by have := HNV.out; omega)⟩
         obtain ⟨u, hu⟩ : ∃ u, y.values[k]? = some u := ⟨_, List.getElem?_eq_getElem (by have := HNW.out; omega)⟩
         have HVI := Lib.hid hv
         have HUI := Lib.hid hu
         obtain ⟨gv, ov, rfl, _, hcv⟩ := vl_at HL.out hv
         obtain ⟨gu, ou, rfl, _, hcu⟩ := vl_at HM.out hu
         obtain ⟨d0, d1⟩ := hcv _ HBX.out.b2_bel
         obtain ⟨f0, f1⟩ := hcu _ HBX.out.b2_bel
         have hq := run_neq_vl v u
         obtain ⟨r, hr⟩ : ∃ r, r = decide (v = u) := ⟨_, rfl⟩
         have HR := Lib.hid hr
         rw [← hr] at hq
         clear hv hu hcv hcu hr
         obtain ⟨name1, num1⟩ := v
         dsimp only at hq d0 d1
         obtain ⟨sv1, hsv1⟩ : ∃ z, z = strOf name1 := ⟨_, rfl⟩
         rw [← hsv1] at hq d0
         clear hsv1
         obtain ⟨name2, num2⟩ := u
         dsimp only at hq f0 f1
         obtain ⟨sv2, hsv2⟩ : ∃ z, z = strOf name2 := ⟨_, rfl⟩
         rw [← hsv2] at hq f0
         clear hsv2
         cases r with
         | true =>
           go_wp2
           go_quiet (fail)
           go_wp2
           go_roundg (g1 - 1)
           case measure => omega
           case rel => exact ⟨k + 1, by go_num, by omega, (fun j a b hj ha hb => by
            by_cases hjk : j < k
            ·exact HALK.out j a b hjk ha hb
            ·have : j = k := by omega
             subst this
             have e1 := HVI.out.symm.trans ha
             have e2 := HUI.out.symm.trans hb
             injection e1 with e1
             injection e2 with e2
             rw [← e1, ← e2]
             exact of_decide_eq_true HR.out.symm), bx2_step HBX.out (drewN_under wr _)⟩
         | false =>
           have HO : Hid (decide (s = t) = false) := Lib.hid (decide_eq_false (fun e => lists_ne HXI.out HYI.out (fun e2 => lists_ne HVI.out HUI.out (of_decide_eq_false HR.out.symm) (congrArg En.values e2)) (HEQ.out.1 e).1))
           go_wp2
           go_quiet (fail)
           go_wp2
           go_ret
           exact ⟨ret_bool' HO.out.symm, (bx2_step HBX.out (drewN_under wr _)).b2_bel⟩
        ·have tk : decide ((k : Int) < (nv : Int)) = false := decide_eq_false (by omega)
         have HXY : Hid (x = y) := Lib.hid (by have hv := lists_eq (by have := HNV.out; have := HNW.out; omega) (fun j a b ha hb => HALK.out j a b (by have := (List.getElem?_eq_some_iff.mp ha).1; have := HNV.out; omega) ha hb); have hn := HNM.out; cases x; cases y; dsimp only at hv hn; rw [hv, hn])
         go_wp2
         go_roundg (g0 - 1)
         case measure => omega
         case rel => exact ⟨i + 1, by go_num, by omega, (fun j a b hj ha hb => by
          by_cases hji : j < i
          ·exact HALL.out j a b hji ha hb
          ·have : j = i := by omega
           subst this
           have e1 := HXI.out.symm.trans ha
           have e2 := HYI.out.symm.trans hb
           injection e1 with e1
           injection e2 with e2
           rw [← e1, ← e2]
           exact HXY.out), HBX.out⟩
      ·have t3 : ((nv : Int) == (nw : Int)) = false := beq_false_of_ne (by omega)
       have t4 : ((nv : Int) != (nw : Int)) = true := by simp; omega
       have t5 : ¬ nv = nw := hv
       have HO : Hid (decide (s = t) = false) := Lib.hid (decide_eq_false (fun e => lists_ne HXI.out HYI.out (fun e2 => hv (by rw [HNV.out, HNW.out, e2])) (HEQ.out.1 e).1))
       go_wp2
       go_quiet (fail)
       go_wp2
       go_ret
       exact ⟨ret_bool' HO.out.symm, (bx2_step HBX.out (drewN_under wr _)).b2_bel⟩
     ·have t1 : (sn.toList == sm.toList) = false := by rw [hs1]; exact decide_eq_false hnm
      have t2 : ¬ sn.toList = sm.toList := fun e => hnm (hs2.1 e)
      have HO : Hid (decide (s = t) = false) := Lib.hid (decide_eq_false (fun e => lists_ne HXI.out HYI.out (fun e2 => hnm (by rw [e2])) (HEQ.out.1 e).1))
      clear hs1 hs2
      go_wp2
      go_quiet (fail)
      go_wp2
      go_ret
      exact ⟨ret_bool' HO.out.symm, (bx2_step HBX.out (drewN_under wr _)).b2_bel⟩
    ·have ti : decide ((i : Int) < (n : Int)) = false := decide_eq_false (by omega)
     have HEE : Hid (s.enums = t.enums) := Lib.hid (lists_eq (by have := H.out.s_ne; have := K.out.s_ne; omega) (fun j a b ha hb => HALL.out j a b (by have := (List.getElem?_eq_some_iff.mp ha).1; have := H.out.s_ne; omega) ha hb))
     go_wp2
     go_loopg [7] n2 (fun gz x0 wr => ∃ i : Nat, x0 = .int .i64 (i : Int) ∧ i + gz = n2 ∧ (∀ (j : Nat) a b, j < i → s.msgs[j]? = some a → t.msgs[j]? = some b → a = b) ∧ Bx2 w wr (.cells #[.slice A n cap, .slice A2 n2 cap2] 26 (0, 0)) (.cells #[.slice B n cb, .slice B2 n2 cb2] 26 (0, 0)))
     case atStart => exact ⟨0, rfl, by omega, fun j a b hj => absurd hj (Nat.not_lt_zero _), HBX.out⟩
     case round =>
      obtain ⟨i, rfl, hi, hall, hbx⟩ := hrel
      have HALL := Lib.hid hall
      have HBX := Lib.hid hbx
      clear hall hbx
      have r0 := obj_cell (HBX.out).b2_one 0
      have s0 := obj_cell (HBX.out).b2_two 0
      have r1 := obj_cell (HBX.out).b2_one 1
      have s1 := obj_cell (HBX.out).b2_two 1
      obtain ⟨g0, hg0⟩ : ∃ g0, g0 = gk := ⟨_, rfl⟩
      subst hg0
      by_cases hlti : i < n2
      ·have ti : decide ((i : Int) < (n2 : Int)) = true := decide_eq_true (by omega)
       obtain ⟨x, hx⟩ : ∃ x, s.msgs[i]? = some x := ⟨_, List.getElem?_eq_getElem (by have := H.out.s_nm; omega)⟩
       obtain ⟨y, hy⟩ : ∃ y, t.msgs[i]? = some y := ⟨_, List.getElem?_eq_getElem (by have := K.out.s_nm; omega)⟩
       have HXI := Lib.hid hx
       have HYI := Lib.hid hy
       obtain ⟨ge, oe, X1, xc1, X3, xc3, rfl, _, hc, hl, hl2⟩ := ms_at H.out.s_m hx
       obtain ⟨gb, ob, Y1, yc1, Y3, yc3, rfl, _, hd, hm, hm2⟩ := ms_at K.out.s_m hy
       obtain ⟨nf, hnf⟩ : ∃ z, z = x.fields.length := ⟨_, rfl⟩
       rw [← hnf] at hc
       obtain ⟨nb, hnb⟩ : ∃ z, z = x.barred.length := ⟨_, rfl⟩
       rw [← hnb] at hc
       obtain ⟨mf, hmf⟩ : ∃ z, z = y.fields.length := ⟨_, rfl⟩
       rw [← hmf] at hd
       obtain ⟨mb, hmb⟩ : ∃ z, z = y.barred.length := ⟨_, rfl⟩
       rw [← hmb] at hd
       obtain ⟨sn, hsn⟩ : ∃ z, z = strOf x.name := ⟨_, rfl⟩
       rw [← hsn] at hc
       obtain ⟨sm, hsm⟩ : ∃ z, z = strOf y.name := ⟨_, rfl⟩
       rw [← hsm] at hd
       have HSM := Lib.hid (fun u (hb : Below w.heap.size w u) => rvsamemsg_any u (lst_keep hl fdR_keep (fun _ h => h) (bel_keep hb)) (lst_keep hl2 inR_keep (fun _ h => h) (bel_keep hb)) (lst_keep hm fdR_keep (fun _ h => h) (bel_keep hb)) (lst_keep hm2 inR_keep (fun _ h => h) (bel_keep hb)) hnf hnb hmf hmb sn sm hsn hsm)
       obtain ⟨r, hr⟩ : ∃ r, r = decide (x = y) := ⟨_, rfl⟩
       have HR := Lib.hid hr
       rw [← hr] at HSM
       have HSK : Hid (∀ w', Bx2 w w' (.cells #[.slice A n cap, .slice (some ⟨ge, oe, none⟩) n2 cap2] 26 (0, 0)) (.cells #[.slice B n cb, .slice (some ⟨gb, ob, none⟩) n2 cb2] 26 (0, 0)) → w'.cell? ⟨w.heap.size, 1, none⟩ = some (.slice (some ⟨ge, oe, none⟩) n2 cap2) ∧ w'.cell? ⟨w.heap.size + 1, 1, none⟩ = some (.slice (some ⟨gb, ob, none⟩) n2 cb2) ∧ w'.cell? ⟨ge, oe + i * 3, none⟩ = some (.string sn) ∧ w'.cell? ⟨ge, oe + i * 3 + 1, none⟩ = some (.slice X1 nf xc1) ∧ w'.cell? ⟨ge, oe + i * 3 + 2, none⟩ = some (.slice X3 nb xc3) ∧ w'.cell? ⟨gb, ob + i * 3, none⟩ = some (.string sm) ∧ w'.cell? ⟨gb, ob + i * 3 + 1, none⟩ = some (.slice Y1 mf yc1) ∧ w'.cell? ⟨gb, ob + i * 3 + 2, none⟩ = some (.slice Y3 mb yc3)) := Lib.hid (fun w' hb => ⟨obj_cell hb.b2_one 1, obj_cell hb.b2_two 1, (hc _ hb.b2_bel).1, (hc _ hb.b2_bel).2.1, (hc _ hb.b2_bel).2.2, (hd _ hb.b2_bel).1, (hd _ hb.b2_bel).2.1, (hd _ hb.b2_bel).2.2⟩)
       clear hx hy hc hd hl hl2 hm hm2 hnf hnb hmf hmb hsn hsm hr
       replace HBX := Lib.hid (bx2_step HBX.out (drewN_under wr 1))
       cases r with
       | true =>
         go_wp2
         go_region_held3 (fun w' => w'.cell? ⟨w.heap.size, 1, none⟩ = some (.slice (some ⟨ge, oe, none⟩) n2 cap2) ∧ w'.cell? ⟨w.heap.size + 1, 1, none⟩ = some (.slice (some ⟨gb, ob, none⟩) n2 cb2) ∧ w'.cell? ⟨ge, oe + i * 3, none⟩ = some (.string sn) ∧ w'.cell? ⟨ge, oe + i * 3 + 1, none⟩ = some (.slice X1 nf xc1) ∧ w'.cell? ⟨ge, oe + i * 3 + 2, none⟩ = some (.slice X3 nb xc3) ∧ w'.cell? ⟨gb, ob + i * 3, none⟩ = some (.string sm) ∧ w'.cell? ⟨gb, ob + i * 3 + 1, none⟩ = some (.slice Y1 mf yc1) ∧ w'.cell? ⟨gb, ob + i * 3 + 2, none⟩ = some (.slice Y3 mb yc3))
          (exact HSK.out _ HBX.out)
          (first | (go_at_call 27; refine (HSM.out _ HBX.out.b2_bel).mono ?_; rintro e w1 ⟨rfl, hb⟩; replace HBX := Lib.hid (bx2_step HBX.out hb); clear hb))
         go_wp2
         go_roundg (g0 - 1)
         case measure => omega
         case rel => exact ⟨i + 1, by go_num, by omega, (fun j a b hj ha hb => by
          by_cases hji : j < i
          ·exact HALL.out j a b hji ha hb
          ·have : j = i := by omega
           subst this
           have e1 := HXI.out.symm.trans ha
           have e2 := HYI.out.symm.trans hb
           injection e1 with e1
           injection e2 with e2
           rw [← e1, ← e2]
           exact of_decide_eq_true HR.out.symm), HBX.out⟩
       | false =>
         have HO : Hid (decide (s = t) = false) := Lib.hid (decide_eq_false (fun e => lists_ne HXI.out HYI.out (of_decide_eq_false HR.out.symm) (HEQ.out.1 e).2))
         go_wp2
         go_region_held3 (fun w' => w'.cell? ⟨w.heap.size, 1, none⟩ = some (.slice (some ⟨ge, oe, none⟩) n2 cap2) ∧ w'.cell? ⟨w.heap.size + 1, 1, none⟩ = some (.slice (some ⟨gb, ob, none⟩) n2 cb2) ∧ w'.cell? ⟨ge, oe + i * 3, none⟩ = some (.string sn) ∧ w'.cell? ⟨ge, oe + i * 3 + 1, none⟩ = some (.slice X1 nf xc1) ∧ w'.cell? ⟨ge, oe + i * 3 + 2, none⟩ = some (.slice X3 nb xc3) ∧ w'.cell? ⟨gb, ob + i * 3, none⟩ = some (.string sm) ∧ w'.cell? ⟨gb, ob + i * 3 + 1, none⟩ = some (.slice Y1 mf yc1) ∧ w'.cell? ⟨gb, ob + i * 3 + 2, none⟩ = some (.slice Y3 mb yc3))
          (exact HSK.out _ HBX.out)
          (first | (go_at_call 27; refine (HSM.out _ HBX.out.b2_bel).mono ?_; rintro e w1 ⟨rfl, hb⟩; replace HBX := Lib.hid (bx2_step HBX.out hb); clear hb))
         go_wp2
         go_ret
         exact ⟨ret_bool' HO.out.symm, HBX.out.b2_bel⟩
      ·have ti : decide ((i : Int) < (n2 : Int)) = false := decide_eq_false (by omega)
       have HO : Hid (decide (s = t) = true) := Lib.hid (decide_eq_true (HEQ.out.2 ⟨HEE.out, lists_eq (by have := H.out.s_nm; have := K.out.s_nm; omega) (fun j a b ha hb => HALL.out j a b (by have := (List.getElem?_eq_some_iff.mp ha).1; have := H.out.s_nm; omega) ha hb)⟩))
       go_wp2
       go_ret
       exact ⟨ret_bool' HO.out.symm, HBX.out.b2_bel⟩
  ·have t3 : ((n2 : Int) == (m2 : Int)) = false := beq_false_of_ne (by omega)
   have t4 : ((n2 : Int) != (m2 : Int)) = true := by simp; omega
   have t5 : ¬ n2 = m2 := hn2
   have HO : Hid (decide (s = t) = false) := Lib.hid (decide_eq_false (fun e => hn2 (by rw [H.out.s_nm, K.out.s_nm, e])))
   go_enter Tryz.func9, Tryz.ntmps9
   go_wp2
   go_ret
   exact ⟨ret_bool' HO.out.symm, HBX.out.b2_bel⟩
 ·have t3 : ((n : Int) == (m : Int)) = false := beq_false_of_ne (by omega)
  have t4 : ((n : Int) != (m : Int)) = true := by simp; omega
  have t5 : ¬ n = m := hn
  have HO : Hid (decide (s = t) = false) := Lib.hid (decide_eq_false (fun e => hn (by rw [H.out.s_ne, K.out.s_ne, e])))
  go_enter Tryz.func9, Tryz.ntmps9
  go_wp2
  go_ret
  exact ⟨ret_bool' HO.out.symm, HBX.out.b2_bel⟩
end Go.Proofs.YtcjjphioeneiiaaGreatDoor

/- The document's layer 15: which are not too great. Conditions: those that each theorem names. -/
namespace Go.Proofs.YtcjjphioeneiiaaGreatDoor
open Go.RowKit
set_option linter.unusedVariables false
set_option maxRecDepth 100000

set_option maxHeartbeats 8000000 in
theorem rvsmall_any {S : Nat → Nat → Prop} (w : World) {A A2 : Option Addr} {n cap n2 cap2 : Nat} {s : Sc} (h : ScAt S w A n cap A2 n2 cap2 s) (hok : ScOk s) :
 Calls Tryz.prog 11 #[.agg #[.slice A n cap, .slice A2 n2 cap2]] w fun e w' => e = .returned (.bool (smallT s)) ∧ Below w.heap.size w w' := by
 obtain ⟨m1, m2, m3, m4⟩ := scAt_max h
 have H := Lib.hid h
 have HBX := Lib.hid (bx_start w #[.slice A n cap, .slice A2 n2 cap2] 26)
 have HOK := Lib.hid hok
 have HLN : Hid (n ≤ lenM ∧ n2 ≤ lenM) := Lib.hid (by have := hok.1; have := hok.2.1; have := h.s_ne; have := h.s_nm; omega)
 have HWG : Hid (weigh s = ((n + n2) + (s.enums.map weighE).sum) + (s.msgs.map weighM).sum) := Lib.hid (by unfold weigh; rw [h.s_ne, h.s_nm])
 have gw0 : IntKind.i64.wrap ((n : Int) + (n2 : Int)) = (n : Int) + (n2 : Int) := IntWalk.i64_in _ (by have := HLN.out; unfold lenM at this; omega)
 clear h hok
 have r0 := obj_cell (HBX.out).b_blk 0
 have r1 := obj_cell (HBX.out).b_blk 1
 go_enter Tryz.func11, Tryz.ntmps11
 go_wp2
 clear r0 r1
 go_loopg [3, 4] n (fun gz x0 x1 wr => ∃ i : Nat, x1 = .int .i64 (i : Int) ∧ i + gz = n ∧ ∃ N : Nat, x0 = .int .i64 (N : Int) ∧ N = (n + n2) + ((s.enums.take i).map weighE).sum ∧ Bx w wr (.cells #[.slice A n cap, .slice A2 n2 cap2] 26 (0, 0)))
 case atStart => exact ⟨0, rfl, by omega, n + n2, (by rw [Int.natCast_add]), (by simp), HBX.out⟩
 case round =>
  obtain ⟨i, rfl, hi, N, rfl, hns, hbx⟩ := hrel
  have HBX := Lib.hid hbx
  clear hbx
  have r0 := obj_cell (HBX.out).b_blk 0
  have r1 := obj_cell (HBX.out).b_blk 1
  obtain ⟨g0, hg0⟩ : ∃ g0, g0 = gk := ⟨_, rfl⟩
  subst hg0
  by_cases hlti : i < n
  ·have ti : decide ((i : Int) < (n : Int)) = true := decide_eq_true (by omega)
   have HNS := Lib.hid hns
   clear hns
   by_cases h200 : N < 200
   ·have t2 : decide ((N : Int) < 200) = true := decide_eq_true (by omega)
    have t3 : (N : Int) < 200 := by omega
    obtain ⟨x, hx⟩ : ∃ x, s.enums[i]? = some x := ⟨_, List.getElem?_eq_getElem (by have := H.out.s_ne; omega)⟩
    have HXI := Lib.hid hx
    obtain ⟨ge, oe, A1, cap1, rfl, _, hc, hl⟩ := en_at H.out.s_e hx
    have q1 := hl.l_le
    have q2 := hl.l_max
    unfold maxLen at q2
    have HL := Lib.hid hl
    obtain ⟨nv, hnv⟩ : ∃ nv, nv = x.values.length := ⟨_, rfl⟩
    have HNV := Lib.hid hnv
    rw [← hnv] at hc q1
    obtain ⟨sn, hsn⟩ : ∃ sn, sn = strOf x.name := ⟨_, rfl⟩
    have HSN := Lib.hid hsn
    rw [← hsn] at hc
    have HC := Lib.hid hc
    clear hx hl hnv hsn hc
    obtain ⟨c0, c1⟩ := HC.out _ HBX.out.b_bel
    have hxo := HOK.out.2.2.1 x (List.mem_of_getElem? HXI.out)
    obtain ⟨z, hz⟩ : ∃ z, z = sn.size := ⟨_, rfl⟩
    obtain ⟨q, hq⟩ : ∃ q, q = z / 10 := ⟨_, rfl⟩
    have hzl : z = x.name.length := by rw [hz, HSN.out, str_size]
    have HLX : Hid (nv ≤ lenM ∧ q ≤ lenM) := Lib.hid ⟨by rw [HNV.out]; exact hxo.2.1, by rw [hq, hzl]; have := hxo.1; omega⟩
    have HWX : Hid (weighE x = nv + q) := Lib.hid (by unfold weighE; rw [HNV.out, hq, hzl])
    have hsz : sn.size = z := hz.symm
    have hd1 : (z : Int).tdiv 10 = (q : Int) := by rw [Int.tdiv_eq_ediv_of_nonneg (by omega)]; omega
    have hd2 : (z : Int) / 10 = (q : Int) := by omega
    have hd3 : z / 10 = q := hq.symm
    have gq : IntKind.i64.wrap (q : Int) = (q : Int) := IntWalk.i64_in _ (by have := HLX.out; unfold lenM at this; omega)
    have gw1 : IntKind.i64.wrap ((N : Int) + (nv : Int)) = (N : Int) + (nv : Int) := IntWalk.i64_in _ (by have := HLX.out; unfold lenM at this; omega)
    have gw2 : IntKind.i64.wrap ((N : Int) + (nv : Int) + (q : Int)) = (N : Int) + (nv : Int) + (q : Int) := IntWalk.i64_in _ (by have := HLX.out; unfold lenM at this; omega)
    clear hxo hz hzl hq
    go_wp2
    go_quiet (fail)
    go_wp2
    go_roundg (g0 - 1)
    case measure => omega
    case rel => exact ⟨i + 1, by go_num, by omega, N + nv + q, (by rw [show ((N + nv + q : Nat) : Int) = (N : Int) + (nv : Int) + (q : Int) by omega]), (by rw [sum_snoc _ _ _ _ HXI.out, HWX.out, HNS.out]; omega), bx_drew HBX.out _⟩
   ·have t2 : decide ((N : Int) < 200) = false := decide_eq_false (by omega)
    have t3 : ¬ (N : Int) < 200 := by omega
    have HNO : Hid (smallT s = false) := Lib.hid (small_no (by have := HWG.out; have := HNS.out; have := sum_take s.enums weighE i; omega))
    have t4 : decide ((N : Int) ≥ 200) = true := decide_eq_true (by omega)
    have t5 : decide ((200 : Int) ≤ (N : Int)) = true := decide_eq_true (by omega)
    have HN200 : Hid (200 ≤ N) := Lib.hid (by omega)
    go_wp2
    go_loopg [3, 5] 1 (fun gz x0 x1 wr => x0 = .int .i64 (N : Int) ∧ x1 = .int .i64 0 ∧ Bx w wr (.cells #[.slice A n cap, .slice A2 n2 cap2] 26 (0, 0)))
    case atStart => exact ⟨rfl, rfl, HBX.out⟩
    case round =>
     obtain ⟨rfl, rfl, hbx⟩ := hrel
     have HBX := Lib.hid hbx
     clear hbx
     have r0 := obj_cell (HBX.out).b_blk 0
     have r1 := obj_cell (HBX.out).b_blk 1
     by_cases h0 : 0 < n2
     ·have t6 : decide ((0 : Int) < (n2 : Int)) = true := decide_eq_true (by omega)
      have t7 : decide (0 < n2) = true := decide_eq_true (by omega)
      go_wp2
      go_ret
      exact ⟨ret_bool' HNO.out.symm, HBX.out.b_bel⟩
     ·have t6 : decide ((0 : Int) < (n2 : Int)) = false := decide_eq_false (by omega)
      have t7 : decide (0 < n2) = false := decide_eq_false (by omega)
      go_wp2
      go_ret
      exact ⟨ret_bool' HNO.out.symm, HBX.out.b_bel⟩
  ·have ti : decide ((i : Int) < (n : Int)) = false := decide_eq_false (by omega)
   have HNS := Lib.hid hns
   clear hns
   have HTE : Hid (((s.enums.take i).map weighE).sum = (s.enums.map weighE).sum) := Lib.hid (by rw [List.take_of_length_le (by have := H.out.s_ne; omega)])
   rw [HTE.out] at HNS
   by_cases h200 : N < 200
   ·skip
    have HN2 : Hid (N < 200) := Lib.hid h200
    clear h200
    go_wp2
    clear r0 r1
    go_loopg [3, 5] n2 (fun gz x0 x1 wr => ∃ i : Nat, x1 = .int .i64 (i : Int) ∧ i + gz = n2 ∧ ∃ N : Nat, x0 = .int .i64 (N : Int) ∧ N = ((n + n2) + (s.enums.map weighE).sum) + ((s.msgs.take i).map weighM).sum ∧ Bx w wr (.cells #[.slice A n cap, .slice A2 n2 cap2] 26 (0, 0)))
    case atStart => exact ⟨0, rfl, by omega, N, rfl, (by rw [HNS.out]; simp), HBX.out⟩
    case round =>
     obtain ⟨i, rfl, hi, N, rfl, hnm, hbx⟩ := hrel
     have HBX := Lib.hid hbx
     clear hbx
     have r0 := obj_cell (HBX.out).b_blk 0
     have r1 := obj_cell (HBX.out).b_blk 1
     obtain ⟨g0, hg0⟩ : ∃ g0, g0 = gk := ⟨_, rfl⟩
     subst hg0
     by_cases hlti : i < n2
     ·have ti : decide ((i : Int) < (n2 : Int)) = true := decide_eq_true (by omega)
      have HNM := Lib.hid hnm
      clear hnm
      by_cases h200 : N < 200
      ·have t2 : decide ((N : Int) < 200) = true := decide_eq_true (by omega)
       have t3 : (N : Int) < 200 := by omega
       obtain ⟨x, hx⟩ : ∃ x, s.msgs[i]? = some x := ⟨_, List.getElem?_eq_getElem (by have := H.out.s_nm; omega)⟩
       have HXI := Lib.hid hx
       obtain ⟨ge, oe, A1, cap1, A3, cap3, rfl, _, hc, hl, hl2⟩ := ms_at H.out.s_m hx
       have q1 := hl.l_le
       have q2 := hl.l_max
       have q3 := hl2.l_le
       have q4 := hl2.l_max
       unfold maxLen at q2 q4
       have HL := Lib.hid hl
       have HL2 := Lib.hid hl2
       obtain ⟨nf, hnf⟩ : ∃ nf, nf = x.fields.length := ⟨_, rfl⟩
       obtain ⟨nb, hnb⟩ : ∃ nb, nb = x.barred.length := ⟨_, rfl⟩
       have HNF := Lib.hid hnf
       have HNB := Lib.hid hnb
       rw [← hnf] at hc q1
       rw [← hnb] at hc q3
       obtain ⟨sn, hsn⟩ : ∃ sn, sn = strOf x.name := ⟨_, rfl⟩
       have HSN := Lib.hid hsn
       rw [← hsn] at hc
       have HC := Lib.hid hc
       clear hx hl hl2 hnf hnb hsn hc
       obtain ⟨c0, c1, c2⟩ := HC.out _ HBX.out.b_bel
       have hxo := HOK.out.2.2.2 x (List.mem_of_getElem? HXI.out)
       obtain ⟨z, hz⟩ : ∃ z, z = sn.size := ⟨_, rfl⟩
       obtain ⟨q, hq⟩ : ∃ q, q = z / 10 := ⟨_, rfl⟩
       have hzl : z = x.name.length := by rw [hz, HSN.out, str_size]
       have HLX : Hid (nf ≤ lenM ∧ nb ≤ lenM ∧ q ≤ lenM) := Lib.hid ⟨by rw [HNF.out]; exact hxo.2.1, by rw [HNB.out]; exact hxo.2.2.1, by rw [hq, hzl]; have := hxo.1; omega⟩
       have HWX : Hid (weighM x = nf + nb + q) := Lib.hid (by unfold weighM; rw [HNF.out, HNB.out, hq, hzl])
       have hsz : sn.size = z := hz.symm
       have hd1 : (z : Int).tdiv 10 = (q : Int) := by rw [Int.tdiv_eq_ediv_of_nonneg (by omega)]; omega
       have hd2 : (z : Int) / 10 = (q : Int) := by omega
       have hd3 : z / 10 = q := hq.symm
       have gq : IntKind.i64.wrap (q : Int) = (q : Int) := IntWalk.i64_in _ (by have := HLX.out; unfold lenM at this; omega)
       have gw1 : IntKind.i64.wrap ((N : Int) + (nf : Int)) = (N : Int) + (nf : Int) := IntWalk.i64_in _ (by have := HLX.out; unfold lenM at this; omega)
       have gw2 : IntKind.i64.wrap ((N : Int) + (nf : Int) + (nb : Int)) = (N : Int) + (nf : Int) + (nb : Int) := IntWalk.i64_in _ (by have := HLX.out; unfold lenM at this; omega)
       have gw3 : IntKind.i64.wrap ((N : Int) + (nf : Int) + (nb : Int) + (q : Int)) = (N : Int) + (nf : Int) + (nb : Int) + (q : Int) := IntWalk.i64_in _ (by have := HLX.out; unfold lenM at this; omega)
       clear hxo hz hzl hq
       go_wp2
       go_quiet (fail)
       go_wp2
       go_roundg (g0 - 1)
       case measure => omega
       case rel => exact ⟨i + 1, by go_num, by omega, N + nf + nb + q, (by rw [show ((N + nf + nb + q : Nat) : Int) = (N : Int) + (nf : Int) + (nb : Int) + (q : Int) by omega]), (by rw [sum_snoc _ _ _ _ HXI.out, HWX.out, HNM.out]; omega), bx_drew HBX.out _⟩
      ·have t2 : decide ((N : Int) < 200) = false := decide_eq_false (by omega)
       have t3 : ¬ (N : Int) < 200 := by omega
       have HNO : Hid (smallT s = false) := Lib.hid (small_no (by have := HWG.out; have := HNM.out; have := sum_take s.msgs weighM i; omega))
       have t4 : decide ((N : Int) ≥ 200) = true := decide_eq_true (by omega)
       have t5 : decide ((200 : Int) ≤ (N : Int)) = true := decide_eq_true (by omega)
       go_wp2
       go_ret
       exact ⟨ret_bool' HNO.out.symm, HBX.out.b_bel⟩
     ·have ti : decide ((i : Int) < (n2 : Int)) = false := decide_eq_false (by omega)
      have HNM := Lib.hid hnm
      clear hnm
      have HTM : Hid (((s.msgs.take i).map weighM).sum = (s.msgs.map weighM).sum) := Lib.hid (by rw [List.take_of_length_le (by have := H.out.s_nm; omega)])
      rw [HTM.out] at HNM
      by_cases h200 : N < 200
      ·have t4 : decide ((N : Int) ≥ 200) = false := decide_eq_false (by omega)
       have t5 : decide ((200 : Int) ≤ (N : Int)) = false := decide_eq_false (by omega)
       have HWS : Hid (weigh s < 200) := Lib.hid (by have := HWG.out; have := HNM.out; omega)
       clear h200
       go_wp2
       clear r0 r1
       go_loopg [6] n (fun gz x0 wr => ∃ i : Nat, x0 = .int .i64 (i : Int) ∧ i + gz = n ∧ (s.enums.take i).any longE = false ∧ Bx w wr (.cells #[.slice A n cap, .slice A2 n2 cap2] 26 (0, 0)))
       case atStart => exact ⟨0, rfl, by omega, rfl, HBX.out⟩
       case round =>
        obtain ⟨i, rfl, hi, hfb, hbx⟩ := hrel
        have HBX := Lib.hid hbx
        clear hbx
        have r0 := obj_cell (HBX.out).b_blk 0
        have r1 := obj_cell (HBX.out).b_blk 1
        obtain ⟨g0, hg0⟩ : ∃ g0, g0 = gk := ⟨_, rfl⟩
        subst hg0
        by_cases hlti : i < n
        ·have ti : decide ((i : Int) < (n : Int)) = true := decide_eq_true (by omega)
         obtain ⟨x, hx⟩ : ∃ x, s.enums[i]? = some x := ⟨_, List.getElem?_eq_getElem (by have := H.out.s_ne; omega)⟩
         have HXI := Lib.hid hx
         obtain ⟨ge, oe, A1, cap1, rfl, _, hc, hl⟩ := en_at H.out.s_e hx
         have q1 := hl.l_le
         have q2 := hl.l_max
         unfold maxLen at q2
         have HL := Lib.hid hl
         obtain ⟨nv, hnv⟩ : ∃ nv, nv = x.values.length := ⟨_, rfl⟩
         have HNV := Lib.hid hnv
         rw [← hnv] at hc q1
         obtain ⟨sn, hsn⟩ : ∃ sn, sn = strOf x.name := ⟨_, rfl⟩
         have HSN := Lib.hid hsn
         rw [← hsn] at hc
         have HC := Lib.hid hc
         clear hx hl hnv hsn hc
         obtain ⟨c0, c1⟩ := HC.out _ HBX.out.b_bel
         have HFB := Lib.hid hfb
         clear hfb
         go_wp2
         clear c0 c1
         clear r0 r1
         go_loopg [7] nv (fun gz x0 wr => ∃ k : Nat, x0 = .int .i64 (k : Int) ∧ k + gz = nv ∧ (x.values.take k).any longV = false ∧ Bx w wr (.cells #[.slice (some ⟨ge, oe, none⟩) n cap, .slice A2 n2 cap2] 26 (0, 0)))
         case atStart => exact ⟨0, rfl, by omega, rfl, HBX.out⟩
         case round =>
          obtain ⟨k, rfl, hk, hfk, hbx⟩ := hrel
          have HBX := Lib.hid hbx
          clear hbx
          have r0 := obj_cell (HBX.out).b_blk 0
          have r1 := obj_cell (HBX.out).b_blk 1
          obtain ⟨g1, hg1⟩ : ∃ g1, g1 = gk := ⟨_, rfl⟩
          subst hg1
          by_cases hltk : k < nv
          ·have tk : decide ((k : Int) < (nv : Int)) = true := decide_eq_true (by omega)
           obtain ⟨v, hv⟩ : ∃ v, x.values[k]? = some v := ⟨_, List.getElem?_eq_getElem (by have := HNV.out; omega)⟩
           have HVI := Lib.hid hv
           obtain ⟨gv, ov, rfl, _, hcv⟩ := vl_at HL.out hv
           obtain ⟨c0, c1⟩ := HC.out _ HBX.out.b_bel
           obtain ⟨d0, d1⟩ := hcv _ HBX.out.b_bel
           have HFK := Lib.hid hfk
           clear hfk
           obtain ⟨sv, hsv⟩ : ∃ sv, sv = strOf v.name := ⟨_, rfl⟩
           obtain ⟨z, hz⟩ : ∃ z, z = v.name.length := ⟨_, rfl⟩
           have hsz : sv.size = z := by rw [hsv, str_size, hz]
           rw [← hsv] at d0
           by_cases hl : 1000 < z
           ·have dl : decide ((z : Int) > 1000) = true := decide_eq_true (by omega)
            have HNO : Hid (smallT s = false) := Lib.hid (small_noE (any_off HXI.out (p := longE) (any_off HVI.out (p := longV) (by unfold longV; rw [← hz]; exact decide_eq_true hl))))
            clear hv hcv hsv hz
            go_wp2
            go_ret
            exact ⟨ret_bool' HNO.out.symm, HBX.out.b_bel⟩
           ·have dl : decide ((z : Int) > 1000) = false := decide_eq_false (by omega)
            have HXV : Hid ((x.values.take (k + 1)).any longV = false) := Lib.hid (by rw [any_snoc _ _ _ _ HVI.out, HFK.out]; unfold longV; rw [← hz]; exact decide_eq_false hl)
            clear hv hcv hsv hz
            go_wp2
            go_roundg (g1 - 1)
            case measure => omega
            case rel => exact ⟨k + 1, by go_num, by omega, HXV.out, HBX.out⟩
          ·have tk : decide ((k : Int) < (nv : Int)) = false := decide_eq_false (by omega)
           obtain ⟨c0, c1⟩ := HC.out _ HBX.out.b_bel
           rw [any_whole x.values _ k (by have := HNV.out; omega)] at hfk
           have HFK := Lib.hid hfk
           clear hfk
           go_wp2
           go_roundg (g0 - 1)
           case measure => omega
           case rel => exact ⟨i + 1, by go_num, by omega, by rw [any_snoc s.enums longE i x HXI.out, HFB.out]; exact HFK.out, HBX.out⟩
        ·have ti : decide ((i : Int) < (n : Int)) = false := decide_eq_false (by omega)
         rw [any_whole s.enums _ i (by have := H.out.s_ne; omega)] at hfb
         have HSE := Lib.hid hfb
         clear hfb
         go_wp2
         clear r0 r1
         go_loopg [8] n2 (fun gz x0 wr => ∃ i : Nat, x0 = .int .i64 (i : Int) ∧ i + gz = n2 ∧ (s.msgs.take i).any longM = false ∧ Bx w wr (.cells #[.slice A n cap, .slice A2 n2 cap2] 26 (0, 0)))
         case atStart => exact ⟨0, rfl, by omega, rfl, HBX.out⟩
         case round =>
          obtain ⟨i, rfl, hi, hfb, hbx⟩ := hrel
          have HBX := Lib.hid hbx
          clear hbx
          have r0 := obj_cell (HBX.out).b_blk 0
          have r1 := obj_cell (HBX.out).b_blk 1
          obtain ⟨g0, hg0⟩ : ∃ g0, g0 = gk := ⟨_, rfl⟩
          subst hg0
          by_cases hlti : i < n2
          ·have ti : decide ((i : Int) < (n2 : Int)) = true := decide_eq_true (by omega)
           obtain ⟨x, hx⟩ : ∃ x, s.msgs[i]? = some x := ⟨_, List.getElem?_eq_getElem (by have := H.out.s_nm; omega)⟩
           have HXI := Lib.hid hx
           obtain ⟨ge, oe, A1, cap1, A3, cap3, rfl, _, hc, hl, hl2⟩ := ms_at H.out.s_m hx
           have q1 := hl.l_le
           have q2 := hl.l_max
           have q3 := hl2.l_le
           have q4 := hl2.l_max
           unfold maxLen at q2 q4
           have HL := Lib.hid hl
           have HL2 := Lib.hid hl2
           obtain ⟨nf, hnf⟩ : ∃ nf, nf = x.fields.length := ⟨_, rfl⟩
           obtain ⟨nb, hnb⟩ : ∃ nb, nb = x.barred.length := ⟨_, rfl⟩
           have HNF := Lib.hid hnf
           have HNB := Lib.hid hnb
           rw [← hnf] at hc q1
           rw [← hnb] at hc q3
           obtain ⟨sn, hsn⟩ : ∃ sn, sn = strOf x.name := ⟨_, rfl⟩
           have HSN := Lib.hid hsn
           rw [← hsn] at hc
           have HC := Lib.hid hc
           clear hx hl hl2 hnf hnb hsn hc
           obtain ⟨c0, c1, c2⟩ := HC.out _ HBX.out.b_bel
           have HFB := Lib.hid hfb
           clear hfb
           go_wp2
           clear c0 c1 c2
           clear r0 r1
           go_loopg [9] nf (fun gz x0 wr => ∃ k : Nat, x0 = .int .i64 (k : Int) ∧ k + gz = nf ∧ (x.fields.take k).any longF = false ∧ Bx w wr (.cells #[.slice A n cap, .slice (some ⟨ge, oe, none⟩) n2 cap2] 26 (0, 0)))
           case atStart => exact ⟨0, rfl, by omega, rfl, HBX.out⟩
           case round =>
            obtain ⟨k, rfl, hk, hfk, hbx⟩ := hrel
            have HBX := Lib.hid hbx
            clear hbx
            have r0 := obj_cell (HBX.out).b_blk 0
            have r1 := obj_cell (HBX.out).b_blk 1
            obtain ⟨g1, hg1⟩ : ∃ g1, g1 = gk := ⟨_, rfl⟩
            subst hg1
            by_cases hltk : k < nf
            ·have tk : decide ((k : Int) < (nf : Int)) = true := decide_eq_true (by omega)
             obtain ⟨f, hf⟩ : ∃ f, x.fields[k]? = some f := ⟨_, List.getElem?_eq_getElem (by have := HNF.out; omega)⟩
             have HFI := Lib.hid hf
             obtain ⟨gf, of, rfl, _, hcf⟩ := fd_at HL.out hf
             have HCF := Lib.hid hcf
             clear hf hcf
             have HFK := Lib.hid hfk
             clear hfk
             obtain ⟨c0, c1, c2⟩ := HC.out _ HBX.out.b_bel
             obtain ⟨d0, d1, d2, d3, d4, d5, d6⟩ := HCF.out _ HBX.out.b_bel
             have HXF := Lib.hid (any_snoc x.fields longF k f HFI.out)
             have HO := Lib.hid (fun hp : longF f = true => (small_noM (any_off HXI.out (p := longM) (any_off HFI.out (p := longF) hp)) : smallT s = false))
             obtain ⟨p, hp⟩ : ∃ p, p = longF f := ⟨_, rfl⟩
             rw [← hp] at HXF HO
             unfold longF at hp
             obtain ⟨name, num, ty, ref, rep, loose, one⟩ := f
             dsimp only at hp d0 d1 d2 d3 d4 d5 d6
             obtain ⟨sn1, hsn1⟩ : ∃ z, z = strOf name := ⟨_, rfl⟩
             obtain ⟨z1, hz1⟩ : ∃ z, z = name.length := ⟨_, rfl⟩
             have szz1 : sn1.size = z1 := by rw [hsn1, str_size, hz1]
             obtain ⟨sr1, hsr1⟩ : ∃ z, z = strOf ref := ⟨_, rfl⟩
             obtain ⟨z2, hz2⟩ : ∃ z, z = ref.length := ⟨_, rfl⟩
             have szz2 : sr1.size = z2 := by rw [hsr1, str_size, hz2]
             obtain ⟨so1, hso1⟩ : ∃ z, z = strOf one := ⟨_, rfl⟩
             obtain ⟨z3, hz3⟩ : ∃ z, z = one.length := ⟨_, rfl⟩
             have szz3 : so1.size = z3 := by rw [hso1, str_size, hz3]
             rw [← hsn1] at d0
             rw [← hsr1] at d3
             rw [← hso1] at d6
             rw [← hz1, ← hz2, ← hz3] at hp
             clear hsn1 hsr1 hso1 hz1 hz2 hz3
             have HBA : Hid (Bx w (wr.alloc (.cells #[.string sn1, .int .i64 num, .int .i64 ty, .string sr1, .bool rep, .bool loose, .string so1] 70)) (.cells #[.slice A n cap, .slice (some ⟨ge, oe, none⟩) n2 cap2] 26 (0, 0))) := Lib.hid (bx_step HBX.out ((Below.refl _ wr).alloc (Nat.le_refl _) _))
             have a0 := obj_cell HBA.out.b_blk 0
             have a1 := obj_cell HBA.out.b_blk 1
             have HFX : Hid ((wr.alloc (.cells #[.string sn1, .int .i64 num, .int .i64 ty, .string sr1, .bool rep, .bool loose, .string so1] 70)).heap[wr.heap.size]? = some (.cells #[.string sn1, .int .i64 num, .int .i64 ty, .string sr1, .bool rep, .bool loose, .string so1] 70 (0, 0))) := Lib.hid (heap_alloc_new wr _)
             have f0 := obj_cell HFX.out 0
             have f3 := obj_cell HFX.out 3
             have f6 := obj_cell HFX.out 6
             by_cases hz1 : 1000 < z1
             ·have lz1 : decide ((z1 : Int) > 1000) = true := decide_eq_true (by omega)
              replace hp : p = true := by rw [hp]; simp [*]
              have HNO : Hid (smallT s = false) := Lib.hid (HO.out hp)
              go_wp2
              go_ret
              exact ⟨ret_bool' HNO.out.symm, HBA.out.b_bel⟩
             ·have lz1 : decide ((z1 : Int) > 1000) = false := decide_eq_false (by omega)
              by_cases hz2 : 1000 < z2
              ·have lz2 : decide ((z2 : Int) > 1000) = true := decide_eq_true (by omega)
               replace hp : p = true := by rw [hp]; simp [*]
               have HNO : Hid (smallT s = false) := Lib.hid (HO.out hp)
               go_wp2
               go_ret
               exact ⟨ret_bool' HNO.out.symm, HBA.out.b_bel⟩
              ·have lz2 : decide ((z2 : Int) > 1000) = false := decide_eq_false (by omega)
               by_cases hz3 : 1000 < z3
               ·have lz3 : decide ((z3 : Int) > 1000) = true := decide_eq_true (by omega)
                replace hp : p = true := by rw [hp]; simp [*]
                have HNO : Hid (smallT s = false) := Lib.hid (HO.out hp)
                go_wp2
                go_ret
                exact ⟨ret_bool' HNO.out.symm, HBA.out.b_bel⟩
               ·have lz3 : decide ((z3 : Int) > 1000) = false := decide_eq_false (by omega)
                replace hp : p = false := by rw [hp]; simp [*]
                have HXK : Hid ((x.fields.take (k + 1)).any longF = false) := Lib.hid (by rw [HXF.out, HFK.out, hp]; rfl)
                go_wp2
                go_roundg (g1 - 1)
                case measure => omega
                case rel => exact ⟨k + 1, by go_num, by omega, HXK.out, HBA.out⟩
            ·have tk : decide ((k : Int) < (nf : Int)) = false := decide_eq_false (by omega)
             obtain ⟨c0, c1, c2⟩ := HC.out _ HBX.out.b_bel
             rw [any_whole x.fields _ k (by have := HNF.out; omega)] at hfk
             have HFK := Lib.hid hfk
             clear hfk
             go_wp2
             go_roundg (g0 - 1)
             case measure => omega
             case rel => exact ⟨i + 1, by go_num, by omega, by rw [any_snoc s.msgs longM i x HXI.out, HFB.out]; exact HFK.out, HBX.out⟩
          ·have ti : decide ((i : Int) < (n2 : Int)) = false := decide_eq_false (by omega)
           rw [any_whole s.msgs _ i (by have := H.out.s_nm; omega)] at hfb
           have HYES : Hid (smallT s = true) := Lib.hid (small_of HWS.out HSE.out hfb)
           clear hfb
           go_wp2
           go_ret
           exact ⟨ret_bool' HYES.out.symm, HBX.out.b_bel⟩
      ·have t4 : decide ((N : Int) ≥ 200) = true := decide_eq_true (by omega)
       have t5 : decide ((200 : Int) ≤ (N : Int)) = true := decide_eq_true (by omega)
       have HNO : Hid (smallT s = false) := Lib.hid (small_no (by have := HWG.out; have := HNM.out; omega))
       go_wp2
       go_ret
       exact ⟨ret_bool' HNO.out.symm, HBX.out.b_bel⟩
   ·have t3 : ¬ (N : Int) < 200 := by omega
    have t2 : decide ((N : Int) < 200) = false := decide_eq_false (by omega)
    have HNO : Hid (smallT s = false) := Lib.hid (small_no (by have := HWG.out; have := HNS.out; omega))
    have t4 : decide ((N : Int) ≥ 200) = true := decide_eq_true (by omega)
    have t5 : decide ((200 : Int) ≤ (N : Int)) = true := decide_eq_true (by omega)
    have HN200 : Hid (200 ≤ N) := Lib.hid (by omega)
    go_wp2
    go_loopg [3, 5] 1 (fun gz x0 x1 wr => x0 = .int .i64 (N : Int) ∧ x1 = .int .i64 0 ∧ Bx w wr (.cells #[.slice A n cap, .slice A2 n2 cap2] 26 (0, 0)))
    case atStart => exact ⟨rfl, rfl, HBX.out⟩
    case round =>
     obtain ⟨rfl, rfl, hbx⟩ := hrel
     have HBX := Lib.hid hbx
     clear hbx
     have r0 := obj_cell (HBX.out).b_blk 0
     have r1 := obj_cell (HBX.out).b_blk 1
     by_cases h0 : 0 < n2
     ·have t6 : decide ((0 : Int) < (n2 : Int)) = true := decide_eq_true (by omega)
      have t7 : decide (0 < n2) = true := decide_eq_true (by omega)
      go_wp2
      go_ret
      exact ⟨ret_bool' HNO.out.symm, HBX.out.b_bel⟩
     ·have t6 : decide ((0 : Int) < (n2 : Int)) = false := decide_eq_false (by omega)
      have t7 : decide (0 < n2) = false := decide_eq_false (by omega)
      go_wp2
      go_ret
      exact ⟨ret_bool' HNO.out.symm, HBX.out.b_bel⟩
end Go.Proofs.YtcjjphioeneiiaaGreatDoor

/- Layer 17 in plain words (no program here): schemas' texts, and how long these are. Conditions: those that each theorem names. -/
namespace Go.Proofs.YtcjjphioeneiiaaGreatDoor
open Go.RowKit
set_option linter.unusedVariables false

def digT (n : Int) : List UInt8 := if n < 0 then [48] else digitsT n.toNat false
def valLine (v : Vl) : List UInt8 := [32, 32] ++ v.name ++ [32, 61, 32] ++ digT v.num ++ [59, 10]
def enumHead (e : En) : List UInt8 := [101, 110, 117, 109, 32] ++ e.name ++ [32, 123, 10]
def enumText (e : En) : List UInt8 := enumHead e ++ e.values.flatMap valLine ++ [125, 10]
def barT : List Int → List UInt8
 | [] => []
 | a :: r => digT a ++ r.flatMap (fun n => [44, 32] ++ digT n)
def resHead : List UInt8 := [32, 32, 114, 101, 115, 101, 114, 118, 101, 100, 32]
def resLine (l : List Int) : List UInt8 := if l.length = 0 then [] else resHead ++ barT l ++ [59, 10]
def oneofT (f : Fd) : List UInt8 := if f.one = [] then [] else [111, 110, 101, 111, 102, 32] ++ f.one ++ [32]
def fieldLine (f : Fd) : List UInt8 := [32, 32] ++ oneofT f ++ ftextT f ++ [10]
def msgHead (m : Ms) : List UInt8 := [109, 101, 115, 115, 97, 103, 101, 32] ++ m.name ++ [32, 123, 10]
def msgText (m : Ms) : List UInt8 := msgHead m ++ resLine m.barred ++ m.fields.flatMap fieldLine ++ [125, 10]
def schText (s : Sc) : List UInt8 := if checkT s = 0 then s.enums.flatMap enumText ++ s.msgs.flatMap msgText else []

theorem digitsT_len {n : Nat} (h : n < 18446744073709551616) : (digitsT n false).length ≤ 21 := by
 have := decOf_len64 h
 unfold digitsT
 split
 ·simp
 ·rw [if_neg (by decide)]; omega
theorem digT_len {n : Int} (h : Int64 n) : (digT n).length ≤ 21 := by
 unfold digT
 split
 ·simp
 ·unfold Int64 at h
  exact digitsT_len (by omega)
theorem flat_le {α β : Type} (f : α → List β) (B : Nat) : ∀ (l : List α), (∀ x ∈ l, (f x).length ≤ B) → (l.flatMap f).length ≤ l.length * B
 | [], _ => by simp
 | a :: r, h => by
   have h1 := h a List.mem_cons_self
   have h2 := flat_le f B r (fun x hx => h x (List.mem_cons_of_mem _ hx))
   rw [List.flatMap_cons, List.length_append, List.length_cons, Nat.add_mul]
   omega
theorem flat_part {α β : Type} (f : α → List β) (l : List α) (i : Nat) : ((l.take i).flatMap f).length ≤ (l.flatMap f).length := by
 conv => rhs; rw [← List.take_append_drop i l]
 rw [List.flatMap_append, List.length_append]
 omega
structure EnFits (e : En) : Prop where
 ef_name : e.name.length ≤ 2000
 ef_vals : e.values.length ≤ 200
 ef_each : ∀ v ∈ e.values, v.name.length ≤ 1000 ∧ Int64 v.num
structure MsFits (m : Ms) : Prop where
 mf_name : m.name.length ≤ 2000
 mf_fields : m.fields.length ≤ 200
 mf_barred : m.barred.length ≤ 200
 mf_each : ∀ f ∈ m.fields, f.one.length ≤ 1000
 mf_nums : ∀ n ∈ m.barred, Int64 n
theorem valLine_len {v : Vl} (h : v.name.length ≤ 1000 ∧ Int64 v.num) : (valLine v).length ≤ 1028 := by
 have := digT_len h.2
 unfold valLine
 simp only [List.length_append, List.length_cons, List.length_nil]
 omega
theorem enumBody_len {e : En} (h : EnFits e) (i : Nat) : (enumHead e ++ (e.values.take i).flatMap valLine).length ≤ 208000 := by
 have h1 := flat_le valLine 1028 e.values (fun v hv => valLine_len (h.ef_each v hv))
 have h2 := flat_part valLine e.values i
 have h3 := h.ef_vals
 have h4 := h.ef_name
 unfold enumHead
 simp only [List.length_append, List.length_cons, List.length_nil]
 omega
theorem enumText_len {e : En} (h : EnFits e) : (enumText e).length ≤ 208002 := by
 have := enumBody_len h e.values.length
 rw [List.take_length] at this
 unfold enumText
 rw [List.length_append]
 simp only [List.length_cons, List.length_nil]
 omega
theorem ftextT_len (f : Fd) : (ftextT f).length ≤ 80 := by
 unfold ftextT
 by_cases h0 : fcheckT f = 0
 ·rw [if_pos h0]
  obtain ⟨h1, h2, h3, h4, h5, h6, h7, h8⟩ := fcheck_ok h0
  have hn := fieldB_in h4
  have hln := nameB_len h1
  have hlr : f.ref.length ≤ 12 := by
   rcases h3 with ⟨_, e⟩ | ⟨_, e⟩
   ·exact nameB_len e
   ·rw [e]; simp
  have hlw := wordT_short f.ty
  have hld := digitsT_len (n := f.num.toNat) (by omega)
  have hb : (ftextB f).length ≤ 70 := by
   unfold ftextB
   simp only [List.length_append, List.length_cons, List.length_nil]
   omega
  split
  ·simp only [List.length_append, List.length_cons, List.length_nil]; omega
  ·split
   ·simp only [List.length_append, List.length_cons, List.length_nil]; omega
   ·omega
 ·rw [if_neg h0]; simp
theorem oneofT_len {f : Fd} (h : f.one.length ≤ 1000) : (oneofT f).length ≤ 1007 := by
 unfold oneofT
 split
 ·simp
 ·simp only [List.length_append, List.length_cons, List.length_nil]; omega
theorem fieldLine_len {f : Fd} (h : f.one.length ≤ 1000) : (fieldLine f).length ≤ 1090 := by
 have h1 := oneofT_len h
 have h2 := ftextT_len f
 unfold fieldLine
 simp only [List.length_append, List.length_cons, List.length_nil]
 omega
theorem barT_snoc (l : List Int) (x : Int) : barT (l ++ [x]) = barT l ++ (if 0 < l.length then [44, 32] else []) ++ digT x := by
 cases l with
 | nil => simp [barT]
 | cons a r =>
   rw [List.cons_append, barT, barT, if_pos (by simp), List.flatMap_append]
   simp
theorem barT_len : ∀ (l : List Int), (∀ n ∈ l, Int64 n) → (barT l).length ≤ l.length * 23
 | [], _ => by simp [barT]
 | a :: r, h => by
   have h1 := digT_len (h a List.mem_cons_self)
   have h2 := flat_le (fun n => [44, 32] ++ digT n) 23 r (fun n hn => by
    have := digT_len (h n (List.mem_cons_of_mem _ hn))
    simp only [List.length_append, List.length_cons, List.length_nil]
    omega)
   rw [barT, List.length_append, List.length_cons, Nat.add_mul]
   omega
theorem barTake_len {m : Ms} (h : MsFits m) (i : Nat) : (barT (m.barred.take i)).length ≤ 4600 := by
 have h1 := barT_len (m.barred.take i) (fun n hn => h.mf_nums n (List.mem_of_mem_take hn))
 have h2 := h.mf_barred
 have h3 : (m.barred.take i).length ≤ 200 := by rw [List.length_take]; omega
 omega
theorem msgHead_len {m : Ms} (h : MsFits m) : (msgHead m).length ≤ 2011 := by
 have := h.mf_name
 unfold msgHead
 simp only [List.length_append, List.length_cons, List.length_nil]
 omega
theorem resLine_len {m : Ms} (h : MsFits m) : (resLine m.barred).length ≤ 4613 := by
 have := barTake_len h m.barred.length
 rw [List.take_length] at this
 unfold resLine resHead
 split
 ·simp
 ·simp only [List.length_append, List.length_cons, List.length_nil]; omega
theorem msgBody_len {m : Ms} (h : MsFits m) (i : Nat) : (msgHead m ++ resLine m.barred ++ (m.fields.take i).flatMap fieldLine).length ≤ 225000 := by
 have h1 := flat_le fieldLine 1090 m.fields (fun f hf => fieldLine_len (h.mf_each f hf))
 have h2 := flat_part fieldLine m.fields i
 have h3 := h.mf_fields
 have h4 := msgHead_len h
 have h5 := resLine_len h
 simp only [List.length_append]
 omega
theorem msgText_len {m : Ms} (h : MsFits m) : (msgText m).length ≤ 225002 := by
 have := msgBody_len h m.fields.length
 rw [List.take_length] at this
 unfold msgText
 rw [List.length_append]
 simp only [List.length_cons, List.length_nil]
 omega
theorem sc_fits {s : Sc} (hs : smallT s = true) (hok : ScOk s) : (∀ e ∈ s.enums, EnFits e) ∧ ∀ m ∈ s.msgs, MsFits m := by
 have hz := small_sizes hs
 unfold smallT at hs
 rw [Bool.and_eq_true, Bool.and_eq_true, Bool.not_eq_true', Bool.not_eq_true', decide_eq_true_iff, List.any_eq_false, List.any_eq_false] at hs
 obtain ⟨h1, h2, h3⟩ := hs
 unfold weigh at h1
 refine ⟨fun e he => ⟨?_, hz.2.2.1 e he, fun v hv => ⟨?_, ?_⟩⟩, fun m hm => ⟨?_, (hz.2.2.2 m hm).1, (hz.2.2.2 m hm).2, fun f hf => ?_, fun n hn => ?_⟩⟩
 ·have := sum_mem (f := weighE) he
  unfold weighE at this h1
  omega
 ·have := h2 e he
  unfold longE at this
  rw [Bool.not_eq_true, List.any_eq_false] at this
  have := this v hv
  unfold longV at this
  simp at this
  exact this
 ·exact ((hok.2.2.1 e he).2.2 v hv).1
 ·have := sum_mem (f := weighM) hm
  unfold weighM at this h1
  omega
 ·have := h3 m hm
  unfold longM at this
  rw [Bool.not_eq_true, List.any_eq_false] at this
  have := this f hf
  unfold longF at this
  simp at this
  omega
 ·exact (hok.2.2.2 m hm).2.2.2.2 n hn
end Go.Proofs.YtcjjphioeneiiaaGreatDoor

/- Layer 17 in plain words: two schemas that may be have one text just if they are the same. Conditions: those that each theorem names. -/
namespace Go.Proofs.YtcjjphioeneiiaaGreatDoor
open Go.RowKit
set_option linter.unusedVariables false

theorem name_chars {t : List UInt8} (h : nameB t = true) : ∀ c ∈ t, charB c = true := by
 unfold nameB at h
 simp only [Bool.and_eq_true] at h
 exact fun c hc => List.all_eq_true.mp h.1.2 c hc
theorem name_word {t : List UInt8} (h : nameB t = true) : t ∉ wordsL := by
 unfold nameB at h
 simp only [Bool.and_eq_true, Bool.not_eq_true'] at h
 intro hm
 have := h.2
 rw [List.contains_eq_mem, decide_eq_false_iff_not] at this
 exact this hm
theorem name_some {t : List UInt8} (h : nameB t = true) : t ≠ [] := by
 intro e
 rw [e] at h
 simp [nameB] at h
/-! ### Enums -/
def EnGood (e : En) : Prop := nameB e.name = true ∧ ∀ v ∈ e.values, nameB v.name = true ∧ 0 ≤ v.num
/-! ### Barred numbers -/
def tailT (l : List Int) : List UInt8 := l.flatMap (fun n => [44, 32] ++ digT n)
/-! ### Fields -/
def oneofW : List UInt8 := [111, 110, 101, 111, 102]
def looseW : List UInt8 := [108, 111, 111, 115, 101]
def repW : List UInt8 := [114, 101, 112, 101, 97, 116, 101, 100]
def resW : List UInt8 := [114, 101, 115, 101, 114, 118, 101, 100]
/-- The word of a field's type, or what it refers to. -/
def tyW (f : Fd) : List UInt8 := wordT f.ty ++ f.ref
def FdGood (f : Fd) : Prop := fcheckT f = 0
theorem wordT_mem {ty : Int} (h1 : 1 ≤ ty) (h2 : ty ≤ 13) : wordT ty ∈ wordsL ∧ wordT ty ≠ oneofW ∧ wordT ty ≠ looseW ∧ wordT ty ≠ repW ∧ wordT ty ≠ resW ∧ (∀ c ∈ wordT ty, charB c = true) ∧ ∀ k : Int, 1 ≤ k → k ≤ 13 → wordT ty = wordT k → ty = k := by
 have hc : ty = 1 ∨ ty = 2 ∨ ty = 3 ∨ ty = 4 ∨ ty = 5 ∨ ty = 6 ∨ ty = 7 ∨ ty = 8 ∨ ty = 9 ∨ ty = 10 ∨ ty = 11 ∨ ty = 12 ∨ ty = 13 := by omega
 refine ⟨?_, ?_, ?_, ?_, ?_, ?_, fun k k1 k2 e => ?_⟩
 ·rcases hc with rfl | rfl | rfl | rfl | rfl | rfl | rfl | rfl | rfl | rfl | rfl | rfl | rfl <;> decide
 ·rcases hc with rfl | rfl | rfl | rfl | rfl | rfl | rfl | rfl | rfl | rfl | rfl | rfl | rfl <;> decide
 ·rcases hc with rfl | rfl | rfl | rfl | rfl | rfl | rfl | rfl | rfl | rfl | rfl | rfl | rfl <;> decide
 ·rcases hc with rfl | rfl | rfl | rfl | rfl | rfl | rfl | rfl | rfl | rfl | rfl | rfl | rfl <;> decide
 ·rcases hc with rfl | rfl | rfl | rfl | rfl | rfl | rfl | rfl | rfl | rfl | rfl | rfl | rfl <;> decide
 ·rcases hc with rfl | rfl | rfl | rfl | rfl | rfl | rfl | rfl | rfl | rfl | rfl | rfl | rfl <;> decide
 ·have hk : k = 1 ∨ k = 2 ∨ k = 3 ∨ k = 4 ∨ k = 5 ∨ k = 6 ∨ k = 7 ∨ k = 8 ∨ k = 9 ∨ k = 10 ∨ k = 11 ∨ k = 12 ∨ k = 13 := by omega
  have ht : ∀ i : Fin 13, ∀ j : Fin 13, wordT ((i.val : Int) + 1) = wordT ((j.val : Int) + 1) → i = j := by decide +kernel
  have := ht ⟨(ty - 1).toNat, by omega⟩ ⟨(k - 1).toNat, by omega⟩ (by
   show wordT (((ty - 1).toNat : Int) + 1) = wordT (((k - 1).toNat : Int) + 1)
   rw [show ((ty - 1).toNat : Int) + 1 = ty by omega, show ((k - 1).toNat : Int) + 1 = k by omega]
   exact e)
  injection this with this
  omega
theorem wordT_none {ty : Int} (h : ty = 14 ∨ ty = 15) : wordT ty = [] := by unfold wordT; rw [if_neg (by omega)]
/-- What a field's type word is: one of the language's, or a name. -/
theorem tyW_cases {f : Fd} (h : FdGood f) : (1 ≤ f.ty ∧ f.ty ≤ 13 ∧ f.ref = [] ∧ tyW f = wordT f.ty) ∨ ((f.ty = 14 ∨ f.ty = 15) ∧ nameB f.ref = true ∧ tyW f = f.ref) := by
 obtain ⟨h1, h2, h3, h4, h5, h6, h7, h8⟩ := fcheck_ok h
 unfold tyW
 rcases h3 with ⟨e1, e2⟩ | ⟨e1, e2⟩
 ·exact .inr ⟨e1, e2, by rw [wordT_none e1]; rfl⟩
 ·exact .inl ⟨h5, by omega, e2, by rw [e2, List.append_nil]⟩
theorem tyW_not {f : Fd} (h : FdGood f) : (∀ c ∈ tyW f, charB c = true) ∧ tyW f ≠ oneofW ∧ tyW f ≠ looseW ∧ tyW f ≠ repW ∧ tyW f ≠ resW := by
 rcases tyW_cases h with ⟨h1, h2, _, e⟩ | ⟨_, h2, e⟩
 ·obtain ⟨_, k1, k2, k3, k4, k5, _⟩ := wordT_mem h1 h2
  rw [e]
  exact ⟨k5, k1, k2, k3, k4⟩
 ·have hw := name_word h2
  rw [e]
  exact ⟨name_chars h2, fun e => hw (e ▸ by decide), fun e => hw (e ▸ by decide), fun e => hw (e ▸ by decide), fun e => hw (e ▸ by decide)⟩
/-- What stands behind the type's word. -/
def fdTail (f : Fd) : List UInt8 := f.name ++ [32, 61, 32] ++ digT f.num ++ [59]
theorem ftext_form {f : Fd} (h : FdGood f) : ftextT f = (if f.loose = true then looseW ++ [32] else if f.rep = true then repW ++ [32] else []) ++ (tyW f ++ 32 :: fdTail f) := by
 obtain ⟨_, _, _, a4, _⟩ := fcheck_ok h
 have ha := fieldB_in a4
 have hb : ftextB f = tyW f ++ 32 :: fdTail f := by
  unfold ftextB tyW fdTail digT
  rw [if_neg (by omega)]
  simp
 unfold ftextT
 rw [if_pos (show fcheckT f = 0 from h), hb]
 unfold looseW repW
 split
 ·simp
 ·split
  ·simp
  ·simp
/-! ### Messages -/
def MsGood (m : Ms) : Prop := nameB m.name = true ∧ (∀ n ∈ m.barred, 0 ≤ n) ∧ ∀ f ∈ m.fields, FdGood f
theorem bar_form {l : List Int} (h : l.length ≠ 0) : ∃ a k, l = a :: k ∧ barT l = digT a ++ tailT k := by
 cases l with
 | nil => exact absurd rfl h
 | cons a k => exact ⟨a, k, rfl, rfl⟩
/-! ### Schemas -/
theorem rises_ge : ∀ {l : List Int} {c : Int}, risesB l = true → (∀ x, l.head? = some x → c ≤ x) → ∀ y ∈ l, c ≤ y
 | [], _, _, _, y, hy => by cases hy
 | [a], c, _, h, y, hy => by
   rw [List.mem_singleton.mp hy]
   exact h a rfl
 | a :: b :: r, c, hr, h, y, hy => by
   rw [risesB, Bool.and_eq_true, decide_eq_true_iff] at hr
   have ha := h a rfl
   rcases List.mem_cons.mp hy with rfl | hy
   ·exact ha
   ·exact rises_ge (l := b :: r) hr.2 (fun x hx => by
     have : b = x := by simpa using hx
     omega) y hy
theorem good_of {s : Sc} (h : checkT s = 0) : (∀ e ∈ s.enums, EnGood e) ∧ ∀ m ∈ s.msgs, MsGood m := by
 obtain ⟨_, h2, h3, h4, _, h6, _, _⟩ := check_parts h
 unfold scTextT at h3
 rw [Bool.or_eq_false_iff, List.any_eq_false, List.any_eq_false] at h3
 unfold noneT at h2
 rw [Bool.or_eq_false_iff, List.any_eq_false] at h2
 unfold orderT at h6
 simp only [Bool.or_eq_false_iff, List.any_eq_false] at h6
 unfold fieldsT fieldsOf at h4
 rw [firstBad_zero] at h4
 refine ⟨fun e he => ⟨?_, fun v hv => ⟨?_, ?_⟩⟩, fun m hm => ⟨?_, fun n hn => ?_, fun f hf => h4 f (List.mem_flatMap.mpr ⟨m, hm, hf⟩)⟩⟩
 ·have := h3.1 e he
  unfold textE at this
  simp only [Bool.not_eq_true, Bool.or_eq_false_iff] at this
  have := this.1
  unfold badName at this
  simpa using this
 ·have := h3.1 e he
  unfold textE at this
  simp only [Bool.not_eq_true, Bool.or_eq_false_iff, List.any_eq_false] at this
  have := this.2 v hv
  unfold textV badName at this
  simpa using this
 ·have := h6.1.1.1 e he
  unfold orderE at this
  simp only [Bool.not_eq_true, Bool.or_eq_false_iff, Bool.not_eq_false', decide_eq_true_iff, decide_eq_false_iff_not] at this
  obtain ⟨⟨k1, k2⟩, _⟩ := this
  exact rises_ge k1 (fun x hx => by
   rw [List.headD_eq_head?_getD, hx] at k2
   have : x = 0 := k2
   omega) v.num (List.mem_map.mpr ⟨v, hv, rfl⟩)
 ·have := h3.2 m hm
  unfold textM badName at this
  simpa using this
 ·have := h6.1.2 m hm
  unfold orderM at this
  simp only [Bool.not_eq_true, Bool.or_eq_false_iff, Bool.not_eq_false', Bool.and_eq_false_iff, decide_eq_false_iff_not] at this
  obtain ⟨⟨_, k1⟩, k2⟩ := this
  refine rises_ge k1 (fun x hx => ?_) n hn
  rcases k2 with k2 | k2
  ·have := List.length_pos_of_mem hn
   exact absurd this k2
  ·rw [List.headD_eq_head?_getD, hx] at k2
   have : ¬ x < 1 := k2.1
   omega
/-- The type of a field that refers: by what it refers to. -/
theorem ref_kind {s : Sc} (h : checkT s = 0) {m : Ms} (hm : m ∈ s.msgs) {f : Fd} (hf : f ∈ m.fields) : (f.ty = 14 → f.ref ∈ eNames s) ∧ (f.ty = 15 → f.ref ∈ mNames s) := by
 have h8 := (check_parts h).2.2.2.2.2.2.2
 unfold refsT refsM at h8
 rw [List.any_eq_false] at h8
 have h9 := h8 m hm
 simp only [Bool.not_eq_true] at h9
 rw [List.any_eq_false] at h9
 have h10 := h9 f hf
 simp only [Bool.not_eq_true] at h10
 unfold refF at h10
 rw [Bool.or_eq_false_iff, Bool.and_eq_false_iff, Bool.and_eq_false_iff, decide_eq_false_iff_not, decide_eq_false_iff_not, decide_eq_false_iff_not, decide_eq_false_iff_not] at h10
 constructor
 ·intro ht
  rcases h10.1 with e | e
  ·exact absurd ht e
  ·unfold enumT at e
   rw [placeT_neg, Decidable.not_not] at e
   exact e
 ·intro ht
  rcases h10.2 with e | e
  ·exact absurd ht e
  ·unfold messageT at e
   rw [placeT_neg, Decidable.not_not] at e
   exact e
theorem names_apart {s : Sc} (h : checkT s = 0) {t : List UInt8} (h1 : t ∈ eNames s) (h2 : t ∈ mNames s) : False := by
 have h5 := (check_parts h).2.2.2.2.1
 unfold twiceT at h5
 simp only [Bool.or_eq_false_iff, Bool.not_eq_false'] at h5
 have hn := (onceB_iff _).mp h5.2
 rw [List.nodup_append] at hn
 exact hn.2.2 t h1 t h2 rfl
end Go.Proofs.YtcjjphioeneiiaaGreatDoor

/- Layer 18 in plain words (no program here): the tokens of a schema's text. Conditions: those that each theorem names. -/
namespace Go.Proofs.YtcjjphioeneiiaaGreatDoor
open Go.RowKit
set_option linter.unusedVariables false

theorem reads_as {t t' : List UInt8} {ks ks' : List Tk} (h : Reads t ks) (e : t' = t) (e2 : ks' = ks) : Reads t' ks' := by subst e e2; exact h
theorem char_name {c : UInt8} (h : charB c = true) : nameCh c = true := by
 unfold charB at h
 unfold nameCh digitB
 rw [Bool.or_assoc] at h
 exact h
theorem name_wordish {t : List UInt8} (h : nameB t = true) : wordish t = true := by
 have hc := name_chars h
 cases t with
 | nil => exact absurd rfl (name_some h)
 | cons c r =>
   have hl : letterB c = true := by
    unfold nameB at h
    simp only [Bool.and_eq_true] at h
    exact h.1.1.2
   show (letterB c && r.all nameCh) = true
   rw [hl, Bool.true_and, List.all_eq_true]
   exact fun x hx => char_name (hc x (List.mem_cons_of_mem _ hx))
theorem type_wordish {ty : Int} (h1 : 1 ≤ ty) (h2 : ty ≤ 13) : wordish (wordT ty) = true := by
 have h : ty = 1 ∨ ty = 2 ∨ ty = 3 ∨ ty = 4 ∨ ty = 5 ∨ ty = 6 ∨ ty = 7 ∨ ty = 8 ∨ ty = 9 ∨ ty = 10 ∨ ty = 11 ∨ ty = 12 ∨ ty = 13 := by omega
 rcases h with rfl | rfl | rfl | rfl | rfl | rfl | rfl | rfl | rfl | rfl | rfl | rfl | rfl <;> decide +kernel
theorem tyW_wordish {f : Fd} (h : FdGood f) : wordish (tyW f) = true := by
 rcases tyW_cases h with ⟨h1, h2, _, e⟩ | ⟨_, h2, e⟩
 ·rw [e]; exact type_wordish h1 h2
 ·rw [e]; exact name_wordish h2
theorem reads_name {t : List UInt8} (h : wordish t = true) : Reads (t ++ [32]) [nameTk t] := reads_word h (by decide) [] reads_sp
theorem reads_dig {n : Int} (h0 : 0 ≤ n) (h1 : Int64 n) {d : UInt8} (hd : digitB d = false) (hm : markB d = true) : Reads (digT n ++ [d]) [numTk n.toNat, markTk d] := by
 have e : digT n = digitsT n.toNat false := by unfold digT; rw [if_neg (by omega)]
 rw [e]
 unfold Int64 at h1
 exact reads_num (by omega) hd _ (reads_mark hm)
def enumW : List UInt8 := [101, 110, 117, 109]
def msgW : List UInt8 := [109, 101, 115, 115, 97, 103, 101]
def toksV (v : Vl) : List Tk := [nameTk v.name, markTk 61, numTk v.num.toNat, markTk 59]
def toksE (e : En) : List Tk := [nameTk enumW, nameTk e.name, markTk 123] ++ e.values.flatMap toksV ++ [markTk 125]
def toksO (f : Fd) : List Tk := if f.one = [] then [] else [nameTk oneofW, nameTk f.one]
def toksR (f : Fd) : List Tk := if f.loose = true then [nameTk looseW] else if f.rep = true then [nameTk repW] else []
def toksF (f : Fd) : List Tk := toksO f ++ toksR f ++ [nameTk (tyW f), nameTk f.name, markTk 61, numTk f.num.toNat, markTk 59]
def toksT (l : List Int) : List Tk := l.flatMap (fun n => [markTk 44, numTk n.toNat])
def toksB : List Int → List Tk
 | [] => []
 | a :: r => [nameTk resW, numTk a.toNat] ++ toksT r ++ [markTk 59]
def toksM (m : Ms) : List Tk := [nameTk msgW, nameTk m.name, markTk 123] ++ toksB m.barred ++ m.fields.flatMap toksF ++ [markTk 125]
theorem reads_value {v : Vl} (h : nameB v.name = true ∧ 0 ≤ v.num) (hi : Int64 v.num) : Reads (valLine v) (toksV v) :=
 reads_as (reads_then reads_sp (reads_then reads_sp (reads_then (reads_name (name_wordish h.1)) (reads_then (reads_mark (c := 61) (by decide)) (reads_then reads_sp (reads_then (reads_dig h.2 hi (d := 59) (by decide) (by decide)) reads_lf))))))
  (by unfold valLine; simp) (by unfold toksV; simp)
theorem reads_enum {e : En} (h : EnGood e) (hi : ∀ v ∈ e.values, Int64 v.num) : Reads (enumText e) (toksE e) :=
 reads_as (reads_then (reads_name (t := enumW) (by decide)) (reads_then (reads_name (name_wordish h.1)) (reads_then (reads_mark (c := 123) (by decide)) (reads_then reads_lf (reads_then (reads_flat (f := valLine) (g := toksV) (fun v hv => reads_value (h.2 v hv) (hi v hv))) (reads_then (reads_mark (c := 125) (by decide)) reads_lf))))))
  (by unfold enumText enumHead enumW; simp) (by unfold toksE; simp)
theorem reads_bars : ∀ {l : List Int} {a : Int}, 0 ≤ a → Int64 a → (∀ n ∈ l, 0 ≤ n ∧ Int64 n) → Reads (digT a ++ tailT l ++ [59]) ([numTk a.toNat] ++ toksT l ++ [markTk 59])
 | [], a, h0, h1, _ => reads_as (reads_dig h0 h1 (d := 59) (by decide) (by decide)) (by unfold tailT; simp) (by unfold toksT; simp)
 | b :: l, a, h0, h1, hl => by
   have hb := hl b List.mem_cons_self
   exact reads_as (reads_then (reads_dig h0 h1 (d := 44) (by decide) (by decide)) (reads_then reads_sp (reads_bars hb.1 hb.2 (fun n hn => hl n (List.mem_cons_of_mem _ hn)))))
    (by unfold tailT; simp) (by unfold toksT; simp)
theorem reads_res {l : List Int} (hl : ∀ n ∈ l, 0 ≤ n ∧ Int64 n) : Reads (resLine l) (toksB l) := by
 cases l with
 | nil => exact reads_nil
 | cons a r =>
   have ha := hl a List.mem_cons_self
   exact reads_as (reads_then reads_sp (reads_then reads_sp (reads_then (reads_name (t := resW) (by decide)) (reads_then (reads_bars ha.1 ha.2 (fun n hn => hl n (List.mem_cons_of_mem _ hn))) reads_lf))))
    (by unfold resLine resHead barT resW tailT; simp) (by unfold toksB; simp)
theorem reads_field {f : Fd} (h : FdGood f) (hi : Int64 f.num) : Reads (fieldLine f) (toksF f) := by
 obtain ⟨a1, a2, _, a4, _, _, a7, _⟩ := fcheck_ok h
 have hn := fieldB_in a4
 have ho : Reads (oneofT f) (toksO f) := by
  unfold oneofT toksO
  by_cases h1 : f.one = []
  ·rw [if_pos h1, if_pos h1]; exact reads_nil
  ·rw [if_neg h1, if_neg h1]
   exact reads_as (reads_then (reads_name (t := oneofW) (by decide)) (reads_name (name_wordish (a2.resolve_left h1)))) (by unfold oneofW; simp) (by simp)
 have hr : Reads (if f.loose = true then looseW ++ [32] else if f.rep = true then repW ++ [32] else []) (toksR f) := by
  unfold toksR
  split
  ·exact reads_name (by decide)
  ·split
   ·exact reads_name (by decide)
   ·exact reads_nil
 exact reads_as (reads_then reads_sp (reads_then reads_sp (reads_then ho (reads_then hr (reads_then (reads_name (tyW_wordish h)) (reads_then (reads_name (name_wordish a1)) (reads_then (reads_mark (c := 61) (by decide)) (reads_then reads_sp (reads_then (reads_dig (by omega) hi (d := 59) (by decide) (by decide)) reads_lf)))))))))
  (by unfold fieldLine; rw [ftext_form h]; unfold fdTail; simp) (by unfold toksF; simp)
theorem reads_msg {m : Ms} (h : MsGood m) (hi : (∀ n ∈ m.barred, Int64 n) ∧ ∀ f ∈ m.fields, Int64 f.num) : Reads (msgText m) (toksM m) :=
 reads_as (reads_then (reads_name (t := msgW) (by decide)) (reads_then (reads_name (name_wordish h.1)) (reads_then (reads_mark (c := 123) (by decide)) (reads_then reads_lf (reads_then (reads_res (fun n hn => ⟨h.2.1 n hn, hi.1 n hn⟩)) (reads_then (reads_flat (f := fieldLine) (g := toksF) (fun f hf => reads_field (h.2.2 f hf) (hi.2 f hf))) (reads_then (reads_mark (c := 125) (by decide)) reads_lf)))))))
  (by unfold msgText msgHead msgW; simp) (by unfold toksM; simp)
/-- All of a schema's text. -/
def toksS (s : Sc) : List Tk := s.enums.flatMap toksE ++ s.msgs.flatMap toksM
theorem reads_sch {s : Sc} (h : checkT s = 0) (hi : ScOk s) : Reads (schText s) (toksS s) := by
 obtain ⟨g1, g2⟩ := good_of h
 unfold schText
 rw [if_pos h]
 exact reads_then (reads_flat (f := enumText) (g := toksE) (fun e he => reads_enum (g1 e he) (fun v hv => ((hi.2.2.1 e he).2.2 v hv).1))) (reads_flat (f := msgText) (g := toksM) (fun m hm => reads_msg (g2 m hm) ⟨(hi.2.2.2 m hm).2.2.2.2, fun f hf => ((hi.2.2.2 m hm).2.2.2.1 f hf).1⟩))
end Go.Proofs.YtcjjphioeneiiaaGreatDoor

/- Layer 18 in plain words (no program here): what the reader makes of tokens; a schema's tokens are read as it, but for its types. Conditions: those that each theorem names. -/
namespace Go.Proofs.YtcjjphioeneiiaaGreatDoor
open Go.RowKit
set_option linter.unusedVariables false

def valsP (l : List Tk) : Nat → Ps → List Vl × Ps
 | 0, p => ([], p)
 | f + 1, p => if p.at_bad = true then ([], p) else if isP l p [125] = true then ([], nextP p) else
     (⟨(nameP l p).1, ((numP l (needP l (nameP l p).2 [61])).1 : Int)⟩ :: (valsP l f (needP l (numP l (needP l (nameP l p).2 [61])).2 [59])).1, (valsP l f (needP l (numP l (needP l (nameP l p).2 [61])).2 [59])).2)
def enumP (l : List Tk) (p : Ps) : En × Ps := (⟨(nameP l p).1, (valsP l (l.length + 1) (needP l (nameP l p).2 [123])).1⟩, (valsP l (l.length + 1) (needP l (nameP l p).2 [123])).2)
def oneP (l : List Tk) (p : Ps) : List UInt8 × Ps := if isP l p oneofW = true then nameP l (nextP p) else ([], p)
def repP (l : List Tk) (p : Ps) : Bool := isP l p repW
def looP (l : List Tk) (p : Ps) : Bool := !isP l p repW && isP l p looseW
def waysP (l : List Tk) (p : Ps) : Ps := if (repP l p || looP l p) = true then nextP p else p
def restP (l : List Tk) (p : Ps) : (List UInt8 × List UInt8 × Nat) × Ps :=
 (((nameP l p).1, (nameP l (nameP l p).2).1, (numP l (needP l (nameP l (nameP l p).2).2 [61])).1), needP l (numP l (needP l (nameP l (nameP l p).2).2 [61])).2 [59])
def fieldP (l : List Tk) (p : Ps) : Fd × Ps :=
 (⟨(restP l (waysP l (oneP l p).2)).1.2.1, ((restP l (waysP l (oneP l p).2)).1.2.2 : Int), 0, (restP l (waysP l (oneP l p).2)).1.1, repP l (oneP l p).2 || looP l (oneP l p).2, looP l (oneP l p).2, (oneP l p).1⟩, (restP l (waysP l (oneP l p).2)).2)
def numsP (l : List Tk) : Nat → Ps → List Int × Ps
 | 0, p => ([], p)
 | f + 1, p => if isP l p [44] = true then (((numP l (nextP p)).1 : Int) :: (numsP l f (numP l (nextP p)).2).1, (numsP l f (numP l (nextP p)).2).2) else ([], p)
/-- A line of barred numbers, behind its word. -/
def barsP (l : List Tk) (p : Ps) : List Int × Ps := (((numP l p).1 : Int) :: (numsP l (l.length + 1) (numP l p).2).1, needP l (numsP l (l.length + 1) (numP l p).2).2 [59])
def linesP (l : List Tk) : Nat → Ps → (List Fd × List Int) × Ps
 | 0, p => (([], []), p)
 | f + 1, p => if p.at_bad = true then (([], []), p) else if isP l p [125] = true then (([], []), nextP p)
     else if isP l p resW = true then (((linesP l f (barsP l (nextP p)).2).1.1, (barsP l (nextP p)).1 ++ (linesP l f (barsP l (nextP p)).2).1.2), (linesP l f (barsP l (nextP p)).2).2)
     else (((fieldP l p).1 :: (linesP l f (fieldP l p).2).1.1, (linesP l f (fieldP l p).2).1.2), (linesP l f (fieldP l p).2).2)
def msgP (l : List Tk) (p : Ps) : Ms × Ps := (⟨(nameP l p).1, (linesP l (l.length + 1) (needP l (nameP l p).2 [123])).1.1, (linesP l (l.length + 1) (needP l (nameP l p).2 [123])).1.2⟩, (linesP l (l.length + 1) (needP l (nameP l p).2 [123])).2)
def partsP (l : List Tk) : Nat → Ps → (List En × List Ms) × Ps
 | 0, p => (([], []), p)
 | f + 1, p => if (p.at_bad || decide ((tokOf l p.at_i).kind = 0)) = true then (([], []), p)
     else if isP l p enumW = true then (((enumP l (nextP p)).1 :: (partsP l f (enumP l (nextP p)).2).1.1, (partsP l f (enumP l (nextP p)).2).1.2), (partsP l f (enumP l (nextP p)).2).2)
     else if isP l p msgW = true then (((partsP l f (msgP l (nextP p)).2).1.1, (msgP l (nextP p)).1 :: (partsP l f (msgP l (nextP p)).2).1.2), (partsP l f (msgP l (nextP p)).2).2)
     else (([], []), wrongP p)

/-! ### What stands there -/
/-- These tokens stand at a place, wherever they stood in the text. -/
def Stands (l : List Tk) (i : Nat) (ks : List Tk) : Prop := ∃ r, (l.drop i).map bare = ks.map bare ++ r
theorem stands_split {l : List Tk} {i : Nat} {a b : List Tk} (h : Stands l i (a ++ b)) : Stands l i a ∧ Stands l (i + a.length) b := by
 obtain ⟨r, h⟩ := h
 rw [List.map_append, List.append_assoc] at h
 refine ⟨⟨_, h⟩, r, ?_⟩
 have h2 := congrArg (List.drop a.length) h
 rw [← List.map_drop, List.drop_drop, List.drop_left' (by simp)] at h2
 exact h2
structure Tok (l : List Tk) (i : Nat) (x : Tk) : Prop where
 tk_lt : i < l.length
 tk_kind : (tokOf l i).kind = x.kind
 tk_s : (tokOf l i).s = x.s
 tk_n : (tokOf l i).n = x.n
 tk_neg : (tokOf l i).neg = x.neg
theorem stands_head {l : List Tk} {i : Nat} {x : Tk} {ks : List Tk} (h : Stands l i (x :: ks)) : Tok l i x ∧ Stands l (i + 1) ks := by
 obtain ⟨h1, h2⟩ := stands_split (a := [x]) h
 refine ⟨?_, h2⟩
 obtain ⟨r, h1⟩ := h1
 have hl : i < l.length := by
  have := congrArg List.length h1
  simp at this
  omega
 rw [List.drop_eq_getElem_cons hl, List.map_cons, List.map_cons, List.cons_append] at h1
 injection h1 with h1 _
 have ht : tokOf l i = l[i] := by unfold tokOf; rw [List.getElem?_eq_getElem hl]; rfl
 unfold bare tkAt at h1
 injection h1 with e1 e2 e3 e4 e5
 exact ⟨hl, by rw [ht]; exact e1, by rw [ht]; exact e2, by rw [ht]; exact e3, by rw [ht]; exact e4⟩
section
variable {l : List Tk} {i : Nat}
theorem is_name {t : List UInt8} (h : Tok l i (nameTk t)) (u : List UInt8) : isP l ⟨i, false⟩ u = decide (t = u) := by
 unfold isP
 rw [h.tk_kind, h.tk_s]
 simp only [nameTk]
 first | rfl | (simp; done) | (simp; congr)
theorem is_mark {c : UInt8} (h : Tok l i (markTk c)) (u : List UInt8) : isP l ⟨i, false⟩ u = decide ([c] = u) := by
 unfold isP
 rw [h.tk_kind, h.tk_s]
 simp only [markTk]
 first | rfl | (simp; done) | (simp; congr)
theorem name_read {t : List UInt8} (h : Tok l i (nameTk t)) : nameP l ⟨i, false⟩ = (t, ⟨i + 1, false⟩) := by
 unfold nameP noName
 rw [h.tk_kind, h.tk_s]
 simp [nameTk, nextP]
theorem num_read {n : Nat} (h : Tok l i (numTk n)) (hn : n ≤ 1073741824) : numP l ⟨i, false⟩ = (n, ⟨i + 1, false⟩) := by
 have hc : noNum l ⟨i, false⟩ = false := by
  unfold noNum
  rw [h.tk_kind, h.tk_n, h.tk_neg]
  show (((false || decide ((2 : Int) ≠ 2)) || false) || decide (1073741824 < n)) = false
  rw [decide_eq_false (by omega : ¬ 1073741824 < n)]
  rfl
 unfold numP
 rw [hc, if_neg (by decide), h.tk_n]
 rfl
theorem need_mark {c : UInt8} (h : Tok l i (markTk c)) : needP l ⟨i, false⟩ [c] = ⟨i + 1, false⟩ := by
 unfold needP
 rw [is_mark h, if_pos (decide_eq_true rfl)]
 rfl
end
def numIn (n : Int) : Prop := 0 ≤ n ∧ n ≤ 1073741824
theorem vals_back {l : List Tk} : ∀ (vs : List Vl) (f i : Nat), vs.length < f → (∀ v ∈ vs, numIn v.num) → (∀ v ∈ vs, v.name ≠ [125]) → Stands l i (vs.flatMap toksV ++ [markTk 125]) → valsP l f ⟨i, false⟩ = (vs, ⟨i + (vs.flatMap toksV).length + 1, false⟩)
 | [], f, i, hf, _, _, h => by
   obtain ⟨g, rfl⟩ : ∃ g, f = g + 1 := ⟨f - 1, by simp at hf; omega⟩
   have h1 := (stands_head (ks := []) h).1
   rw [valsP, if_neg (by simp), is_mark h1, if_pos (decide_eq_true rfl)]
   simp [nextP]
 | v :: vs, f, i, hf, hn, hm, h => by
   obtain ⟨g, rfl⟩ : ∃ g, f = g + 1 := ⟨f - 1, by simp at hf; omega⟩
   have hv := hn v List.mem_cons_self
   rw [List.flatMap_cons, List.append_assoc] at h
   obtain ⟨h0, h⟩ := stands_split h
   obtain ⟨t1, h0⟩ := stands_head h0
   obtain ⟨t2, h0⟩ := stands_head h0
   obtain ⟨t3, h0⟩ := stands_head h0
   obtain ⟨t4, _⟩ := stands_head h0
   have hb := vals_back vs g (i + 4) (by simp at hf; omega) (fun u hu => hn u (List.mem_cons_of_mem _ hu)) (fun u hu => hm u (List.mem_cons_of_mem _ hu)) h
   rw [valsP, if_neg (by simp), is_name t1, if_neg (by rw [decide_eq_false (hm v List.mem_cons_self)]; decide), name_read t1]
   dsimp only
   rw [need_mark t2, num_read t3 (by have := hv.1; have := hv.2; omega)]
   dsimp only
   rw [need_mark t4, hb]
   have e : ((v.num.toNat : Nat) : Int) = v.num := by have := hv.1; omega
   rw [e, List.flatMap_cons, List.length_append]
   have e9 : i + 4 + (vs.flatMap toksV).length + 1 = i + ((toksV v).length + (vs.flatMap toksV).length) + 1 := by
    show i + 4 + (vs.flatMap toksV).length + 1 = i + (4 + (vs.flatMap toksV).length) + 1
    omega
   rw [← e9]
theorem enum_back {l : List Tk} {e : En} {i : Nat} (hf : e.values.length ≤ l.length) (hn : ∀ v ∈ e.values, numIn v.num) (hm : ∀ v ∈ e.values, v.name ≠ [125]) (h : Stands l i ([nameTk e.name, markTk 123] ++ e.values.flatMap toksV ++ [markTk 125])) : enumP l ⟨i, false⟩ = (e, ⟨i + 2 + (e.values.flatMap toksV).length + 1, false⟩) := by
 rw [List.append_assoc] at h
 obtain ⟨h0, h⟩ := stands_split h
 obtain ⟨t1, h0⟩ := stands_head h0
 obtain ⟨t2, _⟩ := stands_head h0
 unfold enumP
 rw [name_read t1]
 dsimp only
 rw [need_mark t2, vals_back e.values (l.length + 1) (i + 1 + 1) (by omega) hn hm h]
/-- A field as it is read: its type as a name, no type yet. -/
def rawF (f : Fd) : Fd := { f with ty := 0, ref := tyW f }
theorem rest_back {l : List Tk} {i : Nat} {a b : List UInt8} {n : Nat} (hn : n ≤ 1073741824) (h : Stands l i [nameTk a, nameTk b, markTk 61, numTk n, markTk 59]) : restP l ⟨i, false⟩ = ((a, b, n), ⟨i + 5, false⟩) := by
 obtain ⟨t1, h⟩ := stands_head h
 obtain ⟨t2, h⟩ := stands_head h
 obtain ⟨t3, h⟩ := stands_head h
 obtain ⟨t4, h⟩ := stands_head h
 obtain ⟨t5, _⟩ := stands_head h
 unfold restP
 rw [name_read t1]
 dsimp only
 rw [name_read t2]
 dsimp only
 rw [need_mark t3, num_read t4 hn]
 dsimp only
 rw [need_mark t5]
theorem field_back {l : List Tk} {i : Nat} {f : Fd} (hg : FdGood f) (hn : numIn f.num) (h : Stands l i (toksF f)) : fieldP l ⟨i, false⟩ = (rawF f, ⟨i + (toksF f).length, false⟩) := by
 obtain ⟨n1, n2, n3, n4, n5⟩ := tyW_not hg
 obtain ⟨_, _, _, _, _, _, a7, a8⟩ := fcheck_ok hg
 unfold toksF at h
 rw [List.append_assoc] at h
 obtain ⟨h0, h⟩ := stands_split h
 obtain ⟨h1, h2⟩ := stands_split h
 have hr := rest_back (by have := hn.1; have := hn.2; omega) h2
 -- the word that stands first behind the oneof
 have hty : ∃ t, Tok l (i + (toksO f).length) (nameTk t) ∧ ((f.loose = true ∧ t = looseW) ∨ (f.loose = false ∧ f.rep = true ∧ t = repW) ∨ (f.loose = false ∧ f.rep = false ∧ t = tyW f)) := by
  unfold toksR at h1 h2
  cases hl : f.loose with
  | true => rw [hl, if_pos rfl] at h1; exact ⟨_, (stands_head h1).1, .inl ⟨rfl, rfl⟩⟩
  | false =>
    rw [hl, if_neg (by decide)] at h1 h2
    cases hp : f.rep with
    | true => rw [hp, if_pos rfl] at h1; exact ⟨_, (stands_head h1).1, .inr (.inl ⟨rfl, rfl, rfl⟩)⟩
    | false => rw [hp, if_neg (by decide)] at h2; exact ⟨_, (stands_head h2).1, .inr (.inr ⟨rfl, rfl, rfl⟩)⟩
 obtain ⟨t, tt, hways⟩ := hty
 have hone : oneP l ⟨i, false⟩ = (f.one, ⟨i + (toksO f).length, false⟩) := by
  unfold oneP
  unfold toksO at h0
  by_cases ho : f.one = []
  ·have e0 : toksO f = [] := by unfold toksO; rw [if_pos ho]
   rw [e0, List.length_nil, Nat.add_zero] at tt
   rw [e0, List.length_nil, Nat.add_zero]
   have hne : t ≠ oneofW := by
    rcases hways with ⟨_, rfl⟩ | ⟨_, _, rfl⟩ | ⟨_, _, rfl⟩
    ·decide
    ·decide
    ·exact n2
   rw [is_name tt, if_neg (by rw [decide_eq_false hne]; decide), ho]
  ·rw [if_neg ho] at h0
   obtain ⟨u1, h0⟩ := stands_head h0
   obtain ⟨u2, _⟩ := stands_head h0
   have e0 : toksO f = [nameTk oneofW, nameTk f.one] := by unfold toksO; rw [if_neg ho]
   rw [is_name u1, if_pos (decide_eq_true rfl), e0]
   show nameP l ⟨i + 1, false⟩ = _
   rw [name_read u2]
   rfl
 have hrp : repP l ⟨i + (toksO f).length, false⟩ = (f.rep && !f.loose) ∧ looP l ⟨i + (toksO f).length, false⟩ = f.loose ∧ waysP l ⟨i + (toksO f).length, false⟩ = ⟨i + (toksO f).length + (toksR f).length, false⟩ := by
  unfold waysP looP repP
  rw [is_name tt, is_name tt]
  rcases hways with ⟨e1, rfl⟩ | ⟨e1, e2, rfl⟩ | ⟨e1, e2, rfl⟩
  ·have e3 : f.rep = true := by rcases a8 with a8 | a8; rw [e1] at a8; cases a8; exact a8.1
   have er : toksR f = [nameTk looseW] := by unfold toksR; rw [if_pos e1]
   rw [e1, e3, er]
   exact ⟨by decide, by decide, by rw [if_pos (by decide)]; rfl⟩
  ·have er : toksR f = [nameTk repW] := by unfold toksR; rw [if_neg (by rw [e1]; decide), if_pos e2]
   rw [e1, e2, er]
   exact ⟨by decide, by decide, by rw [if_pos (by decide)]; rfl⟩
  ·have er : toksR f = [] := by unfold toksR; rw [if_neg (by rw [e1]; decide), if_neg (by rw [e2]; decide)]
   rw [e1, e2, er, decide_eq_false n4, decide_eq_false n3]
   exact ⟨rfl, rfl, rfl⟩
 obtain ⟨p1, p2, p3⟩ := hrp
 unfold fieldP
 rw [hone]
 dsimp only
 rw [p1, p2, p3, hr]
 dsimp only
 have e : ((f.num.toNat : Nat) : Int) = f.num := by have := hn.1; omega
 have e2 : (f.rep && !f.loose || f.loose) = f.rep := by
  rcases a8 with a8 | a8
  ·rw [a8]; simp
  ·rw [a8.1]; cases f.loose <;> rfl
 rw [e, e2]
 unfold rawF toksF
 congr 2
 simp
 omega
theorem nums_back {l : List Tk} : ∀ (ns : List Int) (f i : Nat), ns.length < f → (∀ n ∈ ns, numIn n) → Stands l i (toksT ns ++ [markTk 59]) → numsP l f ⟨i, false⟩ = (ns, ⟨i + (toksT ns).length, false⟩) ∧ Tok l (i + (toksT ns).length) (markTk 59)
 | [], f, i, hf, _, h => by
   obtain ⟨g, rfl⟩ : ∃ g, f = g + 1 := ⟨f - 1, by simp at hf; omega⟩
   have h1 := (stands_head (ks := []) h).1
   refine ⟨?_, h1⟩
   rw [numsP, is_mark h1, if_neg (by decide)]
   rfl
 | n :: ns, f, i, hf, hn, h => by
   obtain ⟨g, rfl⟩ : ∃ g, f = g + 1 := ⟨f - 1, by simp at hf; omega⟩
   have hv := hn n List.mem_cons_self
   have ht : toksT (n :: ns) = [markTk 44, numTk n.toNat] ++ toksT ns := by unfold toksT; rw [List.flatMap_cons]
   rw [ht, List.append_assoc] at h
   obtain ⟨h0, h⟩ := stands_split h
   obtain ⟨t1, h0⟩ := stands_head h0
   obtain ⟨t2, _⟩ := stands_head h0
   obtain ⟨hb, he⟩ := nums_back ns g (i + 2) (by simp at hf; omega) (fun u hu => hn u (List.mem_cons_of_mem _ hu)) h
   have e9 : i + 2 + (toksT ns).length = i + (toksT (n :: ns)).length := by rw [ht, List.length_append]; show i + 2 + (toksT ns).length = i + (2 + (toksT ns).length); omega
   rw [e9] at he hb
   refine ⟨?_, he⟩
   rw [numsP, is_mark t1, if_pos (by decide)]
   show (((numP l ⟨i + 1, false⟩).1 : Int) :: (numsP l g (numP l ⟨i + 1, false⟩).2).1, (numsP l g (numP l ⟨i + 1, false⟩).2).2) = _
   rw [num_read t2 (by have := hv.1; have := hv.2; omega)]
   dsimp only
   rw [hb]
   have e : ((n.toNat : Nat) : Int) = n := by have := hv.1; omega
   rw [e]
theorem bars_back {l : List Tk} {a : Int} {ns : List Int} {i : Nat} (hf : ns.length ≤ l.length) (ha : numIn a) (hn : ∀ n ∈ ns, numIn n) (h : Stands l i ([numTk a.toNat] ++ toksT ns ++ [markTk 59])) : barsP l ⟨i, false⟩ = (a :: ns, ⟨i + 1 + (toksT ns).length + 1, false⟩) := by
 rw [List.append_assoc] at h
 obtain ⟨h0, h⟩ := stands_split h
 obtain ⟨t1, _⟩ := stands_head h0
 obtain ⟨hb, he⟩ := nums_back ns (l.length + 1) (i + 1) (by omega) hn h
 unfold barsP
 rw [num_read t1 (by have := ha.1; have := ha.2; omega)]
 dsimp only
 rw [hb]
 dsimp only
 rw [need_mark he]
 have e : ((a.toNat : Nat) : Int) = a := by have := ha.1; omega
 rw [e]
/-- The first token of a field is a name, and none of the words that end a message or begin a line of numbers. -/
theorem field_first {l : List Tk} {i : Nat} {f : Fd} (hg : FdGood f) {ks : List Tk} (h : Stands l i (toksF f ++ ks)) : ∃ t, Tok l i (nameTk t) ∧ t ≠ resW := by
 obtain ⟨n1, n2, n3, n4, n5⟩ := tyW_not hg
 unfold toksF toksO toksR at h
 by_cases ho : f.one = []
 ·rw [if_pos ho] at h
  cases hl : f.loose with
  | true => rw [hl, if_pos rfl] at h; exact ⟨_, (stands_head h).1, by decide⟩
  | false =>
    rw [hl, if_neg (by decide)] at h
    cases hp : f.rep with
    | true => rw [hp, if_pos rfl] at h; exact ⟨_, (stands_head h).1, by decide⟩
    | false => rw [hp, if_neg (by decide)] at h; exact ⟨_, (stands_head h).1, n5⟩
 ·rw [if_neg ho] at h
  exact ⟨_, (stands_head h).1, by decide⟩
theorem word_no_mark {t : List UInt8} {l : List Tk} {i : Nat} (h : Tok l i (nameTk t)) (hw : wordish t = true) : isP l ⟨i, false⟩ [125] = false := by
 rw [is_name h, decide_eq_false]
 intro e
 rw [e] at hw
 exact absurd hw (by decide)
theorem field_word {l : List Tk} {i : Nat} {f : Fd} (hg : FdGood f) {ks : List Tk} (h : Stands l i (toksF f ++ ks)) : isP l ⟨i, false⟩ [125] = false := by
 obtain ⟨_, a2, _⟩ := fcheck_ok hg
 unfold toksF toksO toksR at h
 by_cases ho : f.one = []
 ·rw [if_pos ho] at h
  cases hl : f.loose with
  | true => rw [hl, if_pos rfl] at h; exact word_no_mark (stands_head h).1 (by decide)
  | false =>
    rw [hl, if_neg (by decide)] at h
    cases hp : f.rep with
    | true => rw [hp, if_pos rfl] at h; exact word_no_mark (stands_head h).1 (by decide)
    | false => rw [hp, if_neg (by decide)] at h; exact word_no_mark (stands_head h).1 (tyW_wordish hg)
 ·rw [if_neg ho] at h
  exact word_no_mark (stands_head h).1 (by decide)
theorem fields_back {l : List Tk} : ∀ (fs : List Fd) (f i : Nat), fs.length < f → (∀ x ∈ fs, FdGood x ∧ numIn x.num) → Stands l i (fs.flatMap toksF ++ [markTk 125]) → linesP l f ⟨i, false⟩ = ((fs.map rawF, []), ⟨i + (fs.flatMap toksF).length + 1, false⟩)
 | [], f, i, hf, _, h => by
   obtain ⟨g, rfl⟩ : ∃ g, f = g + 1 := ⟨f - 1, by simp at hf; omega⟩
   have h1 := (stands_head (ks := []) h).1
   rw [linesP, if_neg (by simp), is_mark h1, if_pos (decide_eq_true rfl)]
   simp [nextP]
 | x :: fs, f, i, hf, hn, h => by
   obtain ⟨g, rfl⟩ : ∃ g, f = g + 1 := ⟨f - 1, by simp at hf; omega⟩
   obtain ⟨hg, hi⟩ := hn x List.mem_cons_self
   rw [List.flatMap_cons, List.append_assoc] at h
   obtain ⟨t, ht, hres⟩ := field_first hg h
   have hm := field_word hg h
   obtain ⟨h0, h⟩ := stands_split h
   have hb := fields_back fs g (i + (toksF x).length) (by simp at hf; omega) (fun u hu => hn u (List.mem_cons_of_mem _ hu)) h
   rw [linesP, if_neg (by simp), hm, if_neg (by decide), is_name ht, if_neg (by rw [decide_eq_false hres]; decide), field_back hg hi h0]
   dsimp only
   rw [hb, List.flatMap_cons, List.length_append, List.map_cons]
   have e9 : i + (toksF x).length + (fs.flatMap toksF).length + 1 = i + ((toksF x).length + (fs.flatMap toksF).length) + 1 := by omega
   rw [← e9]
theorem toks_many : ∀ fs : List Fd, fs.length ≤ (fs.flatMap toksF).length
 | [] => Nat.le_refl _
 | f :: fs => by
   have h1 := toks_many fs
   have h2 : (toksF f).length = (toksO f).length + (toksR f).length + 5 := by unfold toksF; rw [List.length_append, List.length_append]; rfl
   rw [List.flatMap_cons, List.length_append, List.length_cons]
   omega
def rawM (m : Ms) : Ms := { m with fields := m.fields.map rawF }
theorem msg_back {l : List Tk} {m : Ms} {i : Nat} (hf : m.fields.length ≤ l.length ∧ m.barred.length ≤ l.length) (hg : ∀ f ∈ m.fields, FdGood f ∧ numIn f.num) (hb : ∀ n ∈ m.barred, numIn n) (h : Stands l i ([nameTk m.name, markTk 123] ++ toksB m.barred ++ m.fields.flatMap toksF ++ [markTk 125])) :
 msgP l ⟨i, false⟩ = (rawM m, ⟨i + 2 + (toksB m.barred).length + (m.fields.flatMap toksF).length + 1, false⟩) := by
 rw [List.append_assoc, List.append_assoc] at h
 obtain ⟨h0, h⟩ := stands_split h
 obtain ⟨t1, h0⟩ := stands_head h0
 obtain ⟨t2, _⟩ := stands_head h0
 unfold msgP
 rw [name_read t1]
 dsimp only
 rw [need_mark t2]
 obtain ⟨name, fields, barred⟩ := m
 dsimp only at hf hg hb h ⊢
 cases barred with
 | nil =>
   have h' : Stands l (i + 2) (fields.flatMap toksF ++ [markTk 125]) := h
   rw [show i + 1 + 1 = i + 2 from rfl, fields_back fields (l.length + 1) (i + 2) (by omega) hg h']
   rfl
 | cons a ns =>
   have hB : toksB (a :: ns) = [nameTk resW] ++ ([numTk a.toNat] ++ toksT ns ++ [markTk 59]) := rfl
   rw [hB, List.append_assoc] at h
   obtain ⟨r0, h⟩ := stands_split h
   obtain ⟨h2, h⟩ := stands_split h
   have r1 := (stands_head r0).1
   have hbb := bars_back (by simp at hf; omega) (hb a List.mem_cons_self) (fun n hn => hb n (List.mem_cons_of_mem _ hn)) h2
   have el : ([numTk a.toNat] ++ toksT ns ++ [markTk 59]).length = 1 + (toksT ns).length + 1 := by simp; omega
   have ei : i + [nameTk name, markTk 123].length = i + 2 := rfl
   rw [ei] at r1 h hbb
   have e1 : i + 2 + [nameTk resW].length = i + 3 := rfl
   rw [e1] at h hbb
   rw [el] at h
   have h9 : Stands l (i + 3 + 1 + (toksT ns).length + 1) (fields.flatMap toksF ++ [markTk 125]) := by
    have e2 : i + 3 + (1 + (toksT ns).length + 1) = i + 3 + 1 + (toksT ns).length + 1 := by omega
    rw [e2] at h
    exact h
   rw [show i + 1 + 1 = i + 2 from rfl, linesP, if_neg (by simp), word_no_mark r1 (by decide), if_neg (by decide), is_name r1, if_pos (by decide)]
   show ((⟨name, (linesP l l.length (barsP l ⟨i + 3, false⟩).2).1.1, (barsP l ⟨i + 3, false⟩).1 ++ (linesP l l.length (barsP l ⟨i + 3, false⟩).2).1.2⟩ : Ms), (linesP l l.length (barsP l ⟨i + 3, false⟩).2).2) = _
   have hlen : fields.length < l.length := by
    obtain ⟨r, hr⟩ := id h9
    have := congrArg List.length hr
    simp at this
    have hfl := toks_many fields
    simp at hfl
    omega
   rw [hbb]
   dsimp only
   rw [fields_back fields l.length _ hlen hg h9]
   dsimp only
   rw [List.append_nil]
   unfold rawM
   dsimp only
   rw [hB, List.length_append, el]
   have e3 : i + 3 + 1 + (toksT ns).length + 1 + (fields.flatMap toksF).length + 1 = i + 2 + ([nameTk resW].length + (1 + (toksT ns).length + 1)) + (fields.flatMap toksF).length + 1 := by
    show _ = i + 2 + (1 + (1 + (toksT ns).length + 1)) + (fields.flatMap toksF).length + 1
    omega
   rw [e3]
end Go.Proofs.YtcjjphioeneiiaaGreatDoor

/- The document's layer 18: what stands when its reader has moved beside a box of the call's own; a field is read. Conditions: those that each theorem names. -/
namespace Go.Proofs.YtcjjphioeneiiaaGreatDoor
open Go.RowKit
set_option linter.unusedVariables false
set_option maxRecDepth 100000

theorem tok_kind_next {l : List Tk} {i : Nat} (hE : EndOk l) (hi : i < l.length) (h : (tokOf l i).kind ≠ 0) : i + 1 < l.length := by
 have e := List.getElem?_eq_getElem hi
 refine hE _ _ e fun h0 => h ?_
 unfold tokOf
 rw [e]
 exact h0
theorem need_in {l : List Tk} {x : Ps} (hE : EndOk l) (h : x.at_i < l.length) (t : List UInt8) : (needP l x t).at_i < l.length := by
 unfold needP
 split
 ·rename_i e; exact isP_next hE h e
 ·exact h
theorem name_in {l : List Tk} {x : Ps} (hE : EndOk l) (h : x.at_i < l.length) : (nameP l x).2.at_i < l.length := by
 unfold nameP
 split
 ·exact h
 ·rename_i e
  refine tok_kind_next hE h fun h0 => e ?_
  unfold noName
  rw [h0]
  simp
theorem num_in {l : List Tk} {x : Ps} (hE : EndOk l) (h : x.at_i < l.length) : (numP l x).2.at_i < l.length := by
 unfold numP
 split
 ·exact h
 ·rename_i e
  refine tok_kind_next hE h fun h0 => e ?_
  unfold noNum
  rw [h0]
  simp
section
variable {w wr w' : World} {p b0 b cap : Nat} {A : Option Addr} {l : List Tk} {x x' : Ps} {t : TypeId} {z cs : Array Value}
end

theorem up1 (w : World) (o : Obj) : Below w.heap.size w (w.alloc o) := (Below.refl _ w).alloc (Nat.le_refl _) _
end Go.Proofs.YtcjjphioeneiiaaGreatDoor

/- Layer 18 in plain words (no program here): types, order, the whole reading; a schema's text is read as it. Conditions: those that each theorem names. -/
namespace Go.Proofs.YtcjjphioeneiiaaGreatDoor
open Go.RowKit
set_option linter.unusedVariables false

def endTk (k : Nat) : Tk := ⟨0, [], 0, false, k⟩
theorem stands_len {l : List Tk} {i : Nat} {ks : List Tk} (h : Stands l i ks) : ks.length ≤ l.length - i := by
 obtain ⟨r, h⟩ := h
 have := congrArg List.length h
 simp at this
 omega
theorem is_end {l : List Tk} {i k : Nat} (h : Stands l i [endTk k]) : (tokOf l i).kind = 0 := (stands_head h).1.tk_kind
def MsIn (m : Ms) : Prop := (∀ f ∈ m.fields, FdGood f ∧ numIn f.num) ∧ ∀ n ∈ m.barred, numIn n
def EnIn (e : En) : Prop := (∀ v ∈ e.values, numIn v.num) ∧ ∀ v ∈ e.values, v.name ≠ [125]
theorem flat_many {α β : Type} {f : α → List β} (hf : ∀ x, 1 ≤ (f x).length) : ∀ l : List α, l.length ≤ (l.flatMap f).length
 | [] => Nat.le_refl _
 | x :: l => by
   have h1 := flat_many hf l
   have h2 := hf x
   rw [List.flatMap_cons, List.length_append, List.length_cons]
   omega
theorem toksT_len (l : List Int) : l.length ≤ (toksT l).length := flat_many (f := fun n : Int => [markTk 44, numTk n.toNat]) (fun _ => by simp) l
theorem toksB_len (l : List Int) : l.length ≤ (toksB l).length := by
 cases l with
 | nil => exact Nat.le_refl _
 | cons a r =>
   have := toksT_len r
   unfold toksB
   simp
   omega
theorem parts_msgs {l : List Tk} {k : Nat} : ∀ (ms : List Ms) (f i : Nat), ms.length < f → (∀ m ∈ ms, MsIn m) → Stands l i (ms.flatMap toksM ++ [endTk k]) → partsP l f ⟨i, false⟩ = (([], ms.map rawM), ⟨i + (ms.flatMap toksM).length, false⟩)
 | [], f, i, hf, _, h => by
   obtain ⟨g, rfl⟩ : ∃ g, f = g + 1 := ⟨f - 1, by simp at hf; omega⟩
   have h0 := is_end (k := k) h
   rw [partsP]
   dsimp only
   rw [h0, if_pos (by decide)]
   rfl
 | m :: ms, f, i, hf, hm, h => by
   obtain ⟨g, rfl⟩ : ∃ g, f = g + 1 := ⟨f - 1, by simp at hf; omega⟩
   rw [List.flatMap_cons, List.append_assoc] at h
   obtain ⟨h0, h⟩ := stands_split h
   have e0 : toksM m = nameTk msgW :: ([nameTk m.name, markTk 123] ++ toksB m.barred ++ m.fields.flatMap toksF ++ [markTk 125]) := rfl
   rw [e0] at h0
   have hlen := stands_len h0
   obtain ⟨t1, h1⟩ := stands_head h0
   have hk : (tokOf l i).kind = 1 := t1.tk_kind
   have hn1 := toks_many m.fields
   have hn2 := toksB_len m.barred
   rw [List.length_cons, List.length_append, List.length_append, List.length_append] at hlen
   have hb := msg_back (m := m) ⟨by omega, by omega⟩ (hm m List.mem_cons_self).1 (hm m List.mem_cons_self).2 h1
   have hr := parts_msgs ms g (i + (toksM m).length) (by simp at hf; omega) (fun x hx => hm x (List.mem_cons_of_mem _ hx)) h
   rw [partsP]
   dsimp only
   rw [hk, if_neg (by decide), is_name t1, if_neg (by decide), is_name t1, if_pos (by decide)]
   show (((partsP l g (msgP l ⟨i + 1, false⟩).2).1.1, (msgP l ⟨i + 1, false⟩).1 :: (partsP l g (msgP l ⟨i + 1, false⟩).2).1.2), (partsP l g (msgP l ⟨i + 1, false⟩).2).2) = _
   rw [hb]
   dsimp only
   have e9 : i + 1 + 2 + (toksB m.barred).length + (m.fields.flatMap toksF).length + 1 = i + (toksM m).length := by
    rw [e0, List.length_cons, List.length_append, List.length_append, List.length_append]
    show _ = i + (2 + (toksB m.barred).length + (m.fields.flatMap toksF).length + 1 + 1)
    omega
   rw [e9, hr, List.flatMap_cons, List.length_append, List.map_cons, Nat.add_assoc]
theorem parts_back {l : List Tk} {k : Nat} : ∀ (es : List En) (ms : List Ms) (f i : Nat), es.length + ms.length < f → (∀ e ∈ es, EnIn e) → (∀ m ∈ ms, MsIn m) → Stands l i (es.flatMap toksE ++ (ms.flatMap toksM ++ [endTk k])) → partsP l f ⟨i, false⟩ = ((es, ms.map rawM), ⟨i + (es.flatMap toksE).length + (ms.flatMap toksM).length, false⟩)
 | [], ms, f, i, hf, _, hm, h => by
   have := parts_msgs (k := k) ms f i (by simp at hf; omega) hm h
   rw [this]
   rfl
 | e :: es, ms, f, i, hf, he, hm, h => by
   obtain ⟨g, rfl⟩ : ∃ g, f = g + 1 := ⟨f - 1, by omega⟩
   rw [List.flatMap_cons, List.append_assoc] at h
   obtain ⟨h0, h⟩ := stands_split h
   have e0 : toksE e = nameTk enumW :: ([nameTk e.name, markTk 123] ++ e.values.flatMap toksV ++ [markTk 125]) := rfl
   rw [e0] at h0
   have hlen := stands_len h0
   obtain ⟨t1, h1⟩ := stands_head h0
   have hk : (tokOf l i).kind = 1 := t1.tk_kind
   have hn1 := flat_many (f := toksV) (fun _ => by unfold toksV; simp) e.values
   rw [List.length_cons, List.length_append, List.length_append] at hlen
   have hb := enum_back (e := e) (by omega) (he e List.mem_cons_self).1 (he e List.mem_cons_self).2 h1
   have hr := parts_back es ms g (i + (toksE e).length) (by simp at hf; omega) (fun x hx => he x (List.mem_cons_of_mem _ hx)) hm h
   rw [partsP]
   dsimp only
   rw [hk, if_neg (by decide), is_name t1, if_pos (by decide)]
   show (((enumP l ⟨i + 1, false⟩).1 :: (partsP l g (enumP l ⟨i + 1, false⟩).2).1.1, (partsP l g (enumP l ⟨i + 1, false⟩).2).1.2), (partsP l g (enumP l ⟨i + 1, false⟩).2).2) = _
   rw [hb]
   dsimp only
   have e9 : i + 1 + 2 + (e.values.flatMap toksV).length + 1 = i + (toksE e).length := by
    rw [e0, List.length_cons, List.length_append, List.length_append]
    show _ = i + (2 + (e.values.flatMap toksV).length + 1 + 1)
    omega
   rw [e9, hr, List.flatMap_cons, List.length_append]
   dsimp only
   rw [show i + (toksE e).length + (es.flatMap toksE).length = i + ((toksE e).length + (es.flatMap toksE).length) from Nat.add_assoc _ _ _]

/-! ### Types -/
def typedF (s : Sc) (f : Fd) : Fd := if ofT f.ref ≠ 0 then { f with ty := (ofT f.ref : Int), ref := [] } else { f with ty := if enumT s f.ref < 0 then 15 else 14 }
def typedM (s : Sc) (m : Ms) : Ms := { m with fields := m.fields.map (typedF s) }
def typedS (s : Sc) : Sc := { s with msgs := s.msgs.map (typedM s) }
theorem of_type {ty : Int} (h1 : 1 ≤ ty) (h2 : ty ≤ 13) : (ofT (wordT ty) : Int) = ty := by
 have h : ty = 1 ∨ ty = 2 ∨ ty = 3 ∨ ty = 4 ∨ ty = 5 ∨ ty = 6 ∨ ty = 7 ∨ ty = 8 ∨ ty = 9 ∨ ty = 10 ∨ ty = 11 ∨ ty = 12 ∨ ty = 13 := by omega
 rcases h with rfl | rfl | rfl | rfl | rfl | rfl | rfl | rfl | rfl | rfl | rfl | rfl | rfl <;> decide +kernel
theorem of_name {t : List UInt8} (h : nameB t = true) : ofT t = 0 := by
 apply Classical.byContradiction
 intro h0
 obtain ⟨h1, h2, h3⟩ := of_word t h0
 have := (wordT_mem (ty := (ofT t : Int)) (by omega) (by omega)).1
 rw [h1] at this
 exact name_word h this
theorem typed_back {s r : Sc} (hs : checkT s = 0) (hr : eNames r = eNames s) {m : Ms} (hm : m ∈ s.msgs) {f : Fd} (hf : f ∈ m.fields) (hg : FdGood f) : typedF r (rawF f) = f := by
 obtain ⟨k1, k2⟩ := ref_kind hs hm hf
 have he : enumT r f.ref = enumT s f.ref := by unfold enumT; rw [hr]
 have hp := place_neg (eNames s) f.ref
 unfold typedF rawF
 dsimp only
 rcases tyW_cases hg with ⟨h1, h2, h3, e⟩ | ⟨h1, h2, e⟩
 ·have ho := of_type h1 h2
  rw [e, if_pos (by omega), ho]
  cases f
  dsimp only at h3 ⊢
  rw [h3]
 ·rw [e, of_name h2, if_neg (by decide), he]
  have hd : decide (enumT s f.ref < 0) = !hasT (eNames s) f.ref := hp
  rcases h1 with h1 | h1
  ·have hx : hasT (eNames s) f.ref = true := (hasT_iff _ _).mpr (k1 h1)
   rw [hx] at hd
   rw [if_neg (of_decide_eq_false hd)]
   cases f
   dsimp only at h1 ⊢
   rw [h1]
  ·have hx : hasT (eNames s) f.ref = false := by
    rw [← Bool.not_eq_true]
    exact fun e => names_apart hs ((hasT_iff _ _).mp e) (k2 h1)
   rw [hx] at hd
   rw [if_pos (of_decide_eq_true hd)]
   cases f
   dsimp only at h1 ⊢
   rw [h1]
theorem typed_sch {s : Sc} (hs : checkT s = 0) : typedS ⟨s.enums, s.msgs.map rawM⟩ = s := by
 obtain ⟨_, g2⟩ := good_of hs
 have h : (s.msgs.map rawM).map (typedM ⟨s.enums, s.msgs.map rawM⟩) = s.msgs := by
  rw [List.map_map]
  conv => rhs; rw [← List.map_id s.msgs]
  refine List.map_congr_left fun m hm => ?_
  show typedM _ (rawM m) = m
  unfold typedM rawM
  dsimp only
  rw [List.map_map]
  have : m.fields.map (typedF ⟨s.enums, s.msgs.map rawM⟩ ∘ rawF) = m.fields := by
   conv => rhs; rw [← List.map_id m.fields]
   exact List.map_congr_left fun f hf => typed_back hs rfl hm hf ((g2 m hm).2.2 f hf)
  have e : m.fields.map (typedF ⟨s.enums, s.msgs.map (fun m => { m with fields := m.fields.map rawF })⟩ ∘ rawF) = m.fields := this
  rw [e]
 unfold typedS
 dsimp only
 rw [h]
end Go.Proofs.YtcjjphioeneiiaaGreatDoor

/- Layer 18 in plain words (no program here): how the reader moves over a field and over a message's lines; what two loops hold after some rounds. Conditions: those that each theorem names. -/
namespace Go.Proofs.YtcjjphioeneiiaaGreatDoor
open Go.RowKit
set_option linter.unusedVariables false

section
variable {l : List Tk} {x : Ps}
theorem sq_need_ge (l : List Tk) (x : Ps) (t : List UInt8) : x.at_i ≤ (needP l x t).at_i := by
 unfold needP
 split
 ·exact Nat.le_succ _
 ·exact Nat.le_refl _
theorem sq_need_bad {t : List UInt8} (h : x.at_bad = true) : (needP l x t).at_bad = true := by
 unfold needP
 split
 ·exact h
 ·rfl
theorem sq_num_ge (l : List Tk) (x : Ps) : x.at_i ≤ (numP l x).2.at_i := by
 unfold numP
 split
 ·exact Nat.le_refl _
 ·exact Nat.le_succ _
theorem sq_num_bad (h : x.at_bad = true) : (numP l x).2.at_bad = true := by
 unfold numP
 rw [if_pos (by unfold noNum; rw [h]; rfl)]
 rfl
theorem sq_name_ge (l : List Tk) (x : Ps) : x.at_i ≤ (nameP l x).2.at_i := by
 unfold nameP
 split
 ·exact Nat.le_refl _
 ·exact Nat.le_succ _
theorem sq_name_bad (h : x.at_bad = true) : (nameP l x).2.at_bad = true := by
 unfold nameP
 rw [if_pos (by unfold noName; rw [h]; rfl)]
 rfl
theorem sq_name_or (l : List Tk) (x : Ps) : (nameP l x).2.at_bad = true ∨ (nameP l x).2.at_i = x.at_i + 1 := by
 unfold nameP
 split
 ·exact .inl rfl
 ·exact .inr rfl
theorem one_ge (l : List Tk) (x : Ps) : x.at_i ≤ (oneP l x).2.at_i := by
 unfold oneP
 split
 ·exact Nat.le_trans (Nat.le_succ _) (sq_name_ge l (nextP x))
 ·exact Nat.le_refl _
theorem ways_ge (l : List Tk) (x : Ps) : x.at_i ≤ (waysP l x).at_i := by
 unfold waysP
 split
 ·exact Nat.le_succ _
 ·exact Nat.le_refl _
theorem rest_or (l : List Tk) (x : Ps) : (restP l x).2.at_bad = true ∨ x.at_i + 1 ≤ (restP l x).2.at_i := by
 show (needP l (numP l (needP l (nameP l (nameP l x).2).2 [61])).2 [59]).at_bad = true ∨ _ ≤ (needP l (numP l (needP l (nameP l (nameP l x).2).2 [61])).2 [59]).at_i
 rcases sq_name_or l x with h | h
 ·exact .inl (sq_need_bad (sq_num_bad (sq_need_bad (sq_name_bad h))))
 ·refine .inr ?_
  have h0 := sq_name_ge l (nameP l x).2
  have h1 := sq_need_ge l (nameP l (nameP l x).2).2 [61]
  have h2 := sq_num_ge l (needP l (nameP l (nameP l x).2).2 [61])
  have h3 := sq_need_ge l (numP l (needP l (nameP l (nameP l x).2).2 [61])).2 [59]
  omega
theorem rest_ge (l : List Tk) (x : Ps) : x.at_i ≤ (restP l x).2.at_i := by
 show _ ≤ (needP l (numP l (needP l (nameP l (nameP l x).2).2 [61])).2 [59]).at_i
 have h := sq_name_ge l x
 have h0 := sq_name_ge l (nameP l x).2
 have h1 := sq_need_ge l (nameP l (nameP l x).2).2 [61]
 have h2 := sq_num_ge l (needP l (nameP l (nameP l x).2).2 [61])
 have h3 := sq_need_ge l (numP l (needP l (nameP l (nameP l x).2).2 [61])).2 [59]
 omega
theorem field_or (l : List Tk) (x : Ps) : (fieldP l x).2.at_bad = true ∨ x.at_i + 1 ≤ (fieldP l x).2.at_i := by
 show (restP l (waysP l (oneP l x).2)).2.at_bad = true ∨ _ ≤ (restP l (waysP l (oneP l x).2)).2.at_i
 have h1 := one_ge l x
 have h2 := ways_ge l (oneP l x).2
 exact (rest_or l (waysP l (oneP l x).2)).imp id fun h => by omega
theorem field_ge (l : List Tk) (x : Ps) : x.at_i ≤ (fieldP l x).2.at_i := by
 show _ ≤ (restP l (waysP l (oneP l x).2)).2.at_i
 have h1 := one_ge l x
 have h2 := ways_ge l (oneP l x).2
 have h3 := rest_ge l (waysP l (oneP l x).2)
 omega
theorem nums_len (l : List Tk) : ∀ (f : Nat) (q : Ps), (numsP l f q).1.length + q.at_i ≤ (numsP l f q).2.at_i
 | 0, q => by simp [numsP]
 | f + 1, q => by
   rw [numsP]
   split
   ·have h := nums_len l f (numP l (nextP q)).2
    have h2 := sq_num_ge l (nextP q)
    have h3 : (nextP q).at_i = q.at_i + 1 := rfl
    simp only [List.length_cons]
    omega
   ·simp
theorem bars_len (l : List Tk) (x : Ps) : (barsP l x).1.length + x.at_i ≤ (barsP l x).2.at_i + 1 := by
 show (((numP l x).1 : Int) :: (numsP l (l.length + 1) (numP l x).2).1).length + x.at_i ≤ (needP l (numsP l (l.length + 1) (numP l x).2).2 [59]).at_i + 1
 have h1 := nums_len l (l.length + 1) (numP l x).2
 have h2 := sq_num_ge l x
 have h3 := sq_need_ge l (numsP l (l.length + 1) (numP l x).2).2 [59]
 simp only [List.length_cons]
 omega
end

/-- A message's lines, after some rounds. -/
structure MSt (l : List Tk) (y0 : Ps) (fs : List Fd) (ns : List Int) (y : Ps) (f : Nat) : Prop where
 ms_all : linesP l (l.length + 1) y0 = ((fs ++ (linesP l f y).1.1, ns ++ (linesP l f y).1.2), (linesP l f y).2)
 ms_cnt : fs.length + f ≤ l.length + 1
 ms_num : ns.length ≤ y.at_i
 ms_go : y.at_bad = true ∨ l.length < f + y.at_i
theorem mst_start (l : List Tk) (y0 : Ps) : MSt l y0 [] [] y0 (l.length + 1) := ⟨by simp, by simp, by simp, .inr (by omega)⟩
theorem mst_bad {l : List Tk} {y0 y : Ps} {fs : List Fd} {ns : List Int} {f : Nat} (h : MSt l y0 fs ns y f) (hb : y.at_bad = true) : linesP l (l.length + 1) y0 = ((fs, ns), y) := by
 rw [h.ms_all]
 have : linesP l f y = (([], []), y) := by
  cases f with
  | zero => rfl
  | succ f => rw [linesP, if_pos hb]
 rw [this, List.append_nil, List.append_nil]
theorem mst_pos {l : List Tk} {y0 y : Ps} {fs : List Fd} {ns : List Int} {f : Nat} (h : MSt l y0 fs ns y f) (hb : y.at_bad = false) (hi : y.at_i < l.length) : ∃ g, f = g + 1 ∧ l.length < g + 1 + y.at_i := by
 have hg := h.ms_go
 rw [hb] at hg
 simp at hg
 exact ⟨f - 1, by omega, by omega⟩
theorem mst_end {l : List Tk} {y0 y : Ps} {fs : List Fd} {ns : List Int} {f : Nat} (h : MSt l y0 fs ns y f) (hb : y.at_bad = false) (hi : y.at_i < l.length) (ht : isP l y [125] = true) : linesP l (l.length + 1) y0 = ((fs, ns), nextP y) := by
 obtain ⟨g, rfl, _⟩ := mst_pos h hb hi
 rw [h.ms_all, linesP, if_neg (by rw [hb]; decide), if_pos ht, List.append_nil, List.append_nil]
theorem mst_field {l : List Tk} {y0 y : Ps} {fs : List Fd} {ns : List Int} {f : Nat} (h : MSt l y0 fs ns y f) (hb : y.at_bad = false) (hi : y.at_i < l.length) (ht : isP l y [125] = false) (hr : isP l y resW = false) : 0 < f ∧ MSt l y0 (fs ++ [(fieldP l y).1]) ns (fieldP l y).2 (f - 1) := by
 obtain ⟨g, rfl, hg⟩ := mst_pos h hb hi
 have h4 := h.ms_num
 have h5 := field_ge l y
 refine ⟨Nat.succ_pos _, ?_, ?_, ?_, ?_⟩
 ·rw [h.ms_all, linesP, if_neg (by rw [hb]; decide), if_neg (by rw [ht]; decide), if_neg (by rw [hr]; decide), List.append_assoc]
  rfl
 ·have := h.ms_cnt
  rw [List.length_append]
  show fs.length + 1 + (g + 1 - 1) ≤ l.length + 1
  omega
 ·omega
 ·rcases field_or l y with h1 | h1
  ·exact .inl h1
  ·exact .inr (by show l.length < (g + 1 - 1) + _; omega)
theorem mst_bars {l : List Tk} {y0 y : Ps} {fs : List Fd} {ns : List Int} {f : Nat} (h : MSt l y0 fs ns y f) (hb : y.at_bad = false) (hi : y.at_i < l.length) (ht : isP l y [125] = false) (hr : isP l y resW = true) : 0 < f ∧ MSt l y0 fs (ns ++ (barsP l (nextP y)).1) (barsP l (nextP y)).2 (f - 1) := by
 obtain ⟨g, rfl, hg⟩ := mst_pos h hb hi
 have h4 := h.ms_num
 have h5 := bars_len l (nextP y)
 have h6 : (nextP y).at_i = y.at_i + 1 := rfl
 have h7 : (barsP l (nextP y)).1.length = (numsP l (l.length + 1) (numP l (nextP y)).2).1.length + 1 := rfl
 refine ⟨Nat.succ_pos _, ?_, ?_, ?_, ?_⟩
 ·rw [h.ms_all, linesP, if_neg (by rw [hb]; decide), if_neg (by rw [ht]; decide), if_pos hr, List.append_assoc]
  rfl
 ·have := h.ms_cnt
  show fs.length + (g + 1 - 1) ≤ l.length + 1
  omega
 ·rw [List.length_append]
  omega
 ·exact .inr (by show l.length < (g + 1 - 1) + _; omega)
end Go.Proofs.YtcjjphioeneiiaaGreatDoor

/- Layer 18 in plain words (no program here): order, the whole reading; a schema's text is read as it. Conditions: those that each theorem names. -/
namespace Go.Proofs.YtcjjphioeneiiaaGreatDoor
open Go.RowKit
set_option linter.unusedVariables false

/-- How far back something belongs. -/
def backT {α : Type} (gt : α → Bool) (out : List α) : Nat → Nat
 | 0 => 0
 | k + 1 => match out[k]? with
   | some y => if gt y = true then backT gt out k else k + 1
   | none => k + 1
def insT {α : Type} (gt : α → α → Bool) (out : List α) (x : α) : List α := out.take (backT (fun y => gt y x) out out.length) ++ x :: out.drop (backT (fun y => gt y x) out out.length)
def sortT {α : Type} (gt : α → α → Bool) (l : List α) : List α := l.foldl (insT gt) []
theorem ins_end {α : Type} {gt : α → α → Bool} {out : List α} {x : α} (h : ∀ (j : Nat) y, out[j]? = some y → j + 1 = out.length → gt y x = false) : insT gt out x = out ++ [x] := by
 have hb : backT (fun y => gt y x) out out.length = out.length := by
  cases hn : out.length with
  | zero => rfl
  | succ k =>
    obtain ⟨y, hy⟩ : ∃ y, out[k]? = some y := ⟨_, List.getElem?_eq_getElem (by omega)⟩
    rw [backT, hy]
    dsimp only
    rw [h k y hy hn.symm, if_neg (by decide)]
 unfold insT
 rw [hb, List.take_length, List.drop_length]
theorem sort_from {α : Type} {gt : α → α → Bool} : ∀ (l acc : List α), (∀ (j : Nat) a b, (acc ++ l)[j]? = some a → (acc ++ l)[j + 1]? = some b → gt a b = false) → l.foldl (insT gt) acc = acc ++ l
 | [], acc, _ => by rw [List.append_nil]; rfl
 | x :: l, acc, h => by
   have hx : (acc ++ x :: l)[acc.length]? = some x := by rw [List.getElem?_append_right (Nat.le_refl _), Nat.sub_self]; rfl
   rw [List.foldl_cons, ins_end (fun j y hy hj => h j y x (by rw [List.getElem?_append_left (by omega)]; exact hy) (by rw [hj]; exact hx))]
   rw [sort_from l (acc ++ [x]) (by rw [List.append_assoc]; exact h), List.append_assoc]
   rfl
theorem sort_id {α : Type} {gt : α → α → Bool} {l : List α} (h : ∀ (j : Nat) a b, l[j]? = some a → l[j + 1]? = some b → gt a b = false) : sortT gt l = l := sort_from l [] h
def gtN {α : Type} (f : α → Int) (a b : α) : Bool := decide (f b < f a)
def gtS {α : Type} (f : α → List UInt8) (a b : α) : Bool := ahead (f b) (f a)
def sortEn (e : En) : En := ⟨e.name, sortT (gtN Vl.num) e.values⟩
def sortMs (m : Ms) : Ms := ⟨m.name, sortT (gtN Fd.num) m.fields, sortT (gtN id) m.barred⟩
def sortMsgs : List Ms → List Ms
 | [] => []
 | m :: r => sortMs m :: sortT (gtS Ms.name) (r.map sortMs)
def sortedS (s : Sc) : Sc := ⟨sortT (gtS En.name) (s.enums.map sortEn), sortMsgs s.msgs⟩
theorem sort_nums {α : Type} {f : α → Int} {l : List α} (h : risesB (l.map f) = true) : sortT (gtN f) l = l := sort_id fun j a b ha hb => by
 have := (risesB_iff _).1 h j (f a) (f b) (by rw [List.getElem?_map, ha]; rfl) (by rw [List.getElem?_map, hb]; rfl)
 exact decide_eq_false (by omega)
theorem rise_at : ∀ {l : List (List UInt8)} {j : Nat} {a b : List UInt8}, riseB l = true → l[j]? = some a → l[j + 1]? = some b → ahead a b = true := by
 intro l j a b h ha hb
 cases e : ahead a b with
 | true => rfl
 | false => rw [riseB_off ha hb e] at h; cases h
theorem sort_names {α : Type} {f : α → List UInt8} {l : List α} (h : riseB (l.map f) = true) : sortT (gtS f) l = l := sort_id fun j a b ha hb => by
 have h1 : ahead (f a) (f b) = true := rise_at (j := j) h (by rw [List.getElem?_map, ha]; rfl) (by rw [List.getElem?_map, hb]; rfl)
 show ahead (f b) (f a) = false
 cases e : ahead (f b) (f a) with
 | false => rfl
 | true => have := ahead_trans h1 e; rw [ahead_irrefl] at this; cases this
structure Ordered (s : Sc) : Prop where
 or_e : riseB (eNames s) = true
 or_m : riseB ((mNames s).drop 1) = true
 or_v : ∀ e ∈ s.enums, risesB (vNums e) = true ∧ ∀ v ∈ e.values, v.num ≤ 1048576
 or_f : ∀ m ∈ s.msgs, risesB (fNums m) = true ∧ risesB m.barred = true ∧ ∀ n ∈ m.barred, 1 ≤ n ∧ n ≤ 536870911
theorem ordered_of {s : Sc} (h : checkT s = 0) : Ordered s := by
 obtain ⟨_, _, _, _, _, h6, _, _⟩ := check_parts h
 rw [← order_plain] at h6
 simp only [Bool.or_eq_false_iff, Bool.not_eq_false', List.any_eq_false] at h6
 obtain ⟨⟨k1, k2⟩, k3, k4⟩ := h6
 refine ⟨k1, k2, fun e he => ?_, fun m hm => ?_⟩
 ·have := k3 e he
  unfold orderE at this
  simp only [Bool.not_eq_true, Bool.or_eq_false_iff, Bool.not_eq_false', decide_eq_true_iff, decide_eq_false_iff_not] at this
  obtain ⟨⟨r1, _⟩, r2⟩ := this
  refine ⟨r1, fun v hv => ?_⟩
  have hmem : v.num ∈ vNums e := List.mem_map.mpr ⟨v, hv, rfl⟩
  obtain ⟨j, hj⟩ := List.mem_iff_getElem?.mp hmem
  have hjl := (List.getElem?_eq_some_iff.mp hj).1
  obtain ⟨b, hb⟩ : ∃ b, (vNums e)[(vNums e).length - 1]? = some b := ⟨_, List.getElem?_eq_getElem (by omega)⟩
  rw [lastD_at hb (by omega)] at r2
  have := rises_mono r1 j ((vNums e).length - 1) v.num b (by omega) hj hb
  omega
 ·have := k4 m hm
  unfold jumbledM at this
  simp only [Bool.not_eq_true, Bool.or_eq_false_iff, Bool.not_eq_false', List.any_eq_false] at this
  obtain ⟨⟨r1, r2⟩, r3⟩ := this
  refine ⟨r1, r2, fun n hn => ?_⟩
  have := r3 n hn
  unfold outB at this
  simp at this
  omega
theorem sorted_back {s : Sc} (h : checkT s = 0) : sortedS s = s := by
 have ho := ordered_of h
 have hE : s.enums.map sortEn = s.enums := by
  conv => rhs; rw [← List.map_id s.enums]
  refine List.map_congr_left fun e he => ?_
  show sortEn e = e
  unfold sortEn
  rw [sort_nums (ho.or_v e he).1]
 have hM : ∀ m ∈ s.msgs, sortMs m = m := fun m hm => by
  obtain ⟨k1, k2, _⟩ := ho.or_f m hm
  unfold sortMs
  rw [sort_nums k1, sort_nums (f := id) (by rw [List.map_id]; exact k2)]
 unfold sortedS
 rw [hE, sort_names (f := En.name) ho.or_e]
 have hm2 : sortMsgs s.msgs = s.msgs := by
  have hr := ho.or_m
  unfold mNames at hr
  cases hs : s.msgs with
  | nil => rfl
  | cons m r =>
    rw [hs] at hr hM
    have e1 : r.map sortMs = r := by
     conv => rhs; rw [← List.map_id r]
     exact List.map_congr_left fun x hx => hM x (List.mem_cons_of_mem _ hx)
    rw [sortMsgs, e1, hM m List.mem_cons_self, sort_names (f := Ms.name) hr]
 rw [hm2]

/-! ### How long a text is -/
theorem dig_short {n : Int} (h : numIn n) : (digT n).length ≤ 10 := by
 obtain ⟨h0, h1⟩ := h
 unfold digT digitsT
 rw [if_neg (by omega)]
 split
 ·simp
 ·rw [if_neg (by decide)]
  exact decOf_length 10 n.toNat (by omega)
theorem name_short {t : List UInt8} (h : nameB t = true) : t.length ≤ 12 := by
 unfold nameB at h
 simp only [Bool.and_eq_true, decide_eq_true_iff] at h
 exact h.1.1.1.2
theorem ty_short {f : Fd} (h : FdGood f) : (tyW f).length ≤ 12 := by
 rcases tyW_cases h with ⟨_, _, _, e⟩ | ⟨_, h2, e⟩
 ·rw [e]; have := wordT_short f.ty; omega
 ·rw [e]; exact name_short h2
theorem flat_most {α β : Type} {f : α → List β} {B : Nat} {l : List α} {k : Nat} (h : ∀ x ∈ l, (f x).length ≤ B) (hk : l.length ≤ k) : (l.flatMap f).length ≤ k * B :=
 Nat.le_trans (flat_le f B l h) (Nat.mul_le_mul_right _ hk)
theorem field_short {f : Fd} (h : FdGood f) (hn : numIn f.num) : (fieldLine f).length ≤ 70 := by
 obtain ⟨a1, a2, _⟩ := fcheck_ok h
 have h1 := name_short a1
 have h2 := ty_short h
 have h3 := dig_short hn
 have h4 : (oneofT f).length ≤ 19 := by
  unfold oneofT
  split
  ·simp
  ·rename_i hne
   have := name_short (a2.resolve_left hne)
   simp
   omega
 unfold fieldLine
 rw [ftext_form h]
 unfold fdTail looseW repW
 simp only [List.length_append, List.length_cons, List.length_nil]
 split
 ·simp; omega
 ·split
  ·simp; omega
  ·simp; omega
theorem ins_in {s : Sc} (h : checkT s = 0) : (∀ e ∈ s.enums, EnIn e) ∧ ∀ m ∈ s.msgs, MsIn m := by
 obtain ⟨g1, g2⟩ := good_of h
 have ho := ordered_of h
 refine ⟨fun e he => ⟨fun v hv => ⟨((g1 e he).2 v hv).2, by have := (ho.or_v e he).2 v hv; omega⟩, fun v hv e1 => ?_⟩, fun m hm => ⟨fun f hf => ⟨(g2 m hm).2.2 f hf, ?_⟩, fun n hn => ?_⟩⟩
 ·have := name_wordish ((g1 e he).2 v hv).1
  rw [e1] at this
  exact absurd this (by decide)
 ·obtain ⟨_, _, _, a4, _⟩ := fcheck_ok ((g2 m hm).2.2 f hf)
  have := fieldB_in a4
  exact ⟨by omega, by omega⟩
 ·have := (ho.or_f m hm).2.2 n hn
  exact ⟨by omega, by omega⟩
theorem text_short {s : Sc} (h : checkT s = 0) : (schText s).length ≤ 6000 := by
 obtain ⟨g1, g2⟩ := good_of h
 obtain ⟨i1, i2⟩ := ins_in h
 have few := few_of (check_parts h).1
 have hE : ∀ e ∈ s.enums, (enumText e).length ≤ 254 := fun e he => by
  have h1 := name_short (g1 e he).1
  have h2 := flat_most (f := valLine) (B := 29) (l := e.values) (fun v hv => by
   have k1 := name_short ((g1 e he).2 v hv).1
   have k2 := dig_short ((i1 e he).1 v hv)
   unfold valLine
   simp only [List.length_append, List.length_cons, List.length_nil]
   omega) (few.few_v e he)
  unfold enumText enumHead
  simp only [List.length_append, List.length_cons, List.length_nil]
  omega
 have hM : ∀ m ∈ s.msgs, (msgText m).length ≤ 832 := fun m hm => by
  have h1 := name_short (g2 m hm).1
  have h2 := flat_most (f := fieldLine) (B := 70) (l := m.fields) (fun f hf => field_short ((g2 m hm).2.2 f hf) ((i2 m hm).1 f hf).2) (few.few_f m hm).1
  have h3 : (resLine m.barred).length ≤ 107 := by
   have hb := (few.few_f m hm).2
   have hi := (i2 m hm).2
   unfold resLine
   split
   ·simp
   ·rename_i hne
    obtain ⟨a, k, e, e2⟩ := bar_form hne
    rw [e2]
    rw [e] at hb hi
    have k1 := dig_short (hi a List.mem_cons_self)
    have k2 := flat_most (f := fun n => [44, 32] ++ digT n) (B := 12) (l := k) (k := 7) (fun n hn => by
     have := dig_short (hi n (List.mem_cons_of_mem _ hn))
     simp only [List.length_append, List.length_cons, List.length_nil]
     omega) (by simp at hb; omega)
    unfold resHead tailT
    simp only [List.length_append, List.length_cons, List.length_nil]
    omega
  unfold msgText msgHead
  simp only [List.length_append, List.length_cons, List.length_nil]
  omega
 have k1 := flat_most (f := enumText) (B := 254) (l := s.enums) hE few.few_e
 have k2 := flat_most (f := msgText) (B := 832) (l := s.msgs) hM few.few_m
 unfold schText
 rw [if_pos h, List.length_append]
 omega

/-! ### The whole reading -/
def parseT (t : List UInt8) : Sc × Int × Int :=
 if (lexT t 6000).2.2 ≠ 0 then (⟨[], []⟩, ((lexT t 6000).2.1 : Int), (lexT t 6000).2.2)
 else if (partsP (lexT t 6000).1 ((lexT t 6000).1.length + 1) ⟨0, false⟩).2.at_bad = true then (⟨[], []⟩, ((tokOf (lexT t 6000).1 (partsP (lexT t 6000).1 ((lexT t 6000).1.length + 1) ⟨0, false⟩).2.at_i).pos : Int), 2)
 else if checkT (sortedS (typedS ⟨(partsP (lexT t 6000).1 ((lexT t 6000).1.length + 1) ⟨0, false⟩).1.1, (partsP (lexT t 6000).1 ((lexT t 6000).1.length + 1) ⟨0, false⟩).1.2⟩)) ≠ 0 then (⟨[], []⟩, (t.length : Int), checkT (sortedS (typedS ⟨(partsP (lexT t 6000).1 ((lexT t 6000).1.length + 1) ⟨0, false⟩).1.1, (partsP (lexT t 6000).1 ((lexT t 6000).1.length + 1) ⟨0, false⟩).1.2⟩)))
 else (sortedS (typedS ⟨(partsP (lexT t 6000).1 ((lexT t 6000).1.length + 1) ⟨0, false⟩).1.1, (partsP (lexT t 6000).1 ((lexT t 6000).1.length + 1) ⟨0, false⟩).1.2⟩), (t.length : Int), 0)
theorem toks_parts (es : List En) (ms : List Ms) : es.length + ms.length ≤ (es.flatMap toksE).length + (ms.flatMap toksM).length := by
 have h1 := flat_many (f := toksE) (fun _ => by unfold toksE; simp) es
 have h2 := flat_many (f := toksM) (fun _ => by unfold toksM; simp) ms
 omega
/-- Enums and messages that are read as they were written, and that a check lets pass, are read. -/
theorem parse_of {t : List UInt8} {es : List En} {ms : List Ms} (ht : t.length ≤ 6000) (h : Reads t (es.flatMap toksE ++ ms.flatMap toksM)) (he : ∀ e ∈ es, EnIn e) (hm : ∀ m ∈ ms, MsIn m) {s : Sc} (hs : sortedS (typedS ⟨es, ms.map rawM⟩) = s) (hc : checkT s = 0) : parseT t = (s, (t.length : Int), 0) := by
 obtain ⟨l, hl, hb⟩ := reads_all h
 have hx : lexT t 6000 = (l ++ [endTk t.length], t.length, 0) := by
  unfold lexT
  rw [if_neg (by omega), hl, if_pos rfl]
  rfl
 have hst : Stands (l ++ [endTk t.length]) 0 (es.flatMap toksE ++ (ms.flatMap toksM ++ [endTk t.length])) := ⟨[], by
  rw [List.drop_zero, List.append_nil, List.map_append, hb, ← List.map_append, List.append_assoc]⟩
 have hlen := stands_len hst
 have hmany := toks_parts es ms
 have hp := parts_back (k := t.length) es ms ((l ++ [endTk t.length]).length + 1) 0 (by
  rw [List.length_append, List.length_append] at hlen
  simp only [List.length_cons, List.length_nil] at hlen
  omega) he hm hst
 unfold parseT
 rw [hx]
 dsimp only
 rw [hp]
 dsimp only
 rw [hs, hc]
 simp
theorem parse_back {s : Sc} (h : checkT s = 0) (hi : ScOk s) : parseT (schText s) = (s, ((schText s).length : Int), 0) := by
 obtain ⟨i1, i2⟩ := ins_in h
 exact parse_of (text_short h) (reads_sch h hi) i1 i2 (by rw [typed_sch h]; exact sorted_back h) h
end Go.Proofs.YtcjjphioeneiiaaGreatDoor
