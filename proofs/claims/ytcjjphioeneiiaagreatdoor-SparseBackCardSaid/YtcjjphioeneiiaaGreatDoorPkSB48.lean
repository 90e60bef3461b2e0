/- Several texts in one: SxI. What each proves, and its conditions, stands at its own head. -/
import Derived.Test.YtcjjphioeneiiaaGreatDoorPkSB44
import Derived.Test.YtcjjphioeneiiaaGreatDoorPkSB27
/- What the program's layer 15 asks of a whole schema, on: fields that may not be. Conditions: those that each theorem names. -/
namespace Go.Proofs.YtcjjphioeneiiaaGreatDoor
open Go.RowKit
set_option linter.unusedVariables false
set_option maxRecDepth 100000

set_option maxHeartbeats 4000000 in
theorem srefused_any {S : Nat → Nat → Prop} (w : World) (env : ScEnv w) {A A2 : Option Addr} {n cap n2 cap2 : Nat} {s : Sc} (h : ScAt S w A n cap A2 n2 cap2 s) :
 Calls Tryz.prog 61 #[.agg #[.slice A n cap, .slice A2 n2 cap2]] w fun e w' => e = .returned (.int .i64 (fieldsT s)) ∧ Below w.heap.size w w' := by
 obtain ⟨m1, m2, m3, m4⟩ := scAt_max h
 have H := Lib.hid h
 have HBX := Lib.hid (bx_start w #[.slice A n cap, .slice A2 n2 cap2] 26)
 have HCK := Lib.hid (fun f u (hb : Below w.heap.size w u) => fpcheck_any f u (env.rides hb))
 clear h env
 have r1 := obj_cell (HBX.out).b_blk 1
 have HB0 := Lib.hid HBX.out.b_bel
 clear HBX
 go_enter Tryz.func61, Tryz.ntmps61
 go_wp2
 clear r1
 go_loopg [11] n2 (fun gz x0 wr => ∃ i : Nat, x0 = .int .i64 (i : Int) ∧ i + gz = n2 ∧ firstBad ((s.msgs.take i).flatMap Ms.fields) = 0 ∧ Below w.heap.size w wr)
 case atStart => exact ⟨0, rfl, by omega, rfl, HB0.out⟩
 case round =>
  obtain ⟨i, rfl, hi, hfb, hbel⟩ := hrel
  have HB := Lib.hid hbel
  clear hbel
  obtain ⟨g0, hg0⟩ : ∃ g0, g0 = gk := ⟨_, rfl⟩
  subst hg0
  by_cases hlti : i < n2
  ·have ti : decide ((i : Int) < (n2 : Int)) = true := decide_eq_true (by omega)
   obtain ⟨x, hx⟩ : ∃ x, s.msgs[i]? = some x := ⟨_, List.getElem?_eq_getElem (by have := H.out.s_nm; omega)⟩
   have HXI := Lib.hid hx
   obtain ⟨ge, oe, A1, cap1, A3, cap3, rfl, _, hc, hl, hl2⟩ := ms_at H.out.s_m hx
   have q1 := hl.l_le
   have q2 := hl.l_max
   unfold maxLen at q2
   have HL := Lib.hid hl
   obtain ⟨nf, hnf⟩ : ∃ nf, nf = x.fields.length := ⟨_, rfl⟩
   obtain ⟨nb, hnb⟩ : ∃ nb, nb = x.barred.length := ⟨_, rfl⟩
   have HNF := Lib.hid hnf
   rw [← hnf] at hc q1
   rw [← hnb] at hc
   obtain ⟨sn, hsn⟩ : ∃ sn, sn = strOf x.name := ⟨_, rfl⟩
   rw [← hsn] at hc
   obtain ⟨c0, c1, c2⟩ := hc _ HB.out
   have HFB := Lib.hid hfb
   have HBM := Lib.hid (HB.out.alloc HB.out.size (.cells #[.string sn, .slice A1 nf cap1, .slice A3 nb cap3] 43))
   clear hfb hx hl hl2 hnf hnb hsn hc
   go_wp2
   clear c0 c1 c2
   go_loopg [18] nf (fun gz x0 wr => ∃ k : Nat, x0 = .int .i64 (k : Int) ∧ k + gz = nf ∧ firstBad ((s.msgs.take i).flatMap Ms.fields ++ x.fields.take k) = 0 ∧ Below w.heap.size w wr)
   case atStart => exact ⟨0, rfl, by omega, by rw [List.take_zero, List.append_nil]; exact HFB.out, HBM.out⟩
   case round =>
    obtain ⟨k, rfl, hk, hfk, hbel⟩ := hrel
    have HB2 := Lib.hid hbel
    clear hbel
    obtain ⟨g1, hg1⟩ : ∃ g1, g1 = gk := ⟨_, rfl⟩
    subst hg1
    by_cases hltk : k < nf
    ·have tk : decide ((k : Int) < (nf : Int)) = true := decide_eq_true (by omega)
     obtain ⟨f, hf⟩ : ∃ f, x.fields[k]? = some f := ⟨_, List.getElem?_eq_getElem (by have := HNF.out; omega)⟩
     have HFI := Lib.hid hf
     obtain ⟨gf, of, rfl, _, hcf⟩ := fd_at HL.out hf
     obtain ⟨d0, d1, d2, d3, d4, d5, d6⟩ := hcf _ HB2.out
     have HFK := Lib.hid hfk
     clear hf hcf hfk
     have HK := Lib.hid (fun u hb => HCK.out f u hb)
     have HSP := Lib.hid (fields_split HXI.out HFI.out)
     have HTK := Lib.hid (split_take HFI.out)
     obtain ⟨C, hC⟩ : ∃ C, C = fcheckT f := ⟨_, rfl⟩
     have HCC := Lib.hid hC
     rw [← hC] at HK
     clear hC
     obtain ⟨name, num, ty, ref, rep, loose, one⟩ := f
     unfold fdV at HK
     dsimp only at HK d0 d1 d2 d3 d4 d5 d6
     obtain ⟨sn1, hsn1⟩ : ∃ z, z = strOf name := ⟨_, rfl⟩
     obtain ⟨sr1, hsr1⟩ : ∃ z, z = strOf ref := ⟨_, rfl⟩
     obtain ⟨so1, hso1⟩ : ∃ z, z = strOf one := ⟨_, rfl⟩
     rw [← hsn1, ← hsr1, ← hso1] at HK
     rw [← hsn1] at d0
     rw [← hsr1] at d3
     rw [← hso1] at d6
     clear hsn1 hsr1 hso1
     by_cases h0 : C = 0
     ·subst h0
      go_wp2_with (go_at_call 127; refine (HK.out _ (HB2.out.alloc HB2.out.size _)).mono ?_; rintro e w1 ⟨rfl, hb⟩; have HB3 := Lib.hid ((HB2.out.alloc HB2.out.size _).trans (hb.mono (HB2.out.alloc HB2.out.size _).size)); clear hb)
      go_roundg (g1 - 1)
      case measure => omega
      case rel => exact ⟨k + 1, by go_num, by omega, by rw [HTK.out, ← List.append_assoc]; exact firstBad_miss _ _ HFK.out HCC.out.symm, HB3.out⟩
     ·have e1 : (C == 0) = false := beq_false_of_ne h0
      have e2 : (C != 0) = true := by simp [h0]
      go_wp2_with (go_at_call 127; refine (HK.out _ (HB2.out.alloc HB2.out.size _)).mono ?_; rintro e w1 ⟨rfl, hb⟩; have HB3 := Lib.hid ((HB2.out.alloc HB2.out.size _).trans (hb.mono (HB2.out.alloc HB2.out.size _).size)); clear hb)
      go_ret
      exact ⟨ret_int' (by unfold fieldsT; rw [HSP.out, firstBad_hit _ _ _ HFK.out (by rw [← HCC.out]; exact h0), HCC.out]), HB3.out⟩
    ·have tk : decide ((k : Int) < (nf : Int)) = false := decide_eq_false (by omega)
     have HFK := Lib.hid hfk
     clear hfk
     have HTW : Hid (x.fields.take k = x.fields) := Lib.hid (List.take_of_length_le (by have := HNF.out; omega))
     go_wp2
     go_roundg (g0 - 1)
     case measure => omega
     case rel => exact ⟨i + 1, by go_num, by omega, by rw [flat_snoc _ _ _ _ HXI.out, ← HTW.out]; exact HFK.out, HB2.out⟩
  ·have ti : decide ((i : Int) < (n2 : Int)) = false := decide_eq_false (by omega)
   have HFB : Hid (fieldsT s = 0) := Lib.hid (by unfold fieldsT fieldsOf; rw [show s.msgs.take i = s.msgs from List.take_of_length_le (by have := H.out.s_nm; omega)] at hfb; exact hfb)
   clear hfb
   go_wp2
   go_ret
   exact ⟨ret_int' HFB.out.symm, HB.out⟩
end Go.Proofs.YtcjjphioeneiiaaGreatDoor
