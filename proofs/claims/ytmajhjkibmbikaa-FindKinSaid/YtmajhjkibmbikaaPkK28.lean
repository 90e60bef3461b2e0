/- Several texts in one: RxC. What each proves, and its conditions, stands at its own head. -/
import Derived.Test.YtmajhjkibmbikaaPkK16
import Derived.Test.YtmajhjkibmbikaaPkK3
import Derived.Test.YtmajhjkibmbikaaPkK25
import Derived.Test.YtmajhjkibmbikaaPkK8
import Derived.Test.YtmajhjkibmbikaaPkK15
import Derived.Test.YtmajhjkibmbikaaPkK18
/- The document's layer 16: Kin. Conditions: those that each theorem names. -/
namespace Go.Proofs.Ytmajhjkibmbikaa
open Go.RowKit
set_option linter.unusedVariables false
set_option maxRecDepth 100000

/-- Text j of a row of texts of the call's own. -/
theorem own_text {w : World} {base n : Nat} {v : Value} {ts : List (List UInt8)} (h : w.ownsRow base 9 1 v n (txts ts)) {j : Nat} {t : List UInt8} (ht : ts[j]? = some t) :
    ∃ g off cap, v = .slice (some ⟨g, off, none⟩) ts.length cap ∧ ts.length ≤ cap ∧ cap ≤ 9223372036854775807 ∧ w.cell? ⟨g, off + j, none⟩ = some (.string (strOf t)) := by
  obtain ⟨hn, A, cap, rfl, hsl⟩ := Sl.own h
  rw [txts_length] at hn
  obtain ⟨g, off, rfl, hc⟩ := hsl.at_ j (.string (strOf t)) (by unfold txts; rw [List.getElem?_map, ht]; rfl)
  have h1 := hsl.le
  have h2 := hsl.max
  rw [txts_length] at h1
  unfold maxLen at h2
  exact ⟨g, off, cap, by rw [txts_length], h1, h2, hc⟩
/-- A block of another kind is none of the row's, and stays when the row grows. -/
theorem own_beside {w w' : World} {base n g : Nat} {v : Value} {ts : List (List UInt8)} {cs : Array Value} {t : TypeId} (h : w.ownsRow base 9 1 v n (txts ts)) (hg : w.heap[g]? = some (.cells cs t (0, 0))) (ht : t ≠ 9) (hgr : w.grownBy w' v.ownBlock) : w'.heap[g]? = some (.cells cs t (0, 0)) := by
  refine (hgr.block g (lt_of_block hg) (fun e => ?_)).trans hg
  obtain ⟨_, cs', h2⟩ := own_typed h e.symm
  rw [hg] at h2
  injection h2 with h2
  injection h2 with _ h3
  exact ht h3

set_option maxHeartbeats 16000000 in
theorem rxkin_any {S : Nat → Nat → Prop} (w : World) {A A2 : Option Addr} {n cap n2 cap2 : Nat} {s : Sc} (h : ScAt S w A n cap A2 n2 cap2 s) (h200 : n2 ≤ 200) (hfl : ∀ m ∈ s.msgs, m.fields.length ≤ 200) :
    Calls Try.prog 24 #[.agg #[.slice A n cap, .slice A2 n2 cap2]] w fun e w' => ∃ Al no capl, e = .returned (.slice Al no capl) ∧ no = (kinT s).length ∧ Sl w' Al capl (txts (kinT s)) ∧ Below w.heap.size w w' := by
  obtain ⟨m1, m2, m3, m4⟩ := scAt_max h
  have H := Lib.hid h
  have HBX := Lib.hid (bx_start w #[.slice A n cap, .slice A2 n2 cap2] 25)
  have HME := Lib.hid (fun t u (hb : Below w.heap.size w u) => rvmessage_any u (scAt_bel h hb) t)
  obtain ⟨w0, hw0⟩ : ∃ w0, w0 = w.alloc (.cells #[.slice A n cap, .slice A2 n2 cap2] 25) := ⟨_, rfl⟩
  have HW0 := Lib.hid hw0
  rw [← hw0] at HBX
  have HB0 := Lib.hid HBX.out
  have HOW0 := Lib.hid (own0_str w0)
  have HBL0 : Hid (Below w0.heap.size w0 (w0.alloc (.cells #[] 9))) := Lib.hid ((Below.refl _ w0).alloc (Nat.le_refl _) _)
  have H200 := Lib.hid h200
  have HFL := Lib.hid hfl
  clear h hw0 HBX h200 hfl
  by_cases h0 : n2 = 0
  · subst h0
    have HK : Hid (kinT s = []) := Lib.hid (kinT_none H.out.s_nm.symm)
    go_enter Try.func24, Try.ntmps24
    go_wp2
    go_ret
    have e := HW0.out
    have ho := Sl.own HOW0.out
    have hb := HBL0.out
    rw [e] at ho hb
    obtain ⟨_, Al, capl, hvl, hsl⟩ := ho
    injection hvl with v1 v2 v3
    subst v1 v3
    refine ⟨some ⟨w.heap.size + 1, 0, none⟩, 0, 0, rfl, by rw [HK.out]; rfl, ?_, ?_⟩
    · rw [HK.out]
      simpa using hsl
    · exact (HB0.out.b_bel).trans ((by rw [e]; exact hb : Below w0.heap.size w0 _).mono HB0.out.b_bel.size)
  · have e1 : ((n2 : Int) == 0) = false := beq_false_of_ne (by omega)
    have e2 : ¬ (n2 : Int) = 0 := by omega
    have e3 : 0 < n2 := by omega
    have e4 : (0 : Int) < (n2 : Int) := by omega
    obtain ⟨x, hx⟩ : ∃ x, s.msgs[0]? = some x := ⟨_, List.getElem?_eq_getElem (by have := H.out.s_nm; omega)⟩
    have HX := Lib.hid hx
    obtain ⟨gx, ox, A5, cap5, A6, cap6, rfl, -, hcx, -, -⟩ := ms_at H.out.s_m hx
    have HCX := Lib.hid hcx
    obtain ⟨sx, hsx⟩ : ∃ sx, sx = strOf x.name := ⟨_, rfl⟩
    rw [← hsx] at hcx
    have HSX := Lib.hid hsx
    obtain ⟨c0, c1, c2⟩ := hcx _ (HB0.out.b_bel.trans (HBL0.out.mono HB0.out.b_bel.size))
    rw [Nat.zero_mul, Nat.add_zero] at c0
    have e := HW0.out
    rw [e] at c0
    have ho1 := HOW0.out
    have hbl1 := HBL0.out
    rw [e] at ho1 hbl1
    simp only [World.size_alloc] at ho1 hbl1
    have HO1 := Lib.hid ho1
    have HBL1 := Lib.hid hbl1
    have hsl := sl_txt1 ((w.alloc (.cells #[.slice A n cap, .slice (some ⟨gx, ox, none⟩) n2 cap2] 25)).alloc (.cells #[] 9)) 9 x.name sx HSX.out
    simp only [World.size_alloc] at hsl
    have HSL := Lib.hid hsl
    have HSZ : Hid (w0.heap.size = w.heap.size + 1) := Lib.hid (by rw [e]; simp)
    clear hx hcx hsx c1 c2 h0 e ho1 hbl1 hsl
    go_enter Try.func24, Try.ntmps24
    go_wp2_with (first
      | (at_builtin; refine wpList_append_sl rfl _ _ rfl (w.heap.size + 1) _ _ _ rfl (own_below HO1.out ((Below.refl _ _).alloc (Nat.le_refl _) _)) _ 1 1 [x.name] rfl rfl HSL.out (by show 0 + 1 ≤ 1000000; omega) (by simp) ?_; intro va2 w2 ho hg; have HOA := Lib.hid ho; have HBA := Lib.hid ((HBL1.out.alloc (by simp) _).grown hg (by simp) (fun k hk => (HO1.out.lt k hk).1)); clear ho hg))
    have HXK := Lib.hid (kinT_some HX.out)
    have HS0 := Lib.hid (kin_start HX.out)
    clear c0
    go_loopg [3, 4] (n2 + 1) (fun gz y3 y4 wr => ∃ i : Nat, y4 = .int .i64 (i : Int) ∧ i + gz = n2 + 1 ∧ ∃ out vl, y3 = vl ∧ KinOk s out ∧ kinGo s gz out i = kinT s ∧ wr.ownsRow w0.heap.size 9 1 vl out.length (txts out) ∧ Below w0.heap.size w0 wr)
    case atStart => exact ⟨0, rfl, by omega, [x.name], va2, rfl, HS0.out, (by rw [HXK.out, H.out.s_nm]), (by rw [HSZ.out]; exact HOA.out), (by rw [HSZ.out]; have := HBA.out; rwa [← HW0.out] at this)⟩
    case round =>
      obtain ⟨i, rfl, hi, out, vl, rfl, hok, hgo, hown, hbel⟩ := hrel
      have HBX := Lib.hid (bx_step HB0.out hbel)
      have HOK := Lib.hid hok
      have HGO := Lib.hid hgo
      have HOWN := Lib.hid hown
      have HBEL := Lib.hid hbel
      have hnole := kinOk_le hok
      clear hok hgo hown hbel
      obtain ⟨g0, hg0⟩ : ∃ g0, g0 = gk := ⟨_, rfl⟩
      subst hg0
      obtain ⟨no, hno⟩ : ∃ no, no = out.length := ⟨_, rfl⟩
      have HNO := Lib.hid hno
      rw [← hno] at hnole
      have hn2l := H.out.s_nm
      have r0 := obj_cell HBX.out.b_blk 0
      have r1 := obj_cell HBX.out.b_blk 1
      by_cases hlti : i < no
      · have ti : decide ((i : Int) < (no : Int)) = true := decide_eq_true (by omega)
        have ti2 : decide ((i : Int) ≤ (n2 : Int)) = true := decide_eq_true (by omega)
        have ti3 : i ≤ n2 := by omega
        have ti4 : i < no := by omega
        have ti5 : decide (i ≤ n2) = true := decide_eq_true ti3
        obtain ⟨t, ht⟩ : ∃ t, out[i]? = some t := ⟨_, List.getElem?_eq_getElem (by omega)⟩
        obtain ⟨bl, off, capo, rfl, q1, q2, hcell⟩ := own_text HOWN.out ht
        obtain ⟨p, hp, hmt, m, hm, hmn, hmo⟩ := msg_spot (HOK.out.1 t (List.mem_of_getElem? ht))
        obtain ⟨ge, oe, A1, c1, A3, c3, eg, -, hc, hl, -⟩ := ms_at H.out.s_m hm
        injection eg with eg
        injection eg with eg1 eg2
        subst eg1 eg2
        rw [← hno] at q1 ⊢
        obtain ⟨nf, hnf⟩ : ∃ nf, nf = m.fields.length := ⟨_, rfl⟩
        obtain ⟨nb, hnb⟩ : ∃ nb, nb = m.barred.length := ⟨_, rfl⟩
        obtain ⟨sm, hsm⟩ : ∃ sm, sm = strOf m.name := ⟨_, rfl⟩
        obtain ⟨st, hst⟩ : ∃ st, st = strOf t := ⟨_, rfl⟩
        rw [← hnf, ← hnb, ← hsm] at hc
        rw [← hst] at hcell
        have HC := Lib.hid hc
        have l1 := hl.l_le
        have l2 := hl.l_max
        unfold maxLen at l2
        rw [← hnf] at l1
        have HL := Lib.hid hl
        have HNF := Lib.hid hnf
        have HMI := Lib.hid hm
        have HF2 : Hid (nf ≤ 200) := Lib.hid (by rw [hnf]; exact HFL.out m (List.mem_of_getElem? hm))
        have HMC := Lib.hid (HME.out t)
        rw [hmt, ← hst] at HMC
        have tp : decide ((p : Int) < (n2 : Int)) = true := decide_eq_true (by omega)
        have tp2 : (p : Int) < (n2 : Int) := by omega
        have HGN : Hid (kinGo s (g0 - 1) (kinMsg s out m.fields) (i + 1) = kinT s) := Lib.hid (by
          have e := HGO.out
          obtain ⟨f, hf⟩ : ∃ f, g0 = f + 1 := ⟨g0 - 1, by omega⟩
          rw [hf, kinGo, ht] at e
          dsimp only at e
          rw [hmo] at e
          rw [hf, Nat.add_sub_cancel]
          exact e)
        have HW : Hid (Below w.heap.size w wr) := HBX.out.b_bel
        have HK8 : Hid (∀ w', Below wr.heap.size wr w' → w'.cell? ⟨w.heap.size, 0, none⟩ = some (.slice A n cap) ∧ w'.cell? ⟨w.heap.size, 1, none⟩ = some (.slice (some ⟨gx, ox, none⟩) n2 cap2) ∧ w'.cell? ⟨bl, off + i, none⟩ = some (.string st) ∧ w'.cell? ⟨gx, ox + p * 3, none⟩ = some (.string sm) ∧ w'.cell? ⟨gx, ox + p * 3 + 1, none⟩ = some (.slice A1 nf c1) ∧ w'.cell? ⟨gx, ox + p * 3 + 2, none⟩ = some (.slice A3 nb c3)) := Lib.hid (fun w' hb => by
          have hx := bx_step HBX.out hb
          obtain ⟨c0, c1, c2⟩ := HC.out _ hx.b_bel
          exact ⟨obj_cell hx.b_blk 0, obj_cell hx.b_blk 1, cell_under hb hcell, c0, c1, c2⟩)
        have HFR : Hid (Below wr.heap.size wr wr.drew) := Lib.hid (drewN_under wr 1)
        have HW8 : Hid (Below w.heap.size w wr.drew) := Lib.hid HW.out.drew
        have HZW : Hid (Below wr.heap.size wr (wr.alloc (.cells #[.string ⟨#[]⟩, .slice none 0 0, .slice none 0 0] 32)).drew) := Lib.hid ((Below.refl _ wr).alloc (Nat.le_refl _) _).drew
        have HZA : Hid (Below w.heap.size w (wr.alloc (.cells #[.string ⟨#[]⟩, .slice none 0 0, .slice none 0 0] 32)).drew) := Lib.hid (HW.out.trans (HZW.out.mono HW.out.size))
        have HZX : Hid ((wr.alloc (.cells #[.string ⟨#[]⟩, .slice none 0 0, .slice none 0 0] 32)).drew.heap[wr.heap.size]? = some (.cells #[.string ⟨#[]⟩, .slice none 0 0, .slice none 0 0] 32 (0, 0))) := Lib.hid (heap_alloc_new wr _)
        obtain ⟨-, -, h3, h4, h5, h6⟩ := HK8.out _ (Below.refl _ _)
        clear hc hl hnf hnb hsm hst hcell hm hmn hmo hmt hno hn2l hnole hp ht
        go_wp2
        go_region_held3 (fun w' => w'.cell? ⟨w.heap.size, 0, none⟩ = some (.slice A n cap) ∧ w'.cell? ⟨w.heap.size, 1, none⟩ = some (.slice (some ⟨gx, ox, none⟩) n2 cap2) ∧ w'.cell? ⟨bl, off + i, none⟩ = some (.string st) ∧ w'.cell? ⟨gx, ox + p * 3, none⟩ = some (.string sm) ∧ w'.cell? ⟨gx, ox + p * 3 + 1, none⟩ = some (.slice A1 nf c1) ∧ w'.cell? ⟨gx, ox + p * 3 + 2, none⟩ = some (.slice A3 nb c3))
          (exact HK8.out _ (by repeat' (first | with_reducible exact HFR.out | with_reducible exact HZW.out | with_reducible exact HFR.out.size | with_reducible refine Below.alloc ?_ ?_ _ | with_reducible refine Below.setCell ?_ ?_ _ | (simp; done))))
          (first
            | (go_at_call 9; refine (HMC.out _ (by with_reducible exact HW8.out)).mono ?_; rintro e w1 ⟨rfl, hb⟩; replace HFR := Lib.hid (HFR.out.trans (hb.mono HFR.out.size)); clear hb)
            | (go_at_call 9; refine (HMC.out _ (by with_reducible exact HZA.out)).mono ?_; rintro e w1 ⟨rfl, hb⟩; have hxz := (hb.block _ (lt_of_block HZX.out)).trans HZX.out; have z0 := obj_cell hxz 0; have z1 := obj_cell hxz 1; have z2 := obj_cell hxz 2; have f0 := obj_free hxz 0; have f1 := obj_free hxz 1; have f2 := obj_free hxz 2; have HXZ := Lib.hid hxz; replace HFR := Lib.hid (HZW.out.trans (hb.mono HZW.out.size)); clear hb hxz))
        · have hbw : Below wr.heap.size wr (w1.alloc (.cells #[.string sm, .slice A1 nf c1, .slice A3 nb c3] 32)) := HFR.out.alloc HFR.out.size _
          have hmb : (w1.alloc (.cells #[.string sm, .slice A1 nf c1, .slice A3 nb c3] 32)).heap[w1.heap.size]? = some (.cells #[.string sm, .slice A1 nf c1, .slice A3 nb c3] 32 (0, 0)) := heap_alloc_new w1 _
          obtain ⟨wz, hwz⟩ : ∃ wz, wz = (w1.alloc (.cells #[.string sm, .slice A1 nf c1, .slice A3 nb c3] 32)) := ⟨_, rfl⟩
          obtain ⟨pm, hpm⟩ : ∃ pm, pm = w1.heap.size := ⟨_, rfl⟩
          rw [← hwz] at hbw hmb ⊢
          rw [← hpm] at hmb ⊢
          have HMB := Lib.hid hmb
          have HBZ : Hid (Below w0.heap.size w0 wz) := Lib.hid (HBEL.out.trans (hbw.mono HBEL.out.size))
          have HOZ := Lib.hid (own_below HOWN.out hbw)
          clear hbw hmb hwz hpm HK8 HFR HZW HZA HZX HW8 h3 h4 h5 h6 r0 r1
          go_wp2
          go_loopg [3, 6] nf (fun gz y3 y6 wr => ∃ k : Nat, y6 = .int .i64 (k : Int) ∧ k + gz = nf ∧ ∃ out2 vl, y3 = vl ∧ out2 = kinMsg s out (m.fields.take k) ∧ KinOk s out2 ∧ wr.ownsRow w0.heap.size 9 1 vl out2.length (txts out2) ∧ Below w0.heap.size w0 wr ∧ wr.heap[pm]? = some (.cells #[.string sm, .slice A1 nf c1, .slice A3 nb c3] 32 (0, 0)))
          case atStart => exact ⟨0, rfl, by omega, out, _, rfl, rfl, HOK.out, (by rw [HNO.out]; exact HOZ.out), HBZ.out, HMB.out⟩
          case round =>
            obtain ⟨k, rfl, hk, out2, vl, rfl, hout2, hok2, hown2, hbel2, hmb2⟩ := hrel
            obtain ⟨wk, hwk⟩ : ∃ wk, wk = wr := ⟨_, rfl⟩
            subst hwk
            obtain ⟨g1, hg1⟩ : ∃ g1, g1 = gk := ⟨_, rfl⟩
            subst hg1
            have HO2 := Lib.hid hout2
            have HOK2 := Lib.hid hok2
            have HOW2 := Lib.hid hown2
            have HBE2 := Lib.hid hbel2
            have HMB2 := Lib.hid hmb2
            have HBX2 := Lib.hid (bx_step HB0.out hbel2)
            have z0 := obj_cell hmb2 0
            have z1 := obj_cell hmb2 1
            have z2 := obj_cell hmb2 2
            have r0 := obj_cell HBX2.out.b_blk 0
            have r1 := obj_cell HBX2.out.b_blk 1
            clear hout2 hok2 hown2 hbel2 hmb2
            by_cases hltk : k < nf
            · have tk : decide ((k : Int) < (nf : Int)) = true := decide_eq_true (by omega)
              obtain ⟨f, hf⟩ : ∃ f, m.fields[k]? = some f := ⟨_, List.getElem?_eq_getElem (by have := HNF.out; omega)⟩
              have HFI := Lib.hid hf
              obtain ⟨gf, of, rfl, -, hcf⟩ := fd_at HL.out hf
              obtain ⟨d0, d1, d2, d3, d4, d5, d6⟩ := hcf _ HBX2.out.b_bel
              have HCF := Lib.hid (And.intro d2 d3)
              obtain ⟨sr, hsr⟩ : ∃ sr, sr = strOf f.ref := ⟨_, rfl⟩
              have HSR := Lib.hid hsr
              rw [← hsr] at d3
              obtain ⟨ty, hty⟩ : ∃ ty, ty = f.ty := ⟨_, rfl⟩
              have HTY := Lib.hid hty
              rw [← hty] at d2
              rw [← hsr, ← hty] at HCF
              have HMR := Lib.hid (HME.out f.ref)
              obtain ⟨mi, hmi⟩ : ∃ mi, mi = messageT s f.ref := ⟨_, rfl⟩
              have HMI2 := Lib.hid hmi
              rw [← hsr, ← hmi] at HMR
              obtain ⟨hn2, Al, capl, hvl, hsl⟩ := Sl.own HOW2.out
              rw [txts_length] at hn2 hvl
              obtain ⟨no2, hno2⟩ : ∃ no2, no2 = out2.length := ⟨_, rfl⟩
              rw [← hno2] at hvl
              subst hvl
              have s1 := hsl.le
              have s2 := hsl.max
              rw [txts_length, ← hno2] at s1
              unfold maxLen at s2
              have HN2 := Lib.hid hno2
              have HSL := Lib.hid hsl
              have HLE : Hid (no2 ≤ 200) := Lib.hid (by have := kinOk_le HOK2.out; have := H.out.s_nm; have := H200.out; omega)
              clear hf hcf hsr hty hmi hn2 hno2 hsl d0 d1 d4 d5 d6
              go_wp2
              clear z0 z1 z2 d2 d3 tk
              go_loopg [8, 9] no2 (fun gz y8 y9 wq => ∃ j : Nat, y9 = .int .i64 (j : Int) ∧ j + gz = no2 ∧ y8 = .bool ((out2.take j).any (fun u => decide (u = f.ref))) ∧ wq = wk)
              case atStart => exact ⟨0, rfl, by omega, rfl, rfl⟩
              case round =>
                obtain ⟨j, rfl, hj, rfl, rfl⟩ := hrel
                obtain ⟨g2, hg2⟩ : ∃ g2, g2 = gk := ⟨_, rfl⟩
                subst hg2
                by_cases hltj : j < no2
                · have tj : decide ((j : Int) < (no2 : Int)) = true := decide_eq_true (by omega)
                  obtain ⟨u, hu⟩ : ∃ u, out2[j]? = some u := ⟨_, List.getElem?_eq_getElem (by have := HN2.out; omega)⟩
                  have HSN := Lib.hid (any_snoc out2 (fun u => decide (u = f.ref)) j u hu)
                  obtain ⟨b2, o2, hAl, hc2⟩ := HSL.out.at_ j (.string (strOf u)) (by unfold txts; rw [List.getElem?_map, hu]; rfl)
                  subst hAl
                  obtain ⟨su, hsu⟩ : ∃ su, su = strOf u := ⟨_, rfl⟩
                  rw [← hsu] at hc2
                  have hq : (su.toList == sr.toList) = decide (u = f.ref) := by rw [hsu, HSR.out, strOf_beq]
                  obtain ⟨b, hb⟩ : ∃ b, b = (out2.take j).any (fun u => decide (u = f.ref)) := ⟨_, rfl⟩
                  have HBB := Lib.hid hb
                  rw [← hb]
                  clear hb hsu
                  cases b with
                  | true =>
                    clear hq hu
                    go_wp2
                    go_roundg (g2 - 1)
                    case measure => omega
                    case rel => exact ⟨j + 1, by go_num, by omega, by rw [HSN.out, ← HBB.out]; rfl, rfl⟩
                  | false =>
                    by_cases hur : u = f.ref
                    · have q1 : (su.toList == sr.toList) = true := by rw [hq]; exact decide_eq_true hur
                      have q2 : su.toList = sr.toList := eq_of_beq q1
                      have HUR := Lib.hid hur
                      clear hq hur hu
                      go_wp2
                      go_roundg (g2 - 1)
                      case measure => omega
                      case rel => exact ⟨j + 1, by go_num, by omega, by rw [HSN.out, ← HBB.out, decide_eq_true HUR.out]; rfl, rfl⟩
                    · have q1 : (su.toList == sr.toList) = false := by rw [hq]; exact decide_eq_false hur
                      have q2 : ¬ su.toList = sr.toList := fun e => by rw [e] at q1; simp at q1
                      have HUR := Lib.hid hur
                      clear hq hur hu
                      go_wp2
                      go_roundg (g2 - 1)
                      case measure => omega
                      case rel => exact ⟨j + 1, by go_num, by omega, by rw [HSN.out, ← HBB.out, decide_eq_false HUR.out]; rfl, rfl⟩
                · have tj : decide ((j : Int) < (no2 : Int)) = false := decide_eq_false (by omega)
                  rw [any_whole out2 (fun u => decide (u = f.ref)) j (by have := HN2.out; omega)]
                  have htd : out2.any (fun u => decide (u = f.ref)) = decide (f.ref ∈ out2) := by
                    rw [Bool.eq_iff_iff, List.any_eq_true, decide_eq_true_iff]
                    exact ⟨fun ⟨u, h1, h2⟩ => (of_decide_eq_true h2) ▸ h1, fun h1 => ⟨_, h1, decide_eq_true rfl⟩⟩
                  rw [htd]
                  obtain ⟨td, htd2⟩ : ∃ td, td = decide (f.ref ∈ out2) := ⟨_, rfl⟩
                  rw [← htd2]
                  have HADD : Hid (kinMsg s out (m.fields.take (k + 1)) = if (decide (ty = 15) && !td) && decide (0 ≤ mi) then out2 ++ [f.ref] else out2) := Lib.hid (by rw [kinMsg_snoc HFI.out, ← HO2.out, kinAdd, HTY.out, HMI2.out, htd2])
                  have HAK : Hid (KinOk s (if (decide (ty = 15) && !td) && decide (0 ≤ mi) then out2 ++ [f.ref] else out2)) := Lib.hid (by
                    have := kinAdd_ok (f := f) HOK2.out
                    unfold kinAdd at this
                    rw [← HTY.out, ← HMI2.out, ← htd2] at this
                    exact this)
                  clear htd htd2
                  have z0 := obj_cell HMB2.out 0
                  have z1 := obj_cell HMB2.out 1
                  have z2 := obj_cell HMB2.out 2
                  obtain ⟨d2, d3⟩ := HCF.out
                  by_cases h15 : ty = 15
                  · have hq1 : (ty == 15) = true := by rw [h15]; rfl
                    cases td with
                    | true =>
                      rw [decide_eq_true h15] at HADD HAK
                      subst h15
                      go_wp2
                      go_roundg (g1 - 1)
                      case measure => omega
                      case rel => exact ⟨k + 1, by go_num, by omega, _, _, rfl, HADD.out.symm, HAK.out, HOW2.out, HBE2.out, HMB2.out⟩
                    | false =>
                      by_cases hmi : 0 ≤ mi
                      · have hq3 : decide (mi ≥ 0) = true := decide_eq_true hmi
                        rw [decide_eq_true h15, decide_eq_true hmi] at HADD HAK
                        subst h15
                        go_wp2_with (first
                          | (go_at_call 9; refine (HMR.out _ HBX2.out.b_bel).mono ?_; rintro e w5 ⟨rfl, hb⟩; have HB5 := Lib.hid hb; clear hb)
                          | (at_builtin; refine wpList_append_sl rfl _ _ rfl w0.heap.size _ _ _ rfl (own_below HOW2.out (HB5.out.alloc HB5.out.size _)) _ 1 1 [f.ref] rfl rfl (sl_txt1 _ _ _ _ HSR.out) (by have := HLE.out; have := HN2.out; show _ + 1 ≤ 1000000; omega) (by have := HBE2.out.size; have := HB5.out.size; simp; omega) ?_; intro va3 w6 ho hg; have HO6 := Lib.hid ho; have HG6 := Lib.hid hg; clear ho hg))
                        go_roundg (g1 - 1)
                        case measure => omega
                        case rel => exact ⟨k + 1, by go_num, by omega, _, _, rfl, HADD.out.symm, HAK.out, (by have := HO6.out; rw [← List.length_singleton (a := f.ref), ← List.length_append] at this; exact this), (HBE2.out.trans ((HB5.out.alloc HB5.out.size _).mono HBE2.out.size)).grown HG6.out (by have := HBE2.out.size; have := HB5.out.size; simp; omega) (fun k hk => (HOW2.out.lt k hk).1), own_beside (own_below HOW2.out (HB5.out.alloc HB5.out.size _)) (((HB5.out.alloc HB5.out.size _).block _ (lt_of_block HMB2.out)).trans HMB2.out) (by decide) HG6.out⟩
                      · have hq3 : decide (mi ≥ 0) = false := decide_eq_false hmi
                        rw [decide_eq_true h15, decide_eq_false hmi] at HADD HAK
                        subst h15
                        go_wp2_with (first
                          | (go_at_call 9; refine (HMR.out _ HBX2.out.b_bel).mono ?_; rintro e w5 ⟨rfl, hb⟩; have HB5 := Lib.hid hb; clear hb))
                        go_roundg (g1 - 1)
                        case measure => omega
                        case rel => exact ⟨k + 1, by go_num, by omega, _, _, rfl, HADD.out.symm, HAK.out, own_below HOW2.out HB5.out, HBE2.out.trans (HB5.out.mono HBE2.out.size), (HB5.out.block _ (lt_of_block HMB2.out)).trans HMB2.out⟩
                  · have hq1 : (ty == 15) = false := beq_false_of_ne h15
                    rw [decide_eq_false h15] at HADD HAK
                    go_wp2
                    go_roundg (g1 - 1)
                    case measure => omega
                    case rel => exact ⟨k + 1, by go_num, by omega, _, _, rfl, HADD.out.symm, HAK.out, HOW2.out, HBE2.out, HMB2.out⟩
            · have tk : decide ((k : Int) < (nf : Int)) = false := decide_eq_false (by omega)
              have HTK : Hid (m.fields.take k = m.fields) := Lib.hid (List.take_of_length_le (by have := HNF.out; omega))
              go_wp2
              go_roundg (g0 - 1)
              case measure => omega
              case rel => exact ⟨i + 1, by go_num, by omega, out2, _, rfl, HOK2.out, (by rw [HO2.out, HTK.out]; exact HGN.out), HOW2.out, HBE2.out⟩
        · have hbw : Below wr.heap.size wr (((w1.setCell ⟨wr.heap.size, 0, none⟩ (.string sm)).setCell ⟨wr.heap.size, 1, none⟩ (.slice A1 nf c1)).setCell ⟨wr.heap.size, 2, none⟩ (.slice A3 nb c3)) := ((HFR.out.setCell (p := ⟨wr.heap.size, 0, none⟩) (Nat.le_refl _) _).setCell (p := ⟨wr.heap.size, 1, none⟩) (Nat.le_refl _) _).setCell (p := ⟨wr.heap.size, 2, none⟩) (Nat.le_refl _) _
          have hmb : (((w1.setCell ⟨wr.heap.size, 0, none⟩ (.string sm)).setCell ⟨wr.heap.size, 1, none⟩ (.slice A1 nf c1)).setCell ⟨wr.heap.size, 2, none⟩ (.slice A3 nb c3)).heap[wr.heap.size]? = some (.cells #[.string sm, .slice A1 nf c1, .slice A3 nb c3] 32 (0, 0)) := (obj_set (obj_set (obj_set HXZ.out 0 _) 1 _) 2 _).trans rfl
          obtain ⟨wz, hwz⟩ : ∃ wz, wz = (((w1.setCell ⟨wr.heap.size, 0, none⟩ (.string sm)).setCell ⟨wr.heap.size, 1, none⟩ (.slice A1 nf c1)).setCell ⟨wr.heap.size, 2, none⟩ (.slice A3 nb c3)) := ⟨_, rfl⟩
          obtain ⟨pm, hpm⟩ : ∃ pm, pm = wr.heap.size := ⟨_, rfl⟩
          rw [← hwz] at hbw hmb ⊢
          rw [← hpm] at hmb ⊢
          have HMB := Lib.hid hmb
          have HBZ : Hid (Below w0.heap.size w0 wz) := Lib.hid (HBEL.out.trans (hbw.mono HBEL.out.size))
          have HOZ := Lib.hid (own_below HOWN.out hbw)
          clear hbw hmb hwz hpm HK8 HFR HZW HZA HZX HW8 h3 h4 h5 h6 r0 r1
          go_wp2
          go_loopg [3, 6] nf (fun gz y3 y6 wr => ∃ k : Nat, y6 = .int .i64 (k : Int) ∧ k + gz = nf ∧ ∃ out2 vl, y3 = vl ∧ out2 = kinMsg s out (m.fields.take k) ∧ KinOk s out2 ∧ wr.ownsRow w0.heap.size 9 1 vl out2.length (txts out2) ∧ Below w0.heap.size w0 wr ∧ wr.heap[pm]? = some (.cells #[.string sm, .slice A1 nf c1, .slice A3 nb c3] 32 (0, 0)))
          case atStart => exact ⟨0, rfl, by omega, out, _, rfl, rfl, HOK.out, (by rw [HNO.out]; exact HOZ.out), HBZ.out, HMB.out⟩
          case round =>
            obtain ⟨k, rfl, hk, out2, vl, rfl, hout2, hok2, hown2, hbel2, hmb2⟩ := hrel
            obtain ⟨wk, hwk⟩ : ∃ wk, wk = wr := ⟨_, rfl⟩
            subst hwk
            obtain ⟨g1, hg1⟩ : ∃ g1, g1 = gk := ⟨_, rfl⟩
            subst hg1
            have HO2 := Lib.hid hout2
            have HOK2 := Lib.hid hok2
            have HOW2 := Lib.hid hown2
            have HBE2 := Lib.hid hbel2
            have HMB2 := Lib.hid hmb2
            have HBX2 := Lib.hid (bx_step HB0.out hbel2)
            have z0 := obj_cell hmb2 0
            have z1 := obj_cell hmb2 1
            have z2 := obj_cell hmb2 2
            have r0 := obj_cell HBX2.out.b_blk 0
            have r1 := obj_cell HBX2.out.b_blk 1
            clear hout2 hok2 hown2 hbel2 hmb2
            by_cases hltk : k < nf
            · have tk : decide ((k : Int) < (nf : Int)) = true := decide_eq_true (by omega)
              obtain ⟨f, hf⟩ : ∃ f, m.fields[k]? = some f := ⟨_, List.getElem?_eq_getElem (by have := HNF.out; omega)⟩
              have HFI := Lib.hid hf
              obtain ⟨gf, of, rfl, -, hcf⟩ := fd_at HL.out hf
              obtain ⟨d0, d1, d2, d3, d4, d5, d6⟩ := hcf _ HBX2.out.b_bel
              have HCF := Lib.hid (And.intro d2 d3)
              obtain ⟨sr, hsr⟩ : ∃ sr, sr = strOf f.ref := ⟨_, rfl⟩
              have HSR := Lib.hid hsr
              rw [← hsr] at d3
              obtain ⟨ty, hty⟩ : ∃ ty, ty = f.ty := ⟨_, rfl⟩
              have HTY := Lib.hid hty
              rw [← hty] at d2
              rw [← hsr, ← hty] at HCF
              have HMR := Lib.hid (HME.out f.ref)
              obtain ⟨mi, hmi⟩ : ∃ mi, mi = messageT s f.ref := ⟨_, rfl⟩
              have HMI2 := Lib.hid hmi
              rw [← hsr, ← hmi] at HMR
              obtain ⟨hn2, Al, capl, hvl, hsl⟩ := Sl.own HOW2.out
              rw [txts_length] at hn2 hvl
              obtain ⟨no2, hno2⟩ : ∃ no2, no2 = out2.length := ⟨_, rfl⟩
              rw [← hno2] at hvl
              subst hvl
              have s1 := hsl.le
              have s2 := hsl.max
              rw [txts_length, ← hno2] at s1
              unfold maxLen at s2
              have HN2 := Lib.hid hno2
              have HSL := Lib.hid hsl
              have HLE : Hid (no2 ≤ 200) := Lib.hid (by have := kinOk_le HOK2.out; have := H.out.s_nm; have := H200.out; omega)
              clear hf hcf hsr hty hmi hn2 hno2 hsl d0 d1 d4 d5 d6
              go_wp2
              clear z0 z1 z2 d2 d3 tk
              go_loopg [8, 9] no2 (fun gz y8 y9 wq => ∃ j : Nat, y9 = .int .i64 (j : Int) ∧ j + gz = no2 ∧ y8 = .bool ((out2.take j).any (fun u => decide (u = f.ref))) ∧ wq = wk)
              case atStart => exact ⟨0, rfl, by omega, rfl, rfl⟩
              case round =>
                obtain ⟨j, rfl, hj, rfl, rfl⟩ := hrel
                obtain ⟨g2, hg2⟩ : ∃ g2, g2 = gk := ⟨_, rfl⟩
                subst hg2
                by_cases hltj : j < no2
                · have tj : decide ((j : Int) < (no2 : Int)) = true := decide_eq_true (by omega)
                  obtain ⟨u, hu⟩ : ∃ u, out2[j]? = some u := ⟨_, List.getElem?_eq_getElem (by have := HN2.out; omega)⟩
                  have HSN := Lib.hid (any_snoc out2 (fun u => decide (u = f.ref)) j u hu)
                  obtain ⟨b2, o2, hAl, hc2⟩ := HSL.out.at_ j (.string (strOf u)) (by unfold txts; rw [List.getElem?_map, hu]; rfl)
                  subst hAl
                  obtain ⟨su, hsu⟩ : ∃ su, su = strOf u := ⟨_, rfl⟩
                  rw [← hsu] at hc2
                  have hq : (su.toList == sr.toList) = decide (u = f.ref) := by rw [hsu, HSR.out, strOf_beq]
                  obtain ⟨b, hb⟩ : ∃ b, b = (out2.take j).any (fun u => decide (u = f.ref)) := ⟨_, rfl⟩
                  have HBB := Lib.hid hb
                  rw [← hb]
                  clear hb hsu
                  cases b with
                  | true =>
                    clear hq hu
                    go_wp2
                    go_roundg (g2 - 1)
                    case measure => omega
                    case rel => exact ⟨j + 1, by go_num, by omega, by rw [HSN.out, ← HBB.out]; rfl, rfl⟩
                  | false =>
                    by_cases hur : u = f.ref
                    · have q1 : (su.toList == sr.toList) = true := by rw [hq]; exact decide_eq_true hur
                      have q2 : su.toList = sr.toList := eq_of_beq q1
                      have HUR := Lib.hid hur
                      clear hq hur hu
                      go_wp2
                      go_roundg (g2 - 1)
                      case measure => omega
                      case rel => exact ⟨j + 1, by go_num, by omega, by rw [HSN.out, ← HBB.out, decide_eq_true HUR.out]; rfl, rfl⟩
                    · have q1 : (su.toList == sr.toList) = false := by rw [hq]; exact decide_eq_false hur
                      have q2 : ¬ su.toList = sr.toList := fun e => by rw [e] at q1; simp at q1
                      have HUR := Lib.hid hur
                      clear hq hur hu
                      go_wp2
                      go_roundg (g2 - 1)
                      case measure => omega
                      case rel => exact ⟨j + 1, by go_num, by omega, by rw [HSN.out, ← HBB.out, decide_eq_false HUR.out]; rfl, rfl⟩
                · have tj : decide ((j : Int) < (no2 : Int)) = false := decide_eq_false (by omega)
                  rw [any_whole out2 (fun u => decide (u = f.ref)) j (by have := HN2.out; omega)]
                  have htd : out2.any (fun u => decide (u = f.ref)) = decide (f.ref ∈ out2) := by
                    rw [Bool.eq_iff_iff, List.any_eq_true, decide_eq_true_iff]
                    exact ⟨fun ⟨u, h1, h2⟩ => (of_decide_eq_true h2) ▸ h1, fun h1 => ⟨_, h1, decide_eq_true rfl⟩⟩
                  rw [htd]
                  obtain ⟨td, htd2⟩ : ∃ td, td = decide (f.ref ∈ out2) := ⟨_, rfl⟩
                  rw [← htd2]
                  have HADD : Hid (kinMsg s out (m.fields.take (k + 1)) = if (decide (ty = 15) && !td) && decide (0 ≤ mi) then out2 ++ [f.ref] else out2) := Lib.hid (by rw [kinMsg_snoc HFI.out, ← HO2.out, kinAdd, HTY.out, HMI2.out, htd2])
                  have HAK : Hid (KinOk s (if (decide (ty = 15) && !td) && decide (0 ≤ mi) then out2 ++ [f.ref] else out2)) := Lib.hid (by
                    have := kinAdd_ok (f := f) HOK2.out
                    unfold kinAdd at this
                    rw [← HTY.out, ← HMI2.out, ← htd2] at this
                    exact this)
                  clear htd htd2
                  have z0 := obj_cell HMB2.out 0
                  have z1 := obj_cell HMB2.out 1
                  have z2 := obj_cell HMB2.out 2
                  obtain ⟨d2, d3⟩ := HCF.out
                  by_cases h15 : ty = 15
                  · have hq1 : (ty == 15) = true := by rw [h15]; rfl
                    cases td with
                    | true =>
                      rw [decide_eq_true h15] at HADD HAK
                      subst h15
                      go_wp2
                      go_roundg (g1 - 1)
                      case measure => omega
                      case rel => exact ⟨k + 1, by go_num, by omega, _, _, rfl, HADD.out.symm, HAK.out, HOW2.out, HBE2.out, HMB2.out⟩
                    | false =>
                      by_cases hmi : 0 ≤ mi
                      · have hq3 : decide (mi ≥ 0) = true := decide_eq_true hmi
                        rw [decide_eq_true h15, decide_eq_true hmi] at HADD HAK
                        subst h15
                        go_wp2_with (first
                          | (go_at_call 9; refine (HMR.out _ HBX2.out.b_bel).mono ?_; rintro e w5 ⟨rfl, hb⟩; have HB5 := Lib.hid hb; clear hb)
                          | (at_builtin; refine wpList_append_sl rfl _ _ rfl w0.heap.size _ _ _ rfl (own_below HOW2.out (HB5.out.alloc HB5.out.size _)) _ 1 1 [f.ref] rfl rfl (sl_txt1 _ _ _ _ HSR.out) (by have := HLE.out; have := HN2.out; show _ + 1 ≤ 1000000; omega) (by have := HBE2.out.size; have := HB5.out.size; simp; omega) ?_; intro va3 w6 ho hg; have HO6 := Lib.hid ho; have HG6 := Lib.hid hg; clear ho hg))
                        go_roundg (g1 - 1)
                        case measure => omega
                        case rel => exact ⟨k + 1, by go_num, by omega, _, _, rfl, HADD.out.symm, HAK.out, (by have := HO6.out; rw [← List.length_singleton (a := f.ref), ← List.length_append] at this; exact this), (HBE2.out.trans ((HB5.out.alloc HB5.out.size _).mono HBE2.out.size)).grown HG6.out (by have := HBE2.out.size; have := HB5.out.size; simp; omega) (fun k hk => (HOW2.out.lt k hk).1), own_beside (own_below HOW2.out (HB5.out.alloc HB5.out.size _)) (((HB5.out.alloc HB5.out.size _).block _ (lt_of_block HMB2.out)).trans HMB2.out) (by decide) HG6.out⟩
                      · have hq3 : decide (mi ≥ 0) = false := decide_eq_false hmi
                        rw [decide_eq_true h15, decide_eq_false hmi] at HADD HAK
                        subst h15
                        go_wp2_with (first
                          | (go_at_call 9; refine (HMR.out _ HBX2.out.b_bel).mono ?_; rintro e w5 ⟨rfl, hb⟩; have HB5 := Lib.hid hb; clear hb))
                        go_roundg (g1 - 1)
                        case measure => omega
                        case rel => exact ⟨k + 1, by go_num, by omega, _, _, rfl, HADD.out.symm, HAK.out, own_below HOW2.out HB5.out, HBE2.out.trans (HB5.out.mono HBE2.out.size), (HB5.out.block _ (lt_of_block HMB2.out)).trans HMB2.out⟩
                  · have hq1 : (ty == 15) = false := beq_false_of_ne h15
                    rw [decide_eq_false h15] at HADD HAK
                    go_wp2
                    go_roundg (g1 - 1)
                    case measure => omega
                    case rel => exact ⟨k + 1, by go_num, by omega, _, _, rfl, HADD.out.symm, HAK.out, HOW2.out, HBE2.out, HMB2.out⟩
            · have tk : decide ((k : Int) < (nf : Int)) = false := decide_eq_false (by omega)
              have HTK : Hid (m.fields.take k = m.fields) := Lib.hid (List.take_of_length_le (by have := HNF.out; omega))
              go_wp2
              go_roundg (g0 - 1)
              case measure => omega
              case rel => exact ⟨i + 1, by go_num, by omega, out2, _, rfl, HOK2.out, (by rw [HO2.out, HTK.out]; exact HGN.out), HOW2.out, HBE2.out⟩
      · have ti : decide ((i : Int) < (no : Int)) = false := decide_eq_false (by omega)
        have HKT : Hid (kinT s = out) := Lib.hid (by
          have e := HGO.out
          rw [← e]
          cases g0 with
          | zero => rfl
          | succ f =>
            rw [kinGo, List.getElem?_eq_none (by have := HNO.out; omega)])
        obtain ⟨_, Al, capl, hvl, hsl⟩ := Sl.own HOWN.out
        rw [txts_length, ← hno] at hvl
        subst hvl
        have HSL := Lib.hid hsl
        clear hno hn2l hnole hsl
        go_wp2
        go_ret
        exact ⟨Al, no, capl, rfl, by rw [HKT.out, HNO.out], by rw [HKT.out]; exact HSL.out, HBX.out.b_bel⟩
end Go.Proofs.Ytmajhjkibmbikaa
