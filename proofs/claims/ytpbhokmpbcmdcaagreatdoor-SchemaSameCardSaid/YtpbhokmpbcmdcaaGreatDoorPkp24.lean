/- Several texts in one: RvH, RvJ. What each proves, and its conditions, stands at its own head. -/
import Derived.Test.YtpbhokmpbcmdcaaGreatDoorPkp17
import Derived.Test.YtpbhokmpbcmdcaaGreatDoorPkp23
import Derived.Test.YtpbhokmpbcmdcaaGreatDoorPkp16
/- The document's layer 15: which schemas are the same. Conditions: those that each theorem names. -/
namespace Go.Proofs.YtpbhokmpbcmdcaaGreatDoor
open Go.RowKit
set_option linter.unusedVariables false
set_option maxRecDepth 100000

set_option maxHeartbeats 8000000 in
theorem rvsamemsg_any {S1 S2 T1 T2 : Nat → Prop} (w : World) {a b : Ms} {A1 A2 B1 B2 : Option Addr} {na ca ba da nb cb bb db : Nat} (hAf : Lst 7 S1 fdR w A1 ca a.fields) (hAb : Lst 1 S2 inR w A2 da a.barred) (hBf : Lst 7 T1 fdR w B1 cb b.fields) (hBb : Lst 1 T2 inR w B2 db b.barred)
    (hna : na = a.fields.length) (hba : ba = a.barred.length) (hnb : nb = b.fields.length) (hbb : bb = b.barred.length) (sa sb : ByteArray) (hsa : sa = strOf a.name) (hsb : sb = strOf b.name) :
    Calls Tryz.prog 40 #[.agg #[.string sa, .slice A1 na ca, .slice A2 ba da], .agg #[.string sb, .slice B1 nb cb, .slice B2 bb db]] w fun e w' => e = .returned (.bool (decide (a = b))) ∧ Below w.heap.size w w' := by
  have q1 := hAf.l_le
  have q2 := hAf.l_max
  have q3 := hAb.l_le
  have q4 := hAb.l_max
  have q5 := hBf.l_le
  have q6 := hBf.l_max
  have q7 := hBb.l_le
  have q8 := hBb.l_max
  unfold maxLen at q2 q4 q6 q8
  rw [← hna] at q1
  rw [← hba] at q3
  rw [← hnb] at q5
  rw [← hbb] at q7
  have HAF := Lib.hid hAf
  have HBF := Lib.hid hBf
  have HNA := Lib.hid hna
  have HNBX := Lib.hid hnb
  have HI : Hid (∀ u, Below w.heap.size w u → Calls Tryz.prog 86 #[.slice A2 ba da, .slice B2 bb db] u fun e w' => e = .returned (.bool (decide (a.barred = b.barred))) ∧ Below u.heap.size u w') :=
    Lib.hid (fun u hb => (vints_any u (lst_keep hAb inR_keep (fun _ h => h) (bel_keep hb)) (lst_keep hBb inR_keep (fun _ h => h) (bel_keep hb)) hba hbb).mono fun e w' h => ⟨h.1, by obtain ⟨k, rfl⟩ := h.2; exact drewN_under u k⟩)
  have HBX := Lib.hid (bx2_start w #[.string sa, .slice A1 na ca, .slice A2 ba da] #[.string sb, .slice B1 nb cb, .slice B2 bb db] 37 37)
  have HEQ : Hid (a = b ↔ a.name = b.name ∧ a.barred = b.barred ∧ a.fields = b.fields) := Lib.hid ⟨fun e => by rw [e]; exact ⟨rfl, rfl, rfl⟩, fun ⟨e1, e2, e3⟩ => by cases a; cases b; dsimp only at e1 e2 e3; rw [e1, e2, e3]⟩
  have hs1 : (sa.toList == sb.toList) = decide (a.name = b.name) := by rw [hsa, hsb, strOf_beq]
  have hs2 : sa.toList = sb.toList ↔ a.name = b.name := by rw [hsa, hsb, str_list, str_list]
  have r0 := obj_cell (HBX.out).b2_one 0
  have s0 := obj_cell (HBX.out).b2_two 0
  have r1 := obj_cell (HBX.out).b2_one 1
  have s1 := obj_cell (HBX.out).b2_two 1
  have r2 := obj_cell (HBX.out).b2_one 2
  have s2 := obj_cell (HBX.out).b2_two 2
  by_cases hn : a.name = b.name
  · have t1 : (sa.toList == sb.toList) = true := by rw [hs1]; exact decide_eq_true hn
    have t2 : sa.toList = sb.toList := hs2.2 hn
    clear hs1 hs2
    by_cases hb : a.barred = b.barred
    · rw [decide_eq_true hb] at HI
      by_cases hl : na = nb
      · subst hl
        have HNM := Lib.hid hn
        have HBA := Lib.hid hb
        clear hAf hAb hBf hBb hna hba hnb hbb hsa hsb hn hb
        go_enter Tryz.func40, Tryz.ntmps40
        go_wp2_with (first
          | (go_at_call 86; refine (HI.out _ HBX.out.b2_bel).mono ?_; rintro e w1 ⟨rfl, hb⟩; replace HBX := Lib.hid (bx2_step HBX.out hb); clear hb; have r0 := obj_cell HBX.out.b2_one 0; have s0 := obj_cell HBX.out.b2_two 0; have r1 := obj_cell HBX.out.b2_one 1; have s1 := obj_cell HBX.out.b2_two 1; have r2 := obj_cell HBX.out.b2_one 2; have s2 := obj_cell HBX.out.b2_two 2))
        go_loopg [5] na (fun gz x0 wr => ∃ i : Nat, x0 = .int .i64 (i : Int) ∧ i + gz = na ∧ (∀ (j : Nat) x y, j < i → a.fields[j]? = some x → b.fields[j]? = some y → x = y) ∧ Bx2 w wr (.cells #[.string sa, .slice A1 na ca, .slice A2 ba da] 37 (0, 0)) (.cells #[.string sb, .slice B1 na cb, .slice B2 bb db] 37 (0, 0)))
        case atStart => exact ⟨0, rfl, by omega, fun j x y hj => absurd hj (Nat.not_lt_zero _), HBX.out⟩
        case round =>
          obtain ⟨i, rfl, hi, hall, hbx⟩ := hrel
          have HALL := Lib.hid hall
          have HBX := Lib.hid hbx
          clear hall hbx
          have r0 := obj_cell (HBX.out).b2_one 0
          have s0 := obj_cell (HBX.out).b2_two 0
          have r1 := obj_cell (HBX.out).b2_one 1
          have s1 := obj_cell (HBX.out).b2_two 1
          have r2 := obj_cell (HBX.out).b2_one 2
          have s2 := obj_cell (HBX.out).b2_two 2
          obtain ⟨g0, hg0⟩ : ∃ g0, g0 = gk := ⟨_, rfl⟩
          subst hg0
          by_cases hlti : i < na
          · have ti : decide ((i : Int) < (na : Int)) = true := decide_eq_true (by omega)
            obtain ⟨x, hx⟩ : ∃ x, a.fields[i]? = some x := ⟨_, List.getElem?_eq_getElem (by have := HNA.out; omega)⟩
            obtain ⟨y, hy⟩ : ∃ y, b.fields[i]? = some y := ⟨_, List.getElem?_eq_getElem (by have := HNBX.out; omega)⟩
            have HXI := Lib.hid hx
            have HYI := Lib.hid hy
            obtain ⟨gf, of, rfl, _, hcf⟩ := fd_at HAF.out hx
            obtain ⟨gg, og, rfl, _, hcg⟩ := fd_at HBF.out hy
            obtain ⟨d0, d1, d2, d3, d4, d5, d6⟩ := hcf _ HBX.out.b2_bel
            obtain ⟨e0, e1, e2, e3, e4, e5, e6⟩ := hcg _ HBX.out.b2_bel
            have hq := run_neq_fd x y
            obtain ⟨r, hr⟩ : ∃ r, r = decide (x = y) := ⟨_, rfl⟩
            have HR := Lib.hid hr
            rw [← hr] at hq
            clear hx hy hcf hcg hr
            obtain ⟨name1, num1, ty1, ref1, rep1, loose1, one1⟩ := x
            dsimp only at hq d0 d1 d2 d3 d4 d5 d6
            obtain ⟨sn1, hsn1⟩ : ∃ z, z = strOf name1 := ⟨_, rfl⟩
            rw [← hsn1] at hq d0
            obtain ⟨sr1, hsr1⟩ : ∃ z, z = strOf ref1 := ⟨_, rfl⟩
            rw [← hsr1] at hq d3
            obtain ⟨so1, hso1⟩ : ∃ z, z = strOf one1 := ⟨_, rfl⟩
            rw [← hso1] at hq d6
            clear hsn1 hsr1 hso1
            obtain ⟨name2, num2, ty2, ref2, rep2, loose2, one2⟩ := y
            dsimp only at hq e0 e1 e2 e3 e4 e5 e6
            obtain ⟨sn2, hsn2⟩ : ∃ z, z = strOf name2 := ⟨_, rfl⟩
            rw [← hsn2] at hq e0
            obtain ⟨sr2, hsr2⟩ : ∃ z, z = strOf ref2 := ⟨_, rfl⟩
            rw [← hsr2] at hq e3
            obtain ⟨so2, hso2⟩ : ∃ z, z = strOf one2 := ⟨_, rfl⟩
            rw [← hso2] at hq e6
            clear hsn2 hsr2 hso2
            cases r with
            | true =>
              go_wp2
              go_quiet (fail)
              go_wp2
              go_roundg (g0 - 1)
              case measure => omega
              case rel => exact ⟨i + 1, by go_num, by omega, (fun j x y hj hx hy => by
                            by_cases hji : j < i
                            · exact HALL.out j x y hji hx hy
                            · have : j = i := by omega
                              subst this
                              have e1 := HXI.out.symm.trans hx
                              have e2 := HYI.out.symm.trans hy
                              injection e1 with e1
                              injection e2 with e2
                              rw [← e1, ← e2]
                              exact of_decide_eq_true HR.out.symm), bx2_step HBX.out (drewN_under wr _)⟩
            | false =>
              have HO : Hid (decide (a = b) = false) := Lib.hid (decide_eq_false (fun e => lists_ne HXI.out HYI.out (of_decide_eq_false HR.out.symm) (HEQ.out.1 e).2.2))
              go_wp2
              go_quiet (fail)
              go_wp2
              go_ret
              exact ⟨ret_bool' HO.out.symm, (bx2_step HBX.out (drewN_under wr _)).b2_bel⟩
          · have ti : decide ((i : Int) < (na : Int)) = false := decide_eq_false (by omega)
            have HO : Hid (decide (a = b) = true) := Lib.hid (decide_eq_true (HEQ.out.2 ⟨HNM.out, HBA.out, lists_eq (by have := HNA.out; have := HNBX.out; omega) (fun j x y hx hy => HALL.out j x y (by have := (List.getElem?_eq_some_iff.mp hx).1; have := HNA.out; omega) hx hy)⟩))
            go_wp2
            go_ret
            exact ⟨ret_bool' HO.out.symm, HBX.out.b2_bel⟩
      · have t3 : ((na : Int) == (nb : Int)) = false := beq_false_of_ne (by omega)
        have t4 : ((na : Int) != (nb : Int)) = true := by simp; omega
        have t5 : ¬ na = nb := hl
        have HO : Hid (decide (a = b) = false) := Lib.hid (decide_eq_false (fun e => hl (by have := (HEQ.out.1 e).2.2; rw [hna, hnb, this])))
        clear hAf hAb hBf hBb hna hba hnb hbb hsa hsb
        go_enter Tryz.func40, Tryz.ntmps40
        go_wp2_with (first
          | (go_at_call 86; refine (HI.out _ HBX.out.b2_bel).mono ?_; rintro e w1 ⟨rfl, hb⟩; replace HBX := Lib.hid (bx2_step HBX.out hb); clear hb; have r0 := obj_cell HBX.out.b2_one 0; have s0 := obj_cell HBX.out.b2_two 0; have r1 := obj_cell HBX.out.b2_one 1; have s1 := obj_cell HBX.out.b2_two 1; have r2 := obj_cell HBX.out.b2_one 2; have s2 := obj_cell HBX.out.b2_two 2))
        go_ret
        exact ⟨ret_bool' HO.out.symm, HBX.out.b2_bel⟩
    · rw [decide_eq_false hb] at HI
      have HO : Hid (decide (a = b) = false) := Lib.hid (decide_eq_false (fun e => hb (HEQ.out.1 e).2.1))
      clear hAf hAb hBf hBb hna hba hnb hbb hsa hsb
      go_enter Tryz.func40, Tryz.ntmps40
      go_wp2_with (first
        | (go_at_call 86; refine (HI.out _ HBX.out.b2_bel).mono ?_; rintro e w1 ⟨rfl, hb⟩; replace HBX := Lib.hid (bx2_step HBX.out hb); clear hb; have r0 := obj_cell HBX.out.b2_one 0; have s0 := obj_cell HBX.out.b2_two 0; have r1 := obj_cell HBX.out.b2_one 1; have s1 := obj_cell HBX.out.b2_two 1; have r2 := obj_cell HBX.out.b2_one 2; have s2 := obj_cell HBX.out.b2_two 2))
      go_ret
      exact ⟨ret_bool' HO.out.symm, HBX.out.b2_bel⟩
  · have t1 : (sa.toList == sb.toList) = false := by rw [hs1]; exact decide_eq_false hn
    have t2 : ¬ sa.toList = sb.toList := fun e => hn (hs2.1 e)
    clear hs1 hs2
    have HO : Hid (decide (a = b) = false) := Lib.hid (decide_eq_false (fun e => hn (HEQ.out.1 e).1))
    clear hAf hAb hBf hBb hna hba hnb hbb hsa hsb
    go_enter Tryz.func40, Tryz.ntmps40
    go_wp2
    go_ret
    exact ⟨ret_bool' HO.out.symm, HBX.out.b2_bel⟩

set_option maxHeartbeats 16000000 in
theorem rvsame_any {S T : Nat → Nat → Prop} (w : World) {A A2 B B2 : Option Addr} {n cap n2 cap2 m cb m2 cb2 : Nat} {s t : Sc} (h : ScAt S w A n cap A2 n2 cap2 s) (k : ScAt T w B m cb B2 m2 cb2 t) :
    Calls Tryz.prog 14 #[.agg #[.slice A n cap, .slice A2 n2 cap2], .agg #[.slice B m cb, .slice B2 m2 cb2]] w fun e w' => e = .returned (.bool (decide (s = t))) ∧ Below w.heap.size w w' := by
  obtain ⟨m1, m3, m4, m5⟩ := scAt_max h
  obtain ⟨k1, k3, k4, k5⟩ := scAt_max k
  have H := Lib.hid h
  have K := Lib.hid k
  have HEQ : Hid (s = t ↔ s.enums = t.enums ∧ s.msgs = t.msgs) := Lib.hid ⟨fun e => by rw [e]; exact ⟨rfl, rfl⟩, fun ⟨e1, e2⟩ => by cases s; cases t; dsimp only at e1 e2; rw [e1, e2]⟩
  have HBX := Lib.hid (bx2_start w #[.slice A n cap, .slice A2 n2 cap2] #[.slice B m cb, .slice B2 m2 cb2] 25 25)
  clear h k
  have r0 := obj_cell (HBX.out).b2_one 0
  have s0 := obj_cell (HBX.out).b2_two 0
  have r1 := obj_cell (HBX.out).b2_one 1
  have s1 := obj_cell (HBX.out).b2_two 1
  by_cases hn : n = m
  · subst hn
    by_cases hn2 : n2 = m2
    · subst hn2
      go_enter Tryz.func14, Tryz.ntmps14
      go_wp2
      clear r0 r1 s0 s1
      go_loopg [5] n (fun gz x0 wr => ∃ i : Nat, x0 = .int .i64 (i : Int) ∧ i + gz = n ∧ (∀ (j : Nat) a b, j < i → s.enums[j]? = some a → t.enums[j]? = some b → a = b) ∧ Bx2 w wr (.cells #[.slice A n cap, .slice A2 n2 cap2] 25 (0, 0)) (.cells #[.slice B n cb, .slice B2 n2 cb2] 25 (0, 0)))
      case atStart => exact ⟨0, rfl, by omega, fun j a b hj => absurd hj (Nat.not_lt_zero _), HBX.out⟩
      case round =>
        obtain ⟨i, rfl, hi, hall, hbx⟩ := hrel
        have HALL := Lib.hid hall
        have HBX := Lib.hid hbx
        clear hall hbx
        have r0 := obj_cell (HBX.out).b2_one 0
        have s0 := obj_cell (HBX.out).b2_two 0
        have r1 := obj_cell (HBX.out).b2_one 1
        have s1 := obj_cell (HBX.out).b2_two 1
        obtain ⟨g0, hg0⟩ : ∃ g0, g0 = gk := ⟨_, rfl⟩
        subst hg0
        by_cases hlti : i < n
        · have ti : decide ((i : Int) < (n : Int)) = true := decide_eq_true (by omega)
          obtain ⟨x, hx⟩ : ∃ x, s.enums[i]? = some x := ⟨_, List.getElem?_eq_getElem (by have := H.out.s_ne; omega)⟩
          obtain ⟨y, hy⟩ : ∃ y, t.enums[i]? = some y := ⟨_, List.getElem?_eq_getElem (by have := K.out.s_ne; omega)⟩
          have HXI := Lib.hid hx
          have HYI := Lib.hid hy
          obtain ⟨ge, oe, A1, cap1, rfl, _, hc, hl⟩ := en_at H.out.s_e hx
          obtain ⟨gb, ob, B1, cb1, rfl, _, hd, hm⟩ := en_at K.out.s_e hy
          have q1 := hl.l_le
          have q2 := hl.l_max
          have q3 := hm.l_le
          have q4 := hm.l_max
          unfold maxLen at q2 q4
          have HL := Lib.hid hl
          have HM := Lib.hid hm
          obtain ⟨nv, hnv⟩ : ∃ z, z = x.values.length := ⟨_, rfl⟩
          have HNV := Lib.hid hnv
          rw [← hnv] at hc q1
          obtain ⟨nw, hnw⟩ : ∃ z, z = y.values.length := ⟨_, rfl⟩
          have HNW := Lib.hid hnw
          rw [← hnw] at hd q3
          obtain ⟨sn, hsn⟩ : ∃ z, z = strOf x.name := ⟨_, rfl⟩
          rw [← hsn] at hc
          obtain ⟨sm, hsm⟩ : ∃ z, z = strOf y.name := ⟨_, rfl⟩
          rw [← hsm] at hd
          have HC := Lib.hid hc
          have HD := Lib.hid hd
          obtain ⟨c0, c1⟩ := hc _ HBX.out.b2_bel
          obtain ⟨e0, e1⟩ := hd _ HBX.out.b2_bel
          have hs1 : (sn.toList == sm.toList) = decide (x.name = y.name) := by rw [hsn, hsm, strOf_beq]
          have hs2 : sn.toList = sm.toList ↔ x.name = y.name := by rw [hsn, hsm, str_list, str_list]
          clear hx hy hc hd hl hm hnv hnw hsn hsm
          by_cases hnm : x.name = y.name
          · have t1 : (sn.toList == sm.toList) = true := by rw [hs1]; exact decide_eq_true hnm
            have t2 : sn.toList = sm.toList := hs2.2 hnm
            have HNM := Lib.hid hnm
            clear hs1 hs2 hnm
            by_cases hv : nv = nw
            · subst hv
              have t3 : ((nv : Int) == (nv : Int)) = true := beq_self_eq_true _
              have t4 : ((nv : Int) != (nv : Int)) = false := by simp
              go_wp2
              go_quiet (fail)
              go_wp2
              have HBX2 := Lib.hid (bx2_step HBX.out (drewN_under wr nq))
              clear c0 c1 e0 e1 r0 r1 s0 s1
              go_loopg [6] nv (fun gz x0 wr => ∃ k : Nat, x0 = .int .i64 (k : Int) ∧ k + gz = nv ∧ (∀ (j : Nat) a b, j < k → x.values[j]? = some a → y.values[j]? = some b → a = b) ∧ Bx2 w wr (.cells #[.slice (some ⟨ge, oe, none⟩) n cap, .slice A2 n2 cap2] 25 (0, 0)) (.cells #[.slice (some ⟨gb, ob, none⟩) n cb, .slice B2 n2 cb2] 25 (0, 0)))
              case atStart => exact ⟨0, rfl, by omega, fun j a b hj => absurd hj (Nat.not_lt_zero _), HBX2.out⟩
              case round =>
                obtain ⟨k, rfl, hk, halk, hbx⟩ := hrel
                have HALK := Lib.hid halk
                have HBX := Lib.hid hbx
                clear halk hbx
                have r0 := obj_cell (HBX.out).b2_one 0
                have s0 := obj_cell (HBX.out).b2_two 0
                have r1 := obj_cell (HBX.out).b2_one 1
                have s1 := obj_cell (HBX.out).b2_two 1
                obtain ⟨c0, c1⟩ := HC.out _ HBX.out.b2_bel
                obtain ⟨e0, e1⟩ := HD.out _ HBX.out.b2_bel
                obtain ⟨g1, hg1⟩ : ∃ g1, g1 = gk := ⟨_, rfl⟩
                subst hg1
                by_cases hltk : k < nv
                · have tk : decide ((k : Int) < (nv : Int)) = true := decide_eq_true (by omega)
                  obtain ⟨v, hv⟩ : ∃ v, x.values[k]? = some v := ⟨_, List.getElem?_eq_getElem (by have := HNV.out; omega)⟩
                  obtain ⟨u, hu⟩ : ∃ u, y.values[k]? = some u := ⟨_, List.getElem?_eq_getElem (by have := HNW.out; omega)⟩
                  have HVI := Lib.hid hv
                  have HUI := Lib.hid hu
                  obtain ⟨gv, ov, rfl, _, hcv⟩ := vl_at HL.out hv
                  obtain ⟨gu, ou, rfl, _, hcu⟩ := vl_at HM.out hu
                  obtain ⟨d0, d1⟩ := hcv _ HBX.out.b2_bel
                  obtain ⟨f0, f1⟩ := hcu _ HBX.out.b2_bel
                  have hq := run_neq_vl v u
                  obtain ⟨r, hr⟩ : ∃ r, r = decide (v = u) := ⟨_, rfl⟩
                  have HR := Lib.hid hr
                  rw [← hr] at hq
                  clear hv hu hcv hcu hr
                  obtain ⟨name1, num1⟩ := v
                  dsimp only at hq d0 d1
                  obtain ⟨sv1, hsv1⟩ : ∃ z, z = strOf name1 := ⟨_, rfl⟩
                  rw [← hsv1] at hq d0
                  clear hsv1
                  obtain ⟨name2, num2⟩ := u
                  dsimp only at hq f0 f1
                  obtain ⟨sv2, hsv2⟩ : ∃ z, z = strOf name2 := ⟨_, rfl⟩
                  rw [← hsv2] at hq f0
                  clear hsv2
                  cases r with
                  | true =>
                    go_wp2
                    go_quiet (fail)
                    go_wp2
                    go_roundg (g1 - 1)
                    case measure => omega
                    case rel => exact ⟨k + 1, by go_num, by omega, (fun j a b hj ha hb => by
                                    by_cases hjk : j < k
                                    · exact HALK.out j a b hjk ha hb
                                    · have : j = k := by omega
                                      subst this
                                      have e1 := HVI.out.symm.trans ha
                                      have e2 := HUI.out.symm.trans hb
                                      injection e1 with e1
                                      injection e2 with e2
                                      rw [← e1, ← e2]
                                      exact of_decide_eq_true HR.out.symm), bx2_step HBX.out (drewN_under wr _)⟩
                  | false =>
                    have HO : Hid (decide (s = t) = false) := Lib.hid (decide_eq_false (fun e => lists_ne HXI.out HYI.out (fun e2 => lists_ne HVI.out HUI.out (of_decide_eq_false HR.out.symm) (congrArg En.values e2)) (HEQ.out.1 e).1))
                    go_wp2
                    go_quiet (fail)
                    go_wp2
                    go_ret
                    exact ⟨ret_bool' HO.out.symm, (bx2_step HBX.out (drewN_under wr _)).b2_bel⟩
                · have tk : decide ((k : Int) < (nv : Int)) = false := decide_eq_false (by omega)
                  have HXY : Hid (x = y) := Lib.hid (by have hv := lists_eq (by have := HNV.out; have := HNW.out; omega) (fun j a b ha hb => HALK.out j a b (by have := (List.getElem?_eq_some_iff.mp ha).1; have := HNV.out; omega) ha hb); have hn := HNM.out; cases x; cases y; dsimp only at hv hn; rw [hv, hn])
                  go_wp2
                  go_roundg (g0 - 1)
                  case measure => omega
                  case rel => exact ⟨i + 1, by go_num, by omega, (fun j a b hj ha hb => by
                                  by_cases hji : j < i
                                  · exact HALL.out j a b hji ha hb
                                  · have : j = i := by omega
                                    subst this
                                    have e1 := HXI.out.symm.trans ha
                                    have e2 := HYI.out.symm.trans hb
                                    injection e1 with e1
                                    injection e2 with e2
                                    rw [← e1, ← e2]
                                    exact HXY.out), HBX.out⟩
            · have t3 : ((nv : Int) == (nw : Int)) = false := beq_false_of_ne (by omega)
              have t4 : ((nv : Int) != (nw : Int)) = true := by simp; omega
              have t5 : ¬ nv = nw := hv
              have HO : Hid (decide (s = t) = false) := Lib.hid (decide_eq_false (fun e => lists_ne HXI.out HYI.out (fun e2 => hv (by rw [HNV.out, HNW.out, e2])) (HEQ.out.1 e).1))
              go_wp2
              go_quiet (fail)
              go_wp2
              go_ret
              exact ⟨ret_bool' HO.out.symm, (bx2_step HBX.out (drewN_under wr _)).b2_bel⟩
          · have t1 : (sn.toList == sm.toList) = false := by rw [hs1]; exact decide_eq_false hnm
            have t2 : ¬ sn.toList = sm.toList := fun e => hnm (hs2.1 e)
            have HO : Hid (decide (s = t) = false) := Lib.hid (decide_eq_false (fun e => lists_ne HXI.out HYI.out (fun e2 => hnm (by rw [e2])) (HEQ.out.1 e).1))
            clear hs1 hs2
            go_wp2
            go_quiet (fail)
            go_wp2
            go_ret
            exact ⟨ret_bool' HO.out.symm, (bx2_step HBX.out (drewN_under wr _)).b2_bel⟩
        · have ti : decide ((i : Int) < (n : Int)) = false := decide_eq_false (by omega)
          have HEE : Hid (s.enums = t.enums) := Lib.hid (lists_eq (by have := H.out.s_ne; have := K.out.s_ne; omega) (fun j a b ha hb => HALL.out j a b (by have := (List.getElem?_eq_some_iff.mp ha).1; have := H.out.s_ne; omega) ha hb))
          go_wp2
          go_loopg [7] n2 (fun gz x0 wr => ∃ i : Nat, x0 = .int .i64 (i : Int) ∧ i + gz = n2 ∧ (∀ (j : Nat) a b, j < i → s.msgs[j]? = some a → t.msgs[j]? = some b → a = b) ∧ Bx2 w wr (.cells #[.slice A n cap, .slice A2 n2 cap2] 25 (0, 0)) (.cells #[.slice B n cb, .slice B2 n2 cb2] 25 (0, 0)))
          case atStart => exact ⟨0, rfl, by omega, fun j a b hj => absurd hj (Nat.not_lt_zero _), HBX.out⟩
          case round =>
            obtain ⟨i, rfl, hi, hall, hbx⟩ := hrel
            have HALL := Lib.hid hall
            have HBX := Lib.hid hbx
            clear hall hbx
            have r0 := obj_cell (HBX.out).b2_one 0
            have s0 := obj_cell (HBX.out).b2_two 0
            have r1 := obj_cell (HBX.out).b2_one 1
            have s1 := obj_cell (HBX.out).b2_two 1
            obtain ⟨g0, hg0⟩ : ∃ g0, g0 = gk := ⟨_, rfl⟩
            subst hg0
            by_cases hlti : i < n2
            · have ti : decide ((i : Int) < (n2 : Int)) = true := decide_eq_true (by omega)
              obtain ⟨x, hx⟩ : ∃ x, s.msgs[i]? = some x := ⟨_, List.getElem?_eq_getElem (by have := H.out.s_nm; omega)⟩
              obtain ⟨y, hy⟩ : ∃ y, t.msgs[i]? = some y := ⟨_, List.getElem?_eq_getElem (by have := K.out.s_nm; omega)⟩
              have HXI := Lib.hid hx
              have HYI := Lib.hid hy
              obtain ⟨ge, oe, X1, xc1, X3, xc3, rfl, _, hc, hl, hl2⟩ := ms_at H.out.s_m hx
              obtain ⟨gb, ob, Y1, yc1, Y3, yc3, rfl, _, hd, hm, hm2⟩ := ms_at K.out.s_m hy
              obtain ⟨nf, hnf⟩ : ∃ z, z = x.fields.length := ⟨_, rfl⟩
              rw [← hnf] at hc
              obtain ⟨nb, hnb⟩ : ∃ z, z = x.barred.length := ⟨_, rfl⟩
              rw [← hnb] at hc
              obtain ⟨mf, hmf⟩ : ∃ z, z = y.fields.length := ⟨_, rfl⟩
              rw [← hmf] at hd
              obtain ⟨mb, hmb⟩ : ∃ z, z = y.barred.length := ⟨_, rfl⟩
              rw [← hmb] at hd
              obtain ⟨sn, hsn⟩ : ∃ z, z = strOf x.name := ⟨_, rfl⟩
              rw [← hsn] at hc
              obtain ⟨sm, hsm⟩ : ∃ z, z = strOf y.name := ⟨_, rfl⟩
              rw [← hsm] at hd
              have HSM := Lib.hid (fun u (hb : Below w.heap.size w u) => rvsamemsg_any u (lst_keep hl fdR_keep (fun _ h => h) (bel_keep hb)) (lst_keep hl2 inR_keep (fun _ h => h) (bel_keep hb)) (lst_keep hm fdR_keep (fun _ h => h) (bel_keep hb)) (lst_keep hm2 inR_keep (fun _ h => h) (bel_keep hb)) hnf hnb hmf hmb sn sm hsn hsm)
              obtain ⟨r, hr⟩ : ∃ r, r = decide (x = y) := ⟨_, rfl⟩
              have HR := Lib.hid hr
              rw [← hr] at HSM
              have HSK : Hid (∀ w', Bx2 w w' (.cells #[.slice A n cap, .slice (some ⟨ge, oe, none⟩) n2 cap2] 25 (0, 0)) (.cells #[.slice B n cb, .slice (some ⟨gb, ob, none⟩) n2 cb2] 25 (0, 0)) → w'.cell? ⟨w.heap.size, 1, none⟩ = some (.slice (some ⟨ge, oe, none⟩) n2 cap2) ∧ w'.cell? ⟨w.heap.size + 1, 1, none⟩ = some (.slice (some ⟨gb, ob, none⟩) n2 cb2) ∧ w'.cell? ⟨ge, oe + i * 3, none⟩ = some (.string sn) ∧ w'.cell? ⟨ge, oe + i * 3 + 1, none⟩ = some (.slice X1 nf xc1) ∧ w'.cell? ⟨ge, oe + i * 3 + 2, none⟩ = some (.slice X3 nb xc3) ∧ w'.cell? ⟨gb, ob + i * 3, none⟩ = some (.string sm) ∧ w'.cell? ⟨gb, ob + i * 3 + 1, none⟩ = some (.slice Y1 mf yc1) ∧ w'.cell? ⟨gb, ob + i * 3 + 2, none⟩ = some (.slice Y3 mb yc3)) := Lib.hid (fun w' hb => ⟨obj_cell hb.b2_one 1, obj_cell hb.b2_two 1, (hc _ hb.b2_bel).1, (hc _ hb.b2_bel).2.1, (hc _ hb.b2_bel).2.2, (hd _ hb.b2_bel).1, (hd _ hb.b2_bel).2.1, (hd _ hb.b2_bel).2.2⟩)
              clear hx hy hc hd hl hl2 hm hm2 hnf hnb hmf hmb hsn hsm hr
              replace HBX := Lib.hid (bx2_step HBX.out (drewN_under wr 1))
              cases r with
              | true =>
                go_wp2
                go_region_held3 (fun w' => w'.cell? ⟨w.heap.size, 1, none⟩ = some (.slice (some ⟨ge, oe, none⟩) n2 cap2) ∧ w'.cell? ⟨w.heap.size + 1, 1, none⟩ = some (.slice (some ⟨gb, ob, none⟩) n2 cb2) ∧ w'.cell? ⟨ge, oe + i * 3, none⟩ = some (.string sn) ∧ w'.cell? ⟨ge, oe + i * 3 + 1, none⟩ = some (.slice X1 nf xc1) ∧ w'.cell? ⟨ge, oe + i * 3 + 2, none⟩ = some (.slice X3 nb xc3) ∧ w'.cell? ⟨gb, ob + i * 3, none⟩ = some (.string sm) ∧ w'.cell? ⟨gb, ob + i * 3 + 1, none⟩ = some (.slice Y1 mf yc1) ∧ w'.cell? ⟨gb, ob + i * 3 + 2, none⟩ = some (.slice Y3 mb yc3))
                  (exact HSK.out _ HBX.out)
                  (first | (go_at_call 40; refine (HSM.out _ HBX.out.b2_bel).mono ?_; rintro e w1 ⟨rfl, hb⟩; replace HBX := Lib.hid (bx2_step HBX.out hb); clear hb))
                go_wp2
                go_roundg (g0 - 1)
                case measure => omega
                case rel => exact ⟨i + 1, by go_num, by omega, (fun j a b hj ha hb => by
                                by_cases hji : j < i
                                · exact HALL.out j a b hji ha hb
                                · have : j = i := by omega
                                  subst this
                                  have e1 := HXI.out.symm.trans ha
                                  have e2 := HYI.out.symm.trans hb
                                  injection e1 with e1
                                  injection e2 with e2
                                  rw [← e1, ← e2]
                                  exact of_decide_eq_true HR.out.symm), HBX.out⟩
              | false =>
                have HO : Hid (decide (s = t) = false) := Lib.hid (decide_eq_false (fun e => lists_ne HXI.out HYI.out (of_decide_eq_false HR.out.symm) (HEQ.out.1 e).2))
                go_wp2
                go_region_held3 (fun w' => w'.cell? ⟨w.heap.size, 1, none⟩ = some (.slice (some ⟨ge, oe, none⟩) n2 cap2) ∧ w'.cell? ⟨w.heap.size + 1, 1, none⟩ = some (.slice (some ⟨gb, ob, none⟩) n2 cb2) ∧ w'.cell? ⟨ge, oe + i * 3, none⟩ = some (.string sn) ∧ w'.cell? ⟨ge, oe + i * 3 + 1, none⟩ = some (.slice X1 nf xc1) ∧ w'.cell? ⟨ge, oe + i * 3 + 2, none⟩ = some (.slice X3 nb xc3) ∧ w'.cell? ⟨gb, ob + i * 3, none⟩ = some (.string sm) ∧ w'.cell? ⟨gb, ob + i * 3 + 1, none⟩ = some (.slice Y1 mf yc1) ∧ w'.cell? ⟨gb, ob + i * 3 + 2, none⟩ = some (.slice Y3 mb yc3))
                  (exact HSK.out _ HBX.out)
                  (first | (go_at_call 40; refine (HSM.out _ HBX.out.b2_bel).mono ?_; rintro e w1 ⟨rfl, hb⟩; replace HBX := Lib.hid (bx2_step HBX.out hb); clear hb))
                go_wp2
                go_ret
                exact ⟨ret_bool' HO.out.symm, HBX.out.b2_bel⟩
            · have ti : decide ((i : Int) < (n2 : Int)) = false := decide_eq_false (by omega)
              have HO : Hid (decide (s = t) = true) := Lib.hid (decide_eq_true (HEQ.out.2 ⟨HEE.out, lists_eq (by have := H.out.s_nm; have := K.out.s_nm; omega) (fun j a b ha hb => HALL.out j a b (by have := (List.getElem?_eq_some_iff.mp ha).1; have := H.out.s_nm; omega) ha hb)⟩))
              go_wp2
              go_ret
              exact ⟨ret_bool' HO.out.symm, HBX.out.b2_bel⟩
    · have t3 : ((n2 : Int) == (m2 : Int)) = false := beq_false_of_ne (by omega)
      have t4 : ((n2 : Int) != (m2 : Int)) = true := by simp; omega
      have t5 : ¬ n2 = m2 := hn2
      have HO : Hid (decide (s = t) = false) := Lib.hid (decide_eq_false (fun e => hn2 (by rw [H.out.s_nm, K.out.s_nm, e])))
      go_enter Tryz.func14, Tryz.ntmps14
      go_wp2
      go_ret
      exact ⟨ret_bool' HO.out.symm, HBX.out.b2_bel⟩
  · have t3 : ((n : Int) == (m : Int)) = false := beq_false_of_ne (by omega)
    have t4 : ((n : Int) != (m : Int)) = true := by simp; omega
    have t5 : ¬ n = m := hn
    have HO : Hid (decide (s = t) = false) := Lib.hid (decide_eq_false (fun e => hn (by rw [H.out.s_ne, K.out.s_ne, e])))
    go_enter Tryz.func14, Tryz.ntmps14
    go_wp2
    go_ret
    exact ⟨ret_bool' HO.out.symm, HBX.out.b2_bel⟩
end Go.Proofs.YtpbhokmpbcmdcaaGreatDoor

/- The document's layer 15: which are not too great. Conditions: those that each theorem names. -/
namespace Go.Proofs.YtpbhokmpbcmdcaaGreatDoor
open Go.RowKit
set_option linter.unusedVariables false
set_option maxRecDepth 100000

set_option maxHeartbeats 8000000 in
theorem rvsmall_any {S : Nat → Nat → Prop} (w : World) {A A2 : Option Addr} {n cap n2 cap2 : Nat} {s : Sc} (h : ScAt S w A n cap A2 n2 cap2 s) (hok : ScOk s) :
    Calls Tryz.prog 6 #[.agg #[.slice A n cap, .slice A2 n2 cap2]] w fun e w' => e = .returned (.bool (smallT s)) ∧ Below w.heap.size w w' := by
  obtain ⟨m1, m2, m3, m4⟩ := scAt_max h
  have H := Lib.hid h
  have HBX := Lib.hid (bx_start w #[.slice A n cap, .slice A2 n2 cap2] 25)
  have HOK := Lib.hid hok
  have HLN : Hid (n ≤ lenM ∧ n2 ≤ lenM) := Lib.hid (by have := hok.1; have := hok.2.1; have := h.s_ne; have := h.s_nm; omega)
  have HWG : Hid (weigh s = ((n + n2) + (s.enums.map weighE).sum) + (s.msgs.map weighM).sum) := Lib.hid (by unfold weigh; rw [h.s_ne, h.s_nm])
  have gw0 : IntKind.i64.wrap ((n : Int) + (n2 : Int)) = (n : Int) + (n2 : Int) := IntWalk.i64_in _ (by have := HLN.out; unfold lenM at this; omega)
  clear h hok
  have r0 := obj_cell (HBX.out).b_blk 0
  have r1 := obj_cell (HBX.out).b_blk 1
  go_enter Tryz.func6, Tryz.ntmps6
  go_wp2
  clear r0 r1
  go_loopg [3, 4] n (fun gz x0 x1 wr => ∃ i : Nat, x1 = .int .i64 (i : Int) ∧ i + gz = n ∧ ∃ N : Nat, x0 = .int .i64 (N : Int) ∧ N = (n + n2) + ((s.enums.take i).map weighE).sum ∧ Bx w wr (.cells #[.slice A n cap, .slice A2 n2 cap2] 25 (0, 0)))
  case atStart => exact ⟨0, rfl, by omega, n + n2, (by rw [Int.natCast_add]), (by simp), HBX.out⟩
  case round =>
    obtain ⟨i, rfl, hi, N, rfl, hns, hbx⟩ := hrel
    have HBX := Lib.hid hbx
    clear hbx
    have r0 := obj_cell (HBX.out).b_blk 0
    have r1 := obj_cell (HBX.out).b_blk 1
    obtain ⟨g0, hg0⟩ : ∃ g0, g0 = gk := ⟨_, rfl⟩
    subst hg0
    by_cases hlti : i < n
    · have ti : decide ((i : Int) < (n : Int)) = true := decide_eq_true (by omega)
      have HNS := Lib.hid hns
      clear hns
      by_cases h200 : N < 200
      · have t2 : decide ((N : Int) < 200) = true := decide_eq_true (by omega)
        have t3 : (N : Int) < 200 := by omega
        obtain ⟨x, hx⟩ : ∃ x, s.enums[i]? = some x := ⟨_, List.getElem?_eq_getElem (by have := H.out.s_ne; omega)⟩
        have HXI := Lib.hid hx
        obtain ⟨ge, oe, A1, cap1, rfl, _, hc, hl⟩ := en_at H.out.s_e hx
        have q1 := hl.l_le
        have q2 := hl.l_max
        unfold maxLen at q2
        have HL := Lib.hid hl
        obtain ⟨nv, hnv⟩ : ∃ nv, nv = x.values.length := ⟨_, rfl⟩
        have HNV := Lib.hid hnv
        rw [← hnv] at hc q1
        obtain ⟨sn, hsn⟩ : ∃ sn, sn = strOf x.name := ⟨_, rfl⟩
        have HSN := Lib.hid hsn
        rw [← hsn] at hc
        have HC := Lib.hid hc
        clear hx hl hnv hsn hc
        obtain ⟨c0, c1⟩ := HC.out _ HBX.out.b_bel
        have hxo := HOK.out.2.2.1 x (List.mem_of_getElem? HXI.out)
        obtain ⟨z, hz⟩ : ∃ z, z = sn.size := ⟨_, rfl⟩
        obtain ⟨q, hq⟩ : ∃ q, q = z / 10 := ⟨_, rfl⟩
        have hzl : z = x.name.length := by rw [hz, HSN.out, str_size]
        have HLX : Hid (nv ≤ lenM ∧ q ≤ lenM) := Lib.hid ⟨by rw [HNV.out]; exact hxo.2.1, by rw [hq, hzl]; have := hxo.1; omega⟩
        have HWX : Hid (weighE x = nv + q) := Lib.hid (by unfold weighE; rw [HNV.out, hq, hzl])
        have hsz : sn.size = z := hz.symm
        have hd1 : (z : Int).tdiv 10 = (q : Int) := by rw [Int.tdiv_eq_ediv_of_nonneg (by omega)]; omega
        have hd2 : (z : Int) / 10 = (q : Int) := by omega
        have hd3 : z / 10 = q := hq.symm
        have gq : IntKind.i64.wrap (q : Int) = (q : Int) := IntWalk.i64_in _ (by have := HLX.out; unfold lenM at this; omega)
        have gw1 : IntKind.i64.wrap ((N : Int) + (nv : Int)) = (N : Int) + (nv : Int) := IntWalk.i64_in _ (by have := HLX.out; unfold lenM at this; omega)
        have gw2 : IntKind.i64.wrap ((N : Int) + (nv : Int) + (q : Int)) = (N : Int) + (nv : Int) + (q : Int) := IntWalk.i64_in _ (by have := HLX.out; unfold lenM at this; omega)
        clear hxo hz hzl hq
        go_wp2
        go_quiet (fail)
        go_wp2
        go_roundg (g0 - 1)
        case measure => omega
        case rel => exact ⟨i + 1, by go_num, by omega, N + nv + q, (by rw [show ((N + nv + q : Nat) : Int) = (N : Int) + (nv : Int) + (q : Int) by omega]), (by rw [sum_snoc _ _ _ _ HXI.out, HWX.out, HNS.out]; omega), bx_drew HBX.out _⟩
      · have t2 : decide ((N : Int) < 200) = false := decide_eq_false (by omega)
        have t3 : ¬ (N : Int) < 200 := by omega
        have HNO : Hid (smallT s = false) := Lib.hid (small_no (by have := HWG.out; have := HNS.out; have := sum_take s.enums weighE i; omega))
        have t4 : decide ((N : Int) ≥ 200) = true := decide_eq_true (by omega)
        have t5 : decide ((200 : Int) ≤ (N : Int)) = true := decide_eq_true (by omega)
        have HN200 : Hid (200 ≤ N) := Lib.hid (by omega)
        go_wp2
        go_loopg [3, 5] 1 (fun gz x0 x1 wr => x0 = .int .i64 (N : Int) ∧ x1 = .int .i64 0 ∧ Bx w wr (.cells #[.slice A n cap, .slice A2 n2 cap2] 25 (0, 0)))
        case atStart => exact ⟨rfl, rfl, HBX.out⟩
        case round =>
          obtain ⟨rfl, rfl, hbx⟩ := hrel
          have HBX := Lib.hid hbx
          clear hbx
          have r0 := obj_cell (HBX.out).b_blk 0
          have r1 := obj_cell (HBX.out).b_blk 1
          by_cases h0 : 0 < n2
          · have t6 : decide ((0 : Int) < (n2 : Int)) = true := decide_eq_true (by omega)
            have t7 : decide (0 < n2) = true := decide_eq_true (by omega)
            go_wp2
            go_ret
            exact ⟨ret_bool' HNO.out.symm, HBX.out.b_bel⟩
          · have t6 : decide ((0 : Int) < (n2 : Int)) = false := decide_eq_false (by omega)
            have t7 : decide (0 < n2) = false := decide_eq_false (by omega)
            go_wp2
            go_ret
            exact ⟨ret_bool' HNO.out.symm, HBX.out.b_bel⟩
    · have ti : decide ((i : Int) < (n : Int)) = false := decide_eq_false (by omega)
      have HNS := Lib.hid hns
      clear hns
      have HTE : Hid (((s.enums.take i).map weighE).sum = (s.enums.map weighE).sum) := Lib.hid (by rw [List.take_of_length_le (by have := H.out.s_ne; omega)])
      rw [HTE.out] at HNS
      by_cases h200 : N < 200
      · skip
        have HN2 : Hid (N < 200) := Lib.hid h200
        clear h200
        go_wp2
        clear r0 r1
        go_loopg [3, 5] n2 (fun gz x0 x1 wr => ∃ i : Nat, x1 = .int .i64 (i : Int) ∧ i + gz = n2 ∧ ∃ N : Nat, x0 = .int .i64 (N : Int) ∧ N = ((n + n2) + (s.enums.map weighE).sum) + ((s.msgs.take i).map weighM).sum ∧ Bx w wr (.cells #[.slice A n cap, .slice A2 n2 cap2] 25 (0, 0)))
        case atStart => exact ⟨0, rfl, by omega, N, rfl, (by rw [HNS.out]; simp), HBX.out⟩
        case round =>
          obtain ⟨i, rfl, hi, N, rfl, hnm, hbx⟩ := hrel
          have HBX := Lib.hid hbx
          clear hbx
          have r0 := obj_cell (HBX.out).b_blk 0
          have r1 := obj_cell (HBX.out).b_blk 1
          obtain ⟨g0, hg0⟩ : ∃ g0, g0 = gk := ⟨_, rfl⟩
          subst hg0
          by_cases hlti : i < n2
          · have ti : decide ((i : Int) < (n2 : Int)) = true := decide_eq_true (by omega)
            have HNM := Lib.hid hnm
            clear hnm
            by_cases h200 : N < 200
            · have t2 : decide ((N : Int) < 200) = true := decide_eq_true (by omega)
              have t3 : (N : Int) < 200 := by omega
              obtain ⟨x, hx⟩ : ∃ x, s.msgs[i]? = some x := ⟨_, List.getElem?_eq_getElem (by have := H.out.s_nm; omega)⟩
              have HXI := Lib.hid hx
              obtain ⟨ge, oe, A1, cap1, A3, cap3, rfl, _, hc, hl, hl2⟩ := ms_at H.out.s_m hx
              have q1 := hl.l_le
              have q2 := hl.l_max
              have q3 := hl2.l_le
              have q4 := hl2.l_max
              unfold maxLen at q2 q4
              have HL := Lib.hid hl
              have HL2 := Lib.hid hl2
              obtain ⟨nf, hnf⟩ : ∃ nf, nf = x.fields.length := ⟨_, rfl⟩
              obtain ⟨nb, hnb⟩ : ∃ nb, nb = x.barred.length := ⟨_, rfl⟩
              have HNF := Lib.hid hnf
              have HNB := Lib.hid hnb
              rw [← hnf] at hc q1
              rw [← hnb] at hc q3
              obtain ⟨sn, hsn⟩ : ∃ sn, sn = strOf x.name := ⟨_, rfl⟩
              have HSN := Lib.hid hsn
              rw [← hsn] at hc
              have HC := Lib.hid hc
              clear hx hl hl2 hnf hnb hsn hc
              obtain ⟨c0, c1, c2⟩ := HC.out _ HBX.out.b_bel
              have hxo := HOK.out.2.2.2 x (List.mem_of_getElem? HXI.out)
              obtain ⟨z, hz⟩ : ∃ z, z = sn.size := ⟨_, rfl⟩
              obtain ⟨q, hq⟩ : ∃ q, q = z / 10 := ⟨_, rfl⟩
              have hzl : z = x.name.length := by rw [hz, HSN.out, str_size]
              have HLX : Hid (nf ≤ lenM ∧ nb ≤ lenM ∧ q ≤ lenM) := Lib.hid ⟨by rw [HNF.out]; exact hxo.2.1, by rw [HNB.out]; exact hxo.2.2.1, by rw [hq, hzl]; have := hxo.1; omega⟩
              have HWX : Hid (weighM x = nf + nb + q) := Lib.hid (by unfold weighM; rw [HNF.out, HNB.out, hq, hzl])
              have hsz : sn.size = z := hz.symm
              have hd1 : (z : Int).tdiv 10 = (q : Int) := by rw [Int.tdiv_eq_ediv_of_nonneg (by omega)]; omega
              have hd2 : (z : Int) / 10 = (q : Int) := by omega
              have hd3 : z / 10 = q := hq.symm
              have gq : IntKind.i64.wrap (q : Int) = (q : Int) := IntWalk.i64_in _ (by have := HLX.out; unfold lenM at this; omega)
              have gw1 : IntKind.i64.wrap ((N : Int) + (nf : Int)) = (N : Int) + (nf : Int) := IntWalk.i64_in _ (by have := HLX.out; unfold lenM at this; omega)
              have gw2 : IntKind.i64.wrap ((N : Int) + (nf : Int) + (nb : Int)) = (N : Int) + (nf : Int) + (nb : Int) := IntWalk.i64_in _ (by have := HLX.out; unfold lenM at this; omega)
              have gw3 : IntKind.i64.wrap ((N : Int) + (nf : Int) + (nb : Int) + (q : Int)) = (N : Int) + (nf : Int) + (nb : Int) + (q : Int) := IntWalk.i64_in _ (by have := HLX.out; unfold lenM at this; omega)
              clear hxo hz hzl hq
              go_wp2
              go_quiet (fail)
              go_wp2
              go_roundg (g0 - 1)
              case measure => omega
              case rel => exact ⟨i + 1, by go_num, by omega, N + nf + nb + q, (by rw [show ((N + nf + nb + q : Nat) : Int) = (N : Int) + (nf : Int) + (nb : Int) + (q : Int) by omega]), (by rw [sum_snoc _ _ _ _ HXI.out, HWX.out, HNM.out]; omega), bx_drew HBX.out _⟩
            · have t2 : decide ((N : Int) < 200) = false := decide_eq_false (by omega)
              have t3 : ¬ (N : Int) < 200 := by omega
              have HNO : Hid (smallT s = false) := Lib.hid (small_no (by have := HWG.out; have := HNM.out; have := sum_take s.msgs weighM i; omega))
              have t4 : decide ((N : Int) ≥ 200) = true := decide_eq_true (by omega)
              have t5 : decide ((200 : Int) ≤ (N : Int)) = true := decide_eq_true (by omega)
              go_wp2
              go_ret
              exact ⟨ret_bool' HNO.out.symm, HBX.out.b_bel⟩
          · have ti : decide ((i : Int) < (n2 : Int)) = false := decide_eq_false (by omega)
            have HNM := Lib.hid hnm
            clear hnm
            have HTM : Hid (((s.msgs.take i).map weighM).sum = (s.msgs.map weighM).sum) := Lib.hid (by rw [List.take_of_length_le (by have := H.out.s_nm; omega)])
            rw [HTM.out] at HNM
            by_cases h200 : N < 200
            · have t4 : decide ((N : Int) ≥ 200) = false := decide_eq_false (by omega)
              have t5 : decide ((200 : Int) ≤ (N : Int)) = false := decide_eq_false (by omega)
              have HWS : Hid (weigh s < 200) := Lib.hid (by have := HWG.out; have := HNM.out; omega)
              clear h200
              go_wp2
              clear r0 r1
              go_loopg [6] n (fun gz x0 wr => ∃ i : Nat, x0 = .int .i64 (i : Int) ∧ i + gz = n ∧ (s.enums.take i).any longE = false ∧ Bx w wr (.cells #[.slice A n cap, .slice A2 n2 cap2] 25 (0, 0)))
              case atStart => exact ⟨0, rfl, by omega, rfl, HBX.out⟩
              case round =>
                obtain ⟨i, rfl, hi, hfb, hbx⟩ := hrel
                have HBX := Lib.hid hbx
                clear hbx
                have r0 := obj_cell (HBX.out).b_blk 0
                have r1 := obj_cell (HBX.out).b_blk 1
                obtain ⟨g0, hg0⟩ : ∃ g0, g0 = gk := ⟨_, rfl⟩
                subst hg0
                by_cases hlti : i < n
                · have ti : decide ((i : Int) < (n : Int)) = true := decide_eq_true (by omega)
                  obtain ⟨x, hx⟩ : ∃ x, s.enums[i]? = some x := ⟨_, List.getElem?_eq_getElem (by have := H.out.s_ne; omega)⟩
                  have HXI := Lib.hid hx
                  obtain ⟨ge, oe, A1, cap1, rfl, _, hc, hl⟩ := en_at H.out.s_e hx
                  have q1 := hl.l_le
                  have q2 := hl.l_max
                  unfold maxLen at q2
                  have HL := Lib.hid hl
                  obtain ⟨nv, hnv⟩ : ∃ nv, nv = x.values.length := ⟨_, rfl⟩
                  have HNV := Lib.hid hnv
                  rw [← hnv] at hc q1
                  obtain ⟨sn, hsn⟩ : ∃ sn, sn = strOf x.name := ⟨_, rfl⟩
                  have HSN := Lib.hid hsn
                  rw [← hsn] at hc
                  have HC := Lib.hid hc
                  clear hx hl hnv hsn hc
                  obtain ⟨c0, c1⟩ := HC.out _ HBX.out.b_bel
                  have HFB := Lib.hid hfb
                  clear hfb
                  go_wp2
                  clear c0 c1
                  clear r0 r1
                  go_loopg [7] nv (fun gz x0 wr => ∃ k : Nat, x0 = .int .i64 (k : Int) ∧ k + gz = nv ∧ (x.values.take k).any longV = false ∧ Bx w wr (.cells #[.slice (some ⟨ge, oe, none⟩) n cap, .slice A2 n2 cap2] 25 (0, 0)))
                  case atStart => exact ⟨0, rfl, by omega, rfl, HBX.out⟩
                  case round =>
                    obtain ⟨k, rfl, hk, hfk, hbx⟩ := hrel
                    have HBX := Lib.hid hbx
                    clear hbx
                    have r0 := obj_cell (HBX.out).b_blk 0
                    have r1 := obj_cell (HBX.out).b_blk 1
                    obtain ⟨g1, hg1⟩ : ∃ g1, g1 = gk := ⟨_, rfl⟩
                    subst hg1
                    by_cases hltk : k < nv
                    · have tk : decide ((k : Int) < (nv : Int)) = true := decide_eq_true (by omega)
                      obtain ⟨v, hv⟩ : ∃ v, x.values[k]? = some v := ⟨_, List.getElem?_eq_getElem (by have := HNV.out; omega)⟩
                      have HVI := Lib.hid hv
                      obtain ⟨gv, ov, rfl, _, hcv⟩ := vl_at HL.out hv
                      obtain ⟨c0, c1⟩ := HC.out _ HBX.out.b_bel
                      obtain ⟨d0, d1⟩ := hcv _ HBX.out.b_bel
                      have HFK := Lib.hid hfk
                      clear hfk
                      obtain ⟨sv, hsv⟩ : ∃ sv, sv = strOf v.name := ⟨_, rfl⟩
                      obtain ⟨z, hz⟩ : ∃ z, z = v.name.length := ⟨_, rfl⟩
                      have hsz : sv.size = z := by rw [hsv, str_size, hz]
                      rw [← hsv] at d0
                      by_cases hl : 1000 < z
                      · have dl : decide ((z : Int) > 1000) = true := decide_eq_true (by omega)
                        have HNO : Hid (smallT s = false) := Lib.hid (small_noE (any_off HXI.out (p := longE) (any_off HVI.out (p := longV) (by unfold longV; rw [← hz]; exact decide_eq_true hl))))
                        clear hv hcv hsv hz
                        go_wp2
                        go_ret
                        exact ⟨ret_bool' HNO.out.symm, HBX.out.b_bel⟩
                      · have dl : decide ((z : Int) > 1000) = false := decide_eq_false (by omega)
                        have HXV : Hid ((x.values.take (k + 1)).any longV = false) := Lib.hid (by rw [any_snoc _ _ _ _ HVI.out, HFK.out]; unfold longV; rw [← hz]; exact decide_eq_false hl)
                        clear hv hcv hsv hz
                        go_wp2
                        go_roundg (g1 - 1)
                        case measure => omega
                        case rel => exact ⟨k + 1, by go_num, by omega, HXV.out, HBX.out⟩
                    · have tk : decide ((k : Int) < (nv : Int)) = false := decide_eq_false (by omega)
                      obtain ⟨c0, c1⟩ := HC.out _ HBX.out.b_bel
                      rw [any_whole x.values _ k (by have := HNV.out; omega)] at hfk
                      have HFK := Lib.hid hfk
                      clear hfk
                      go_wp2
                      go_roundg (g0 - 1)
                      case measure => omega
                      case rel => exact ⟨i + 1, by go_num, by omega, by rw [any_snoc s.enums longE i x HXI.out, HFB.out]; exact HFK.out, HBX.out⟩
                · have ti : decide ((i : Int) < (n : Int)) = false := decide_eq_false (by omega)
                  rw [any_whole s.enums _ i (by have := H.out.s_ne; omega)] at hfb
                  have HSE := Lib.hid hfb
                  clear hfb
                  go_wp2
                  clear r0 r1
                  go_loopg [8] n2 (fun gz x0 wr => ∃ i : Nat, x0 = .int .i64 (i : Int) ∧ i + gz = n2 ∧ (s.msgs.take i).any longM = false ∧ Bx w wr (.cells #[.slice A n cap, .slice A2 n2 cap2] 25 (0, 0)))
                  case atStart => exact ⟨0, rfl, by omega, rfl, HBX.out⟩
                  case round =>
                    obtain ⟨i, rfl, hi, hfb, hbx⟩ := hrel
                    have HBX := Lib.hid hbx
                    clear hbx
                    have r0 := obj_cell (HBX.out).b_blk 0
                    have r1 := obj_cell (HBX.out).b_blk 1
                    obtain ⟨g0, hg0⟩ : ∃ g0, g0 = gk := ⟨_, rfl⟩
                    subst hg0
                    by_cases hlti : i < n2
                    · have ti : decide ((i : Int) < (n2 : Int)) = true := decide_eq_true (by omega)
                      obtain ⟨x, hx⟩ : ∃ x, s.msgs[i]? = some x := ⟨_, List.getElem?_eq_getElem (by have := H.out.s_nm; omega)⟩
                      have HXI := Lib.hid hx
                      obtain ⟨ge, oe, A1, cap1, A3, cap3, rfl, _, hc, hl, hl2⟩ := ms_at H.out.s_m hx
                      have q1 := hl.l_le
                      have q2 := hl.l_max
                      have q3 := hl2.l_le
                      have q4 := hl2.l_max
                      unfold maxLen at q2 q4
                      have HL := Lib.hid hl
                      have HL2 := Lib.hid hl2
                      obtain ⟨nf, hnf⟩ : ∃ nf, nf = x.fields.length := ⟨_, rfl⟩
                      obtain ⟨nb, hnb⟩ : ∃ nb, nb = x.barred.length := ⟨_, rfl⟩
                      have HNF := Lib.hid hnf
                      have HNB := Lib.hid hnb
                      rw [← hnf] at hc q1
                      rw [← hnb] at hc q3
                      obtain ⟨sn, hsn⟩ : ∃ sn, sn = strOf x.name := ⟨_, rfl⟩
                      have HSN := Lib.hid hsn
                      rw [← hsn] at hc
                      have HC := Lib.hid hc
                      clear hx hl hl2 hnf hnb hsn hc
                      obtain ⟨c0, c1, c2⟩ := HC.out _ HBX.out.b_bel
                      have HFB := Lib.hid hfb
                      clear hfb
                      go_wp2
                      clear c0 c1 c2
                      clear r0 r1
                      go_loopg [9] nf (fun gz x0 wr => ∃ k : Nat, x0 = .int .i64 (k : Int) ∧ k + gz = nf ∧ (x.fields.take k).any longF = false ∧ Bx w wr (.cells #[.slice A n cap, .slice (some ⟨ge, oe, none⟩) n2 cap2] 25 (0, 0)))
                      case atStart => exact ⟨0, rfl, by omega, rfl, HBX.out⟩
                      case round =>
                        obtain ⟨k, rfl, hk, hfk, hbx⟩ := hrel
                        have HBX := Lib.hid hbx
                        clear hbx
                        have r0 := obj_cell (HBX.out).b_blk 0
                        have r1 := obj_cell (HBX.out).b_blk 1
                        obtain ⟨g1, hg1⟩ : ∃ g1, g1 = gk := ⟨_, rfl⟩
                        subst hg1
                        by_cases hltk : k < nf
                        · have tk : decide ((k : Int) < (nf : Int)) = true := decide_eq_true (by omega)
                          obtain ⟨f, hf⟩ : ∃ f, x.fields[k]? = some f := ⟨_, List.getElem?_eq_getElem (by have := HNF.out; omega)⟩
                          have HFI := Lib.hid hf
                          obtain ⟨gf, of, rfl, _, hcf⟩ := fd_at HL.out hf
                          have HCF := Lib.hid hcf
                          clear hf hcf
                          have HFK := Lib.hid hfk
                          clear hfk
                          obtain ⟨c0, c1, c2⟩ := HC.out _ HBX.out.b_bel
                          obtain ⟨d0, d1, d2, d3, d4, d5, d6⟩ := HCF.out _ HBX.out.b_bel
                          have HXF := Lib.hid (any_snoc x.fields longF k f HFI.out)
                          have HO := Lib.hid (fun hp : longF f = true => (small_noM (any_off HXI.out (p := longM) (any_off HFI.out (p := longF) hp)) : smallT s = false))
                          obtain ⟨p, hp⟩ : ∃ p, p = longF f := ⟨_, rfl⟩
                          rw [← hp] at HXF HO
                          unfold longF at hp
                          obtain ⟨name, num, ty, ref, rep, loose, one⟩ := f
                          dsimp only at hp d0 d1 d2 d3 d4 d5 d6
                          obtain ⟨sn1, hsn1⟩ : ∃ z, z = strOf name := ⟨_, rfl⟩
                          obtain ⟨z1, hz1⟩ : ∃ z, z = name.length := ⟨_, rfl⟩
                          have szz1 : sn1.size = z1 := by rw [hsn1, str_size, hz1]
                          obtain ⟨sr1, hsr1⟩ : ∃ z, z = strOf ref := ⟨_, rfl⟩
                          obtain ⟨z2, hz2⟩ : ∃ z, z = ref.length := ⟨_, rfl⟩
                          have szz2 : sr1.size = z2 := by rw [hsr1, str_size, hz2]
                          obtain ⟨so1, hso1⟩ : ∃ z, z = strOf one := ⟨_, rfl⟩
                          obtain ⟨z3, hz3⟩ : ∃ z, z = one.length := ⟨_, rfl⟩
                          have szz3 : so1.size = z3 := by rw [hso1, str_size, hz3]
                          rw [← hsn1] at d0
                          rw [← hsr1] at d3
                          rw [← hso1] at d6
                          rw [← hz1, ← hz2, ← hz3] at hp
                          clear hsn1 hsr1 hso1 hz1 hz2 hz3
                          have HBA : Hid (Bx w (wr.alloc (.cells #[.string sn1, .int .i64 num, .int .i64 ty, .string sr1, .bool rep, .bool loose, .string so1] 39)) (.cells #[.slice A n cap, .slice (some ⟨ge, oe, none⟩) n2 cap2] 25 (0, 0))) := Lib.hid (bx_step HBX.out ((Below.refl _ wr).alloc (Nat.le_refl _) _))
                          have a0 := obj_cell HBA.out.b_blk 0
                          have a1 := obj_cell HBA.out.b_blk 1
                          have HFX : Hid ((wr.alloc (.cells #[.string sn1, .int .i64 num, .int .i64 ty, .string sr1, .bool rep, .bool loose, .string so1] 39)).heap[wr.heap.size]? = some (.cells #[.string sn1, .int .i64 num, .int .i64 ty, .string sr1, .bool rep, .bool loose, .string so1] 39 (0, 0))) := Lib.hid (heap_alloc_new wr _)
                          have f0 := obj_cell HFX.out 0
                          have f3 := obj_cell HFX.out 3
                          have f6 := obj_cell HFX.out 6
                          by_cases hz1 : 1000 < z1
                          · have lz1 : decide ((z1 : Int) > 1000) = true := decide_eq_true (by omega)
                            replace hp : p = true := by rw [hp]; simp [*]
                            have HNO : Hid (smallT s = false) := Lib.hid (HO.out hp)
                            go_wp2
                            go_ret
                            exact ⟨ret_bool' HNO.out.symm, HBA.out.b_bel⟩
                          · have lz1 : decide ((z1 : Int) > 1000) = false := decide_eq_false (by omega)
                            by_cases hz2 : 1000 < z2
                            · have lz2 : decide ((z2 : Int) > 1000) = true := decide_eq_true (by omega)
                              replace hp : p = true := by rw [hp]; simp [*]
                              have HNO : Hid (smallT s = false) := Lib.hid (HO.out hp)
                              go_wp2
                              go_ret
                              exact ⟨ret_bool' HNO.out.symm, HBA.out.b_bel⟩
                            · have lz2 : decide ((z2 : Int) > 1000) = false := decide_eq_false (by omega)
                              by_cases hz3 : 1000 < z3
                              · have lz3 : decide ((z3 : Int) > 1000) = true := decide_eq_true (by omega)
                                replace hp : p = true := by rw [hp]; simp [*]
                                have HNO : Hid (smallT s = false) := Lib.hid (HO.out hp)
                                go_wp2
                                go_ret
                                exact ⟨ret_bool' HNO.out.symm, HBA.out.b_bel⟩
                              · have lz3 : decide ((z3 : Int) > 1000) = false := decide_eq_false (by omega)
                                replace hp : p = false := by rw [hp]; simp [*]
                                have HXK : Hid ((x.fields.take (k + 1)).any longF = false) := Lib.hid (by rw [HXF.out, HFK.out, hp]; rfl)
                                go_wp2
                                go_roundg (g1 - 1)
                                case measure => omega
                                case rel => exact ⟨k + 1, by go_num, by omega, HXK.out, HBA.out⟩
                        · have tk : decide ((k : Int) < (nf : Int)) = false := decide_eq_false (by omega)
                          obtain ⟨c0, c1, c2⟩ := HC.out _ HBX.out.b_bel
                          rw [any_whole x.fields _ k (by have := HNF.out; omega)] at hfk
                          have HFK := Lib.hid hfk
                          clear hfk
                          go_wp2
                          go_roundg (g0 - 1)
                          case measure => omega
                          case rel => exact ⟨i + 1, by go_num, by omega, by rw [any_snoc s.msgs longM i x HXI.out, HFB.out]; exact HFK.out, HBX.out⟩
                    · have ti : decide ((i : Int) < (n2 : Int)) = false := decide_eq_false (by omega)
                      rw [any_whole s.msgs _ i (by have := H.out.s_nm; omega)] at hfb
                      have HYES : Hid (smallT s = true) := Lib.hid (small_of HWS.out HSE.out hfb)
                      clear hfb
                      go_wp2
                      go_ret
                      exact ⟨ret_bool' HYES.out.symm, HBX.out.b_bel⟩
            · have t4 : decide ((N : Int) ≥ 200) = true := decide_eq_true (by omega)
              have t5 : decide ((200 : Int) ≤ (N : Int)) = true := decide_eq_true (by omega)
              have HNO : Hid (smallT s = false) := Lib.hid (small_no (by have := HWG.out; have := HNM.out; omega))
              go_wp2
              go_ret
              exact ⟨ret_bool' HNO.out.symm, HBX.out.b_bel⟩
      · have t3 : ¬ (N : Int) < 200 := by omega
        have t2 : decide ((N : Int) < 200) = false := decide_eq_false (by omega)
        have HNO : Hid (smallT s = false) := Lib.hid (small_no (by have := HWG.out; have := HNS.out; omega))
        have t4 : decide ((N : Int) ≥ 200) = true := decide_eq_true (by omega)
        have t5 : decide ((200 : Int) ≤ (N : Int)) = true := decide_eq_true (by omega)
        have HN200 : Hid (200 ≤ N) := Lib.hid (by omega)
        go_wp2
        go_loopg [3, 5] 1 (fun gz x0 x1 wr => x0 = .int .i64 (N : Int) ∧ x1 = .int .i64 0 ∧ Bx w wr (.cells #[.slice A n cap, .slice A2 n2 cap2] 25 (0, 0)))
        case atStart => exact ⟨rfl, rfl, HBX.out⟩
        case round =>
          obtain ⟨rfl, rfl, hbx⟩ := hrel
          have HBX := Lib.hid hbx
          clear hbx
          have r0 := obj_cell (HBX.out).b_blk 0
          have r1 := obj_cell (HBX.out).b_blk 1
          by_cases h0 : 0 < n2
          · have t6 : decide ((0 : Int) < (n2 : Int)) = true := decide_eq_true (by omega)
            have t7 : decide (0 < n2) = true := decide_eq_true (by omega)
            go_wp2
            go_ret
            exact ⟨ret_bool' HNO.out.symm, HBX.out.b_bel⟩
          · have t6 : decide ((0 : Int) < (n2 : Int)) = false := decide_eq_false (by omega)
            have t7 : decide (0 < n2) = false := decide_eq_false (by omega)
            go_wp2
            go_ret
            exact ⟨ret_bool' HNO.out.symm, HBX.out.b_bel⟩
end Go.Proofs.YtpbhokmpbcmdcaaGreatDoor
