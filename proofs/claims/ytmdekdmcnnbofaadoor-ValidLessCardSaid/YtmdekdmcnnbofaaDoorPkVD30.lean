/- Several texts in one: RtB. What each proves, and its conditions, stands at its own head. -/
import Derived.Test.YtmdekdmcnnbofaaDoorPkVD22
import Derived.Test.YtmdekdmcnnbofaaDoorPkVD20
import Derived.Test.YtmdekdmcnnbofaaDoorPkVD8
import Derived.Deep.RegionHeld3
/- The document's layer 19: which trees are small. Conditions: those that each theorem names. -/
namespace Go.Proofs.YtmdekdmcnnbofaaDoor
open Go.RowKit
set_option linter.unusedVariables false
set_option maxRecDepth 100000

theorem ret_i64 {a b : Int} (h : a = b) : Ending.returned (.int .i64 a) = .returned (.int .i64 b) := by rw [h]
theorem int_same {a b : Int} (h : a = b) : Value.int .i64 a = .int .i64 b := by rw [h]
theorem st_size (l : List UInt8) : (strOf l).size = l.length := by simp [strOf, ByteArray.size]
def LeftOk (k : Nat) : Prop := ∀ (S : Nat → Prop) (w : World) (A : Option Addr) (na ca : Nat) (A2 : Option Addr) (nr cr : Nat) (x : Tr) (n d : Int),
  TrAt S k w A na ca A2 nr cr x → OkN (k + 1) x → -1 ≤ n → n ≤ 400 → -1 ≤ d → d ≤ 1000 →
    Calls Tryd.prog 16 #[.agg #[.slice A na ca, .slice A2 nr cr], .int .i64 n, .int .i64 d] w fun e w' => e = .returned (.int .i64 (leftN (k + 1) x n d)) ∧ Below w.heap.size w w'

set_option maxHeartbeats 8000000 in
theorem rleft_step {k : Nat} (H : ∀ q, k = q + 1 → LeftOk q) : LeftOk k := by
  intro S w A na ca A2 nr cr x n d h ho n1 n2 d1 d2
  obtain ⟨q1, q2, q3, q4⟩ := trAt_max h
  obtain ⟨o1, o2, o3, o4⟩ := ho
  rw [← h.t_ns] at o1
  rw [← h.t_nr] at o2
  have HA := Lib.hid h
  have HO3 := Lib.hid o3
  have HO4 := Lib.hid o4
  have HL := Lib.hid H
  have HBX := Lib.hid (bx_start w #[.slice A na ca, .slice A2 nr cr] 29)
  have r0 := obj_cell (HBX.out).b_blk 0
  have r1 := obj_cell (HBX.out).b_blk 1
  have HR : Hid (leftN (k + 1) x n d = if d ≤ 0 then -1 else leftS (fun u m => leftN k u m (d - 1)) (foldG remR (n - (nr : Int) - (na : Int)) x.rest) x.slots) := Lib.hid (by rw [h.t_ns, h.t_nr]; rfl)
  clear o3 o4 H h
  by_cases hd : d ≤ 0
  · have td : decide (d ≤ 0) = true := decide_eq_true hd
    have HO : Hid (leftN (k + 1) x n d = -1) := Lib.hid (by rw [HR.out, if_pos hd])
    go_enter Tryd.func16, Tryd.ntmps16
    go_wp2
    go_ret
    exact ⟨ret_i64 HO.out.symm, HBX.out.b_bel⟩
  obtain ⟨lf, hlf⟩ : ∃ lf, lf = (fun (u : Tr) (m : Int) => leftN k u m (d - 1)) := ⟨_, rfl⟩
  have HV : Hid (leftN (k + 1) x n d = leftS lf (foldG remR (n - (nr : Int) - (na : Int)) x.rest) x.slots) := Lib.hid (by rw [HR.out, if_neg hd, hlf])
  have HLF := Lib.hid hlf
  have td : decide (d ≤ 0) = false := decide_eq_false hd
  have d3 : 1 ≤ d := by omega
  clear HR hlf
  go_enter Tryd.func16, Tryd.ntmps16
  go_wp2
  clear r0 r1
  go_loopg [1, 7] nr (fun gz x0 x1 wr => ∃ (j : Nat) (m : Int), x0 = .int .i64 m ∧ x1 = .int .i64 (j : Int) ∧ j + gz = nr ∧ m = foldG remR (n - (nr : Int) - (na : Int)) (x.rest.take j) ∧ -281474976710656 ≤ m ∧ m ≤ 400 ∧ Bx w wr (.cells #[.slice A na ca, .slice A2 nr cr] 29 (0, 0)))
  case atStart => exact ⟨0, n - (nr : Int) - (na : Int), rfl, rfl, by omega, rfl, by omega, by omega, HBX.out⟩
  case round =>
    obtain ⟨j, m, rfl, rfl, hj, hm, m1, m2, hbx⟩ := hrel
    have HM := Lib.hid hm
    have HBX := Lib.hid hbx
    clear hm hbx
    obtain ⟨g0, hg0⟩ : ∃ g0, g0 = gk := ⟨_, rfl⟩
    subst hg0
    have r0 := obj_cell HBX.out.b_blk 0
    have r1 := obj_cell HBX.out.b_blk 1
    by_cases hlt : j < nr
    · have tj : decide ((j : Int) < (nr : Int)) = true := decide_eq_true (by omega)
      by_cases hm0 : 0 ≤ m
      · have tm : decide (0 ≤ m) = true := decide_eq_true hm0
        obtain ⟨r, hr⟩ : ∃ r, x.rest[j]? = some r := ⟨_, List.getElem?_eq_getElem (by have := HA.out.t_nr; omega)⟩
        obtain ⟨g, off, rfl, _, hc⟩ := rw_at HA.out.t_r hr
        obtain ⟨-, -, -, c3⟩ := hc _ (stay_bel HBX.out.b_bel)
        have hs := HO3.out r (List.mem_of_getElem? hr)
        have HT := Lib.hid (foldG_take remR (n - (nr : Int) - (na : Int)) hr (by rw [← HM.out]; exact hm0))
        obtain ⟨st, hst⟩ : ∃ z, z = strOf r.s := ⟨_, rfl⟩
        have hz : st.size = r.s.length := by rw [hst, st_size]
        rw [← hst] at c3
        obtain ⟨lz, hlz⟩ : ∃ z, z = r.s.length := ⟨_, rfl⟩
        rw [← hlz] at hs hz
        have hzl : st.size ≤ 140737488351232 := by omega
        have HZ := Lib.hid hz
        have HLZ := Lib.hid hlz
        clear hr hc hst hlz hz hs
        go_wp2
        go_roundg (g0 - 1)
        case measure => omega
        case rel => exact ⟨j + 1, remR m r, int_same (by unfold remR; rw [← HLZ.out]; have := HZ.out; omega), by go_num, by omega, by rw [HT.out, ← HM.out], by unfold remR; rw [← HLZ.out]; have := HZ.out; omega, by unfold remR; omega, HBX.out⟩
      · have tm : decide (0 ≤ m) = false := decide_eq_false hm0
        have HF : Hid (leftN (k + 1) x n d = m) := Lib.hid (by rw [HV.out, foldG_stop remR _ (i := j) (by rw [← HM.out]; omega), ← HM.out]; unfold leftS; exact foldG_neg _ (by omega) _)
        go_wp2
        go_loopg [1, 8] 0 (fun gz x1 x0 wr => x0 = .int .i64 0 ∧ x1 = .int .i64 m ∧ gz = 0 ∧ Bx w wr (.cells #[.slice A na ca, .slice A2 nr cr] 29 (0, 0)))
        case atStart => exact ⟨rfl, rfl, rfl, HBX.out⟩
        case round =>
          obtain ⟨rfl, rfl, hg, hbx⟩ := hrel
          have HBX := Lib.hid hbx
          have r0 := obj_cell HBX.out.b_blk 0
          clear hbx
          by_cases h0 : 0 < na
          · have t0 : decide ((0 : Int) < (na : Int)) = true := decide_eq_true (by omega)
            go_wp2
            go_ret
            exact ⟨ret_i64 HF.out.symm, HBX.out.b_bel⟩
          · have t0 : decide ((0 : Int) < (na : Int)) = false := decide_eq_false (by omega)
            go_wp2
            go_ret
            exact ⟨ret_i64 HF.out.symm, HBX.out.b_bel⟩
    · have tj : decide ((j : Int) < (nr : Int)) = false := decide_eq_false (by omega)
      have HM2 : Hid (m = foldG remR (n - (nr : Int) - (na : Int)) x.rest) := Lib.hid (by have := HM.out; rw [List.take_of_length_le (by have := HA.out.t_nr; omega)] at this; exact this)
      obtain ⟨m0, hm0⟩ : ∃ z, z = m := ⟨_, rfl⟩
      have HW : Hid (leftN (k + 1) x n d = leftS lf m0 x.slots) := Lib.hid (by rw [HV.out, hm0, ← HM2.out])
      have HMM := Lib.hid hm0
      clear hm0
      go_wp2
      clear r0 r1
      go_loopg [1, 8] na (fun gz x0 x1 wr => ∃ (i : Nat) (m : Int), x0 = .int .i64 m ∧ x1 = .int .i64 (i : Int) ∧ i + gz = na ∧ m = leftS lf m0 (x.slots.take i) ∧ -281474976710656 ≤ m ∧ m ≤ 400 ∧ Bx w wr (.cells #[.slice A na ca, .slice A2 nr cr] 29 (0, 0)))
      case atStart => exact ⟨0, m, rfl, rfl, by omega, by rw [← HMM.out]; rfl, m1, m2, HBX.out⟩
      case round =>
        clear HM HM2 m1 m2 hlt tj hj
        obtain ⟨i, m, rfl, rfl, hi, hm, m1, m2, hbx⟩ := hrel
        have HM := Lib.hid hm
        have HBX := Lib.hid hbx
        clear hm hbx
        obtain ⟨g1, hg1⟩ : ∃ g1, g1 = gk := ⟨_, rfl⟩
        subst hg1
        have r0 := obj_cell HBX.out.b_blk 0
        by_cases hlt : i < na
        · have ti : decide ((i : Int) < (na : Int)) = true := decide_eq_true (by omega)
          by_cases hm0 : 0 ≤ m
          · have tm : decide (0 ≤ m) = true := decide_eq_true hm0
            obtain ⟨s, hs⟩ : ∃ s, x.slots[i]? = some s := ⟨_, List.getElem?_eq_getElem (by have := HA.out.t_ns; omega)⟩
            obtain ⟨ga, oa, A1, c1, rfl, _, hc, hv⟩ := sl_at HA.out.t_s hs
            obtain ⟨p1, p2⟩ := HO4.out s (List.mem_of_getElem? hs)
            have HT := Lib.hid (foldG_take (fun n (s : Slt) => leftV lf (n - (s.svals.length : Int)) s.svals) m0 hs (by have := HM.out; unfold leftS at this; rw [← this]; exact hm0))
            have z1 := hv.l_le
            have z2 := hv.l_max
            unfold maxLen at z2
            obtain ⟨nv, hnv⟩ : ∃ z, z = s.svals.length := ⟨_, rfl⟩
            rw [← hnv] at hc p1 z1
            have HNV := Lib.hid hnv
            have HC := Lib.hid hc
            have HVV := Lib.hid hv
            have HP2 := Lib.hid p2
            obtain ⟨a0, a1⟩ := hc _ (stay_bel HBX.out.b_bel)
            have HMI : Hid (leftS lf m0 (x.slots.take (i + 1)) = leftV lf (m - (nv : Int)) s.svals) := Lib.hid (by
              have e1 := HT.out
              have e2 := HM.out
              unfold leftS at e2 ⊢
              rw [e1, ← e2, ← HNV.out])
            clear hs hc hv hnv p2 HT
            go_wp2
            clear a0 a1 r0
            go_loopg [1, 9] nv (fun gz x0 x1 wr => ∃ (j : Nat) (u : Int), x0 = .int .i64 u ∧ x1 = .int .i64 (j : Int) ∧ j + gz = nv ∧ u = leftV lf (m - (nv : Int)) (s.svals.take j) ∧ -281474976710656 ≤ u ∧ u ≤ 400 ∧ Bx w wr (.cells #[.slice (some ⟨ga, oa, none⟩) na ca, .slice A2 nr cr] 29 (0, 0)))
            case atStart => exact ⟨0, m - (nv : Int), rfl, rfl, by omega, rfl, by omega, by omega, HBX.out⟩
            case round =>
              obtain ⟨j, u, rfl, rfl, hj, hu, u1, u2, hbx⟩ := hrel
              have HU := Lib.hid hu
              have HBX := Lib.hid hbx
              clear hu hbx
              obtain ⟨g2, hg2⟩ : ∃ g2, g2 = gk := ⟨_, rfl⟩
              subst hg2
              have r0 := obj_cell HBX.out.b_blk 0
              obtain ⟨a0, a1⟩ := HC.out _ (stay_bel HBX.out.b_bel)
              by_cases hltj : j < nv
              · have tj : decide ((j : Int) < (nv : Int)) = true := decide_eq_true (by omega)
                by_cases hu0 : 0 ≤ u
                · have tu : decide (0 ≤ u) = true := decide_eq_true hu0
                  obtain ⟨v, hv⟩ : ∃ v, s.svals[j]? = some v := ⟨_, List.getElem?_eq_getElem (by have := HNV.out; omega)⟩
                  obtain ⟨gb, ob, B1, d1, rfl, _, hcb, hk⟩ := va_at HVV.out hv
                  obtain ⟨p3, p4, p5⟩ := HP2.out v (List.mem_of_getElem? hv)
                  have HT := Lib.hid (foldG_take (fun n (v : Va) => leftM lf (n - ((v.vs.length / 20 : Nat) : Int)) v.vm) (m - (nv : Int)) hv (by have := HU.out; unfold leftV at this; rw [← this]; exact hu0))
                  have z3 := hk.l_le
                  have z4 := hk.l_max
                  unfold maxLen at z4
                  obtain ⟨nm, hnm⟩ : ∃ z, z = v.vm.length := ⟨_, rfl⟩
                  obtain ⟨st, hst⟩ : ∃ z, z = strOf v.vs := ⟨_, rfl⟩
                  have hz : st.size = v.vs.length := by rw [hst, st_size]
                  rw [← hnm, ← hst] at hcb
                  rw [← hnm] at p4 z3
                  obtain ⟨lz, hlz⟩ : ∃ z, z = v.vs.length := ⟨_, rfl⟩
                  rw [← hlz] at p3 hz
                  have hzl : st.size ≤ 140737488351232 := by omega
                  have HZ := Lib.hid hz
                  have HLZ := Lib.hid hlz
                  have HNM := Lib.hid hnm
                  have HCB := Lib.hid hcb
                  have HK := Lib.hid hk
                  have HP5 := Lib.hid p5
                  obtain ⟨b0, b1, b2⟩ := hcb _ (stay_bel HBX.out.b_bel)
                  have HUI : Hid (leftV lf (m - (nv : Int)) (s.svals.take (j + 1)) = leftM lf (u - ((lz / 20 : Nat) : Int)) v.vm) := Lib.hid (by
                    have e1 := HT.out
                    have e2 := HU.out
                    unfold leftV at e2 ⊢
                    rw [e1, ← e2, ← HLZ.out])
                  have HQ : Hid (u - (st.size : Int) / 20 = u - ((lz / 20 : Nat) : Int)) := Lib.hid (by have := HZ.out; omega)
                  clear hv hcb hk hnm hst hz hlz p5 HT
                  go_wp2
                  clear a0 a1 r0 b0 b1 b2
                  go_loopg [1, 10] nm (fun gz x0 x1 wr => ∃ (q : Nat) (t : Int), x0 = .int .i64 t ∧ x1 = .int .i64 (q : Int) ∧ q + gz = nm ∧ t = leftM lf (u - ((lz / 20 : Nat) : Int)) (v.vm.take q) ∧ -281474976710656 ≤ t ∧ t ≤ 400 ∧ Bx w wr (.cells #[.slice (some ⟨ga, oa, none⟩) na ca, .slice A2 nr cr] 29 (0, 0)))
                  case atStart => exact ⟨0, u - ((lz / 20 : Nat) : Int), int_same HQ.out, rfl, by omega, rfl, by omega, by omega, HBX.out⟩
                  case round =>
                    obtain ⟨q, t, rfl, rfl, hq, ht, t1, t2, hbx⟩ := hrel
                    have HTT := Lib.hid ht
                    have HBX := Lib.hid hbx
                    clear ht hbx
                    obtain ⟨g3, hg3⟩ : ∃ g3, g3 = gk := ⟨_, rfl⟩
                    subst hg3
                    have r0 := obj_cell HBX.out.b_blk 0
                    obtain ⟨a0, a1⟩ := HC.out _ (stay_bel HBX.out.b_bel)
                    obtain ⟨b0, b1, b2⟩ := HCB.out _ (stay_bel HBX.out.b_bel)
                    by_cases hltq : q < nm
                    · have tq : decide ((q : Int) < (nm : Int)) = true := decide_eq_true (by omega)
                      by_cases ht0 : 0 ≤ t
                      · have tt : decide (0 ≤ t) = true := decide_eq_true ht0
                        obtain ⟨y, hy⟩ : ∃ y, v.vm[q]? = some y := ⟨_, List.getElem?_eq_getElem (by have := HNM.out; omega)⟩
                        obtain ⟨kk, gc, oc, C1, e1, cc1, C2, e2, cc2, hkk, rfl, _, hcc, hty⟩ := kid_at HK.out hy
                        have HT := Lib.hid (foldG_take (fun n t => lf t (n - 1)) (u - ((lz / 20 : Nat) : Int)) hy (by have := HTT.out; unfold leftM at this; rw [← this]; exact ht0))
                        have hoy := HP5.out y (List.mem_of_getElem? hy)
                        have HRES : Hid (leftN k y (t - 1) (d - 1) = leftM lf (u - ((lz / 20 : Nat) : Int)) (v.vm.take (q + 1))) := Lib.hid (by
                          have e1 := HT.out
                          have e2 := HTT.out
                          unfold leftM at e2 ⊢
                          rw [e1, ← e2, HLF.out])
                        have HLO := Lib.hid (leftN_lo k y (t - 1) (d - 1) hoy (by omega))
                        have HHI := Lib.hid (leftN_le k y (t - 1) (d - 1) (by omega))
                        have HCALL : Hid (∀ u, Below w.heap.size w u → Calls Tryd.prog 16 #[.agg #[.slice C1 e1 cc1, .slice C2 e2 cc2], .int .i64 (t - 1), .int .i64 (d - 1)] u fun e w' => e = .returned (.int .i64 (leftN k y (t - 1) (d - 1))) ∧ Below u.heap.size u w') := Lib.hid (fun u hb => by
                          have := HL.out kk hkk _ u _ _ _ _ _ _ y (t - 1) (d - 1) (trAt_bel hty hb) (by rw [hkk] at hoy; exact hoy) (by omega) (by omega) (by omega) (by omega)
                          rw [hkk]
                          exact this)
                        obtain ⟨res, hres⟩ : ∃ z, z = leftN k y (t - 1) (d - 1) := ⟨_, rfl⟩
                        rw [← hres] at HRES HLO HHI HCALL
                        obtain ⟨c0, c1'⟩ := hcc _ (stay_bel HBX.out.b_bel)
                        clear hy hcc hty hkk hres hoy HT
                        go_wp2_with (go_at_call 16; refine (HCALL.out _ HBX.out.b_bel).mono ?_; rintro e w2 ⟨rfl, hb⟩; replace HBX := Lib.hid (bx_step HBX.out hb); clear hb)
                        go_roundg (g3 - 1)
                        case measure => omega
                        case rel => exact ⟨q + 1, res, rfl, by go_num, by omega, HRES.out, HLO.out, by have := HHI.out; omega, HBX.out⟩
                      · have tt : decide (0 ≤ t) = false := decide_eq_false ht0
                        have HF : Hid (t = leftV lf (m - (nv : Int)) (s.svals.take (j + 1))) := Lib.hid (by
                          have e2 := HTT.out
                          rw [HUI.out]
                          unfold leftM at e2 ⊢
                          rw [foldG_stop _ _ (i := q) (by rw [← e2]; omega)]
                          exact e2)
                        go_wp2
                        go_roundg (g2 - 1)
                        case measure => omega
                        case rel => exact ⟨j + 1, t, rfl, by go_num, by omega, HF.out, t1, t2, HBX.out⟩
                    · have tq : decide ((q : Int) < (nm : Int)) = false := decide_eq_false (by omega)
                      have HF : Hid (t = leftV lf (m - (nv : Int)) (s.svals.take (j + 1))) := Lib.hid (by
                        have e2 := HTT.out
                        rw [HUI.out]
                        rw [List.take_of_length_le (by have := HNM.out; omega)] at e2
                        exact e2)
                      go_wp2
                      go_roundg (g2 - 1)
                      case measure => omega
                      case rel => exact ⟨j + 1, t, rfl, by go_num, by omega, HF.out, t1, t2, HBX.out⟩
                · have tu : decide (0 ≤ u) = false := decide_eq_false hu0
                  have HF : Hid (u = leftS lf m0 (x.slots.take (i + 1))) := Lib.hid (by
                    have e2 := HU.out
                    rw [HMI.out]
                    unfold leftV at e2 ⊢
                    rw [foldG_stop _ _ (i := j) (by rw [← e2]; omega)]
                    exact e2)
                  go_wp2
                  go_roundg (g1 - 1)
                  case measure => omega
                  case rel => exact ⟨i + 1, u, rfl, by go_num, by omega, HF.out, u1, u2, HBX.out⟩
              · have tj : decide ((j : Int) < (nv : Int)) = false := decide_eq_false (by omega)
                have HF : Hid (u = leftS lf m0 (x.slots.take (i + 1))) := Lib.hid (by
                  have e2 := HU.out
                  rw [HMI.out]
                  rw [List.take_of_length_le (by have := HNV.out; omega)] at e2
                  exact e2)
                go_wp2
                go_roundg (g1 - 1)
                case measure => omega
                case rel => exact ⟨i + 1, u, rfl, by go_num, by omega, HF.out, u1, u2, HBX.out⟩
          · have tm : decide (0 ≤ m) = false := decide_eq_false hm0
            have HF : Hid (leftN (k + 1) x n d = m) := Lib.hid (by
              have e2 := HM.out
              rw [HW.out]
              unfold leftS at e2 ⊢
              rw [foldG_stop _ _ (i := i) (by rw [← e2]; omega)]
              exact e2.symm)
            go_wp2
            go_ret
            exact ⟨ret_i64 HF.out.symm, HBX.out.b_bel⟩
        · have ti : decide ((i : Int) < (na : Int)) = false := decide_eq_false (by omega)
          have HF : Hid (leftN (k + 1) x n d = m) := Lib.hid (by
            have e2 := HM.out
            rw [List.take_of_length_le (by have := HA.out.t_ns; omega)] at e2
            rw [HW.out, e2])
          go_wp2
          go_ret
          exact ⟨ret_i64 HF.out.symm, HBX.out.b_bel⟩
theorem rleft_any : ∀ k, LeftOk k
  | 0 => rleft_step (fun q h => by cases h)
  | k + 1 => rleft_step (fun q h => by cases h; exact rleft_any k)

/-- What is small. -/
def smallTr (k : Nat) (x : Tr) : Bool := decide (0 ≤ leftN (k + 1) x 400 40)
theorem small_fits {k : Nat} {x : Tr} (h : smallTr k x = true) : FitN (k + 1) x ∧ deepN (k + 1) x ≤ 40 ∧ cntN (k + 1) x ≤ 400 := by
  have h0 := of_decide_eq_true h
  obtain ⟨a, b, c⟩ := left_fits (k + 1) x 400 40 (by omega) h0
  exact ⟨a, by have := b (by omega); omega, by omega⟩
theorem rsmalltr_any {k : Nat} {S : Nat → Prop} (w : World) {A : Option Addr} {na ca : Nat} {A2 : Option Addr} {nr cr : Nat} {x : Tr} (h : TrAt S k w A na ca A2 nr cr x) (ho : OkT x) :
    Calls Tryd.prog 7 #[.agg #[.slice A na ca, .slice A2 nr cr]] w fun e w' => e = .returned (.bool (smallTr k x)) ∧ Below w.heap.size w w' := by
  have HBX := Lib.hid (bx_start w #[.slice A na ca, .slice A2 nr cr] 29)
  have r0 := obj_cell (HBX.out).b_blk 0
  have r1 := obj_cell (HBX.out).b_blk 1
  have HC := Lib.hid (fun u (hb : Below w.heap.size w u) => rleft_any k _ u _ _ _ _ _ _ x 400 40 (trAt_bel h hb) (ho (k + 1)) (by omega) (by omega) (by omega) (by omega))
  have HV : Hid (smallTr k x = decide (0 ≤ leftN (k + 1) x 400 40)) := Lib.hid rfl
  obtain ⟨r, hr⟩ : ∃ r, r = leftN (k + 1) x 400 40 := ⟨_, rfl⟩
  rw [← hr] at HC HV
  clear h ho hr
  go_enter Tryd.func7, Tryd.ntmps7
  go_wp2_with (go_at_call 16; refine (HC.out _ HBX.out.b_bel).mono ?_; rintro e w2 ⟨rfl, hb⟩; replace HBX := Lib.hid (bx_step HBX.out hb); clear hb)
  go_ret
  exact ⟨ret_bool' HV.out.symm, HBX.out.b_bel⟩
end Go.Proofs.YtmdekdmcnnbofaaDoor
