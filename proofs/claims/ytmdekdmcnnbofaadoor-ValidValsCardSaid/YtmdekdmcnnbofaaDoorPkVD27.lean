/- Several texts in one: RvJ, RxA. What each proves, and its conditions, stands at its own head. -/
import Derived.Test.YtmdekdmcnnbofaaDoorPkVD20
import Derived.Test.YtmdekdmcnnbofaaDoorPkVD26
import Derived.Test.YtmdekdmcnnbofaaDoorPkVD19
import Derived.Test.YtmdekdmcnnbofaaDoorChecked
import Derived.Test.YtmdekdmcnnbofaaDoorPkVD0
import Derived.WalkKit
import Derived.RowKitTokens
import Derived.OwnWalk
/- The document's layer 15: which are not too great. Conditions: those that each theorem names. -/
namespace Go.Proofs.YtmdekdmcnnbofaaDoor
open Go.RowKit
set_option linter.unusedVariables false
set_option maxRecDepth 100000

set_option maxHeartbeats 8000000 in
theorem rvsmall_any {S : Nat → Nat → Prop} (w : World) {A A2 : Option Addr} {n cap n2 cap2 : Nat} {s : Sc} (h : ScAt S w A n cap A2 n2 cap2 s) (hok : ScOk s) :
    Calls Tryd.prog 6 #[.agg #[.slice A n cap, .slice A2 n2 cap2]] w fun e w' => e = .returned (.bool (smallT s)) ∧ Below w.heap.size w w' := by
  obtain ⟨m1, m2, m3, m4⟩ := scAt_max h
  have H := Lib.hid h
  have HBX := Lib.hid (bx_start w #[.slice A n cap, .slice A2 n2 cap2] 25)
  have HOK := Lib.hid hok
  have HLN : Hid (n ≤ lenM ∧ n2 ≤ lenM) := Lib.hid (by have := hok.1; have := hok.2.1; have := h.s_ne; have := h.s_nm; omega)
  have HWG : Hid (weigh s = ((n + n2) + (s.enums.map weighE).sum) + (s.msgs.map weighM).sum) := Lib.hid (by unfold weigh; rw [h.s_ne, h.s_nm])
  have gw0 : IntKind.i64.wrap ((n : Int) + (n2 : Int)) = (n : Int) + (n2 : Int) := IntWalk.i64_in _ (by have := HLN.out; unfold lenM at this; omega)
  clear h hok
  have r0 := obj_cell (HBX.out).b_blk 0
  have r1 := obj_cell (HBX.out).b_blk 1
  go_enter Tryd.func6, Tryd.ntmps6
  go_wp2
  clear r0 r1
  go_loopg [3, 4] n (fun gz x0 x1 wr => ∃ i : Nat, x1 = .int .i64 (i : Int) ∧ i + gz = n ∧ ∃ N : Nat, x0 = .int .i64 (N : Int) ∧ N = (n + n2) + ((s.enums.take i).map weighE).sum ∧ Bx w wr (.cells #[.slice A n cap, .slice A2 n2 cap2] 25 (0, 0)))
  case atStart => exact ⟨0, rfl, by omega, n + n2, (by rw [Int.natCast_add]), (by simp), HBX.out⟩
  case round =>
    obtain ⟨i, rfl, hi, N, rfl, hns, hbx⟩ := hrel
    have HBX := Lib.hid hbx
    clear hbx
    have r0 := obj_cell (HBX.out).b_blk 0
    have r1 := obj_cell (HBX.out).b_blk 1
    obtain ⟨g0, hg0⟩ : ∃ g0, g0 = gk := ⟨_, rfl⟩
    subst hg0
    by_cases hlti : i < n
    · have ti : decide ((i : Int) < (n : Int)) = true := decide_eq_true (by omega)
      have HNS := Lib.hid hns
      clear hns
      by_cases h200 : N < 200
      · have t2 : decide ((N : Int) < 200) = true := decide_eq_true (by omega)
        have t3 : (N : Int) < 200 := by omega
        obtain ⟨x, hx⟩ : ∃ x, s.enums[i]? = some x := ⟨_, List.getElem?_eq_getElem (by have := H.out.s_ne; omega)⟩
        have HXI := Lib.hid hx
        obtain ⟨ge, oe, A1, cap1, rfl, _, hc, hl⟩ := en_at H.out.s_e hx
        have q1 := hl.l_le
        have q2 := hl.l_max
        unfold maxLen at q2
        have HL := Lib.hid hl
        obtain ⟨nv, hnv⟩ : ∃ nv, nv = x.values.length := ⟨_, rfl⟩
        have HNV := Lib.hid hnv
        rw [← hnv] at hc q1
        obtain ⟨sn, hsn⟩ : ∃ sn, sn = strOf x.name := ⟨_, rfl⟩
        have HSN := Lib.hid hsn
        rw [← hsn] at hc
        have HC := Lib.hid hc
        clear hx hl hnv hsn hc
        obtain ⟨c0, c1⟩ := HC.out _ HBX.out.b_bel
        have hxo := HOK.out.2.2.1 x (List.mem_of_getElem? HXI.out)
        obtain ⟨z, hz⟩ : ∃ z, z = sn.size := ⟨_, rfl⟩
        obtain ⟨q, hq⟩ : ∃ q, q = z / 10 := ⟨_, rfl⟩
        have hzl : z = x.name.length := by rw [hz, HSN.out, str_size]
        have HLX : Hid (nv ≤ lenM ∧ q ≤ lenM) := Lib.hid ⟨by rw [HNV.out]; exact hxo.2.1, by rw [hq, hzl]; have := hxo.1; omega⟩
        have HWX : Hid (weighE x = nv + q) := Lib.hid (by unfold weighE; rw [HNV.out, hq, hzl])
        have hsz : sn.size = z := hz.symm
        have hd1 : (z : Int).tdiv 10 = (q : Int) := by rw [Int.tdiv_eq_ediv_of_nonneg (by omega)]; omega
        have hd2 : (z : Int) / 10 = (q : Int) := by omega
        have hd3 : z / 10 = q := hq.symm
        have gq : IntKind.i64.wrap (q : Int) = (q : Int) := IntWalk.i64_in _ (by have := HLX.out; unfold lenM at this; omega)
        have gw1 : IntKind.i64.wrap ((N : Int) + (nv : Int)) = (N : Int) + (nv : Int) := IntWalk.i64_in _ (by have := HLX.out; unfold lenM at this; omega)
        have gw2 : IntKind.i64.wrap ((N : Int) + (nv : Int) + (q : Int)) = (N : Int) + (nv : Int) + (q : Int) := IntWalk.i64_in _ (by have := HLX.out; unfold lenM at this; omega)
        clear hxo hz hzl hq
        go_wp2
        go_quiet (fail)
        go_wp2
        go_roundg (g0 - 1)
        case measure => omega
        case rel => exact ⟨i + 1, by go_num, by omega, N + nv + q, (by rw [show ((N + nv + q : Nat) : Int) = (N : Int) + (nv : Int) + (q : Int) by omega]), (by rw [sum_snoc _ _ _ _ HXI.out, HWX.out, HNS.out]; omega), bx_drew HBX.out _⟩
      · have t2 : decide ((N : Int) < 200) = false := decide_eq_false (by omega)
        have t3 : ¬ (N : Int) < 200 := by omega
        have HNO : Hid (smallT s = false) := Lib.hid (small_no (by have := HWG.out; have := HNS.out; have := sum_take s.enums weighE i; omega))
        have t4 : decide ((N : Int) ≥ 200) = true := decide_eq_true (by omega)
        have t5 : decide ((200 : Int) ≤ (N : Int)) = true := decide_eq_true (by omega)
        have HN200 : Hid (200 ≤ N) := Lib.hid (by omega)
        go_wp2
        go_loopg [3, 5] 1 (fun gz x0 x1 wr => x0 = .int .i64 (N : Int) ∧ x1 = .int .i64 0 ∧ Bx w wr (.cells #[.slice A n cap, .slice A2 n2 cap2] 25 (0, 0)))
        case atStart => exact ⟨rfl, rfl, HBX.out⟩
        case round =>
          obtain ⟨rfl, rfl, hbx⟩ := hrel
          have HBX := Lib.hid hbx
          clear hbx
          have r0 := obj_cell (HBX.out).b_blk 0
          have r1 := obj_cell (HBX.out).b_blk 1
          by_cases h0 : 0 < n2
          · have t6 : decide ((0 : Int) < (n2 : Int)) = true := decide_eq_true (by omega)
            have t7 : decide (0 < n2) = true := decide_eq_true (by omega)
            go_wp2
            go_ret
            exact ⟨ret_bool' HNO.out.symm, HBX.out.b_bel⟩
          · have t6 : decide ((0 : Int) < (n2 : Int)) = false := decide_eq_false (by omega)
            have t7 : decide (0 < n2) = false := decide_eq_false (by omega)
            go_wp2
            go_ret
            exact ⟨ret_bool' HNO.out.symm, HBX.out.b_bel⟩
    · have ti : decide ((i : Int) < (n : Int)) = false := decide_eq_false (by omega)
      have HNS := Lib.hid hns
      clear hns
      have HTE : Hid (((s.enums.take i).map weighE).sum = (s.enums.map weighE).sum) := Lib.hid (by rw [List.take_of_length_le (by have := H.out.s_ne; omega)])
      rw [HTE.out] at HNS
      by_cases h200 : N < 200
      · skip
        have HN2 : Hid (N < 200) := Lib.hid h200
        clear h200
        go_wp2
        clear r0 r1
        go_loopg [3, 5] n2 (fun gz x0 x1 wr => ∃ i : Nat, x1 = .int .i64 (i : Int) ∧ i + gz = n2 ∧ ∃ N : Nat, x0 = .int .i64 (N : Int) ∧ N = ((n + n2) + (s.enums.map weighE).sum) + ((s.msgs.take i).map weighM).sum ∧ Bx w wr (.cells #[.slice A n cap, .slice A2 n2 cap2] 25 (0, 0)))
        case atStart => exact ⟨0, rfl, by omega, N, rfl, (by rw [HNS.out]; simp), HBX.out⟩
        case round =>
          obtain ⟨i, rfl, hi, N, rfl, hnm, hbx⟩ := hrel
          have HBX := Lib.hid hbx
          clear hbx
          have r0 := obj_cell (HBX.out).b_blk 0
          have r1 := obj_cell (HBX.out).b_blk 1
          obtain ⟨g0, hg0⟩ : ∃ g0, g0 = gk := ⟨_, rfl⟩
          subst hg0
          by_cases hlti : i < n2
          · have ti : decide ((i : Int) < (n2 : Int)) = true := decide_eq_true (by omega)
            have HNM := Lib.hid hnm
            clear hnm
            by_cases h200 : N < 200
            · have t2 : decide ((N : Int) < 200) = true := decide_eq_true (by omega)
              have t3 : (N : Int) < 200 := by omega
              obtain ⟨x, hx⟩ : ∃ x, s.msgs[i]? = some x := ⟨_, List.getElem?_eq_getElem (by have := H.out.s_nm; omega)⟩
              have HXI := Lib.hid hx
              obtain ⟨ge, oe, A1, cap1, A3, cap3, rfl, _, hc, hl, hl2⟩ := ms_at H.out.s_m hx
              have q1 := hl.l_le
              have q2 := hl.l_max
              have q3 := hl2.l_le
              have q4 := hl2.l_max
              unfold maxLen at q2 q4
              have HL := Lib.hid hl
              have HL2 := Lib.hid hl2
              obtain ⟨nf, hnf⟩ : ∃ nf, nf = x.fields.length := ⟨_, rfl⟩
              obtain ⟨nb, hnb⟩ : ∃ nb, nb = x.barred.length := ⟨_, rfl⟩
              have HNF := Lib.hid hnf
              have HNB := Lib.hid hnb
              rw [← hnf] at hc q1
              rw [← hnb] at hc q3
              obtain ⟨sn, hsn⟩ : ∃ sn, sn = strOf x.name := ⟨_, rfl⟩
              have HSN := Lib.hid hsn
              rw [← hsn] at hc
              have HC := Lib.hid hc
              clear hx hl hl2 hnf hnb hsn hc
              obtain ⟨c0, c1, c2⟩ := HC.out _ HBX.out.b_bel
              have hxo := HOK.out.2.2.2 x (List.mem_of_getElem? HXI.out)
              obtain ⟨z, hz⟩ : ∃ z, z = sn.size := ⟨_, rfl⟩
              obtain ⟨q, hq⟩ : ∃ q, q = z / 10 := ⟨_, rfl⟩
              have hzl : z = x.name.length := by rw [hz, HSN.out, str_size]
              have HLX : Hid (nf ≤ lenM ∧ nb ≤ lenM ∧ q ≤ lenM) := Lib.hid ⟨by rw [HNF.out]; exact hxo.2.1, by rw [HNB.out]; exact hxo.2.2.1, by rw [hq, hzl]; have := hxo.1; omega⟩
              have HWX : Hid (weighM x = nf + nb + q) := Lib.hid (by unfold weighM; rw [HNF.out, HNB.out, hq, hzl])
              have hsz : sn.size = z := hz.symm
              have hd1 : (z : Int).tdiv 10 = (q : Int) := by rw [Int.tdiv_eq_ediv_of_nonneg (by omega)]; omega
              have hd2 : (z : Int) / 10 = (q : Int) := by omega
              have hd3 : z / 10 = q := hq.symm
              have gq : IntKind.i64.wrap (q : Int) = (q : Int) := IntWalk.i64_in _ (by have := HLX.out; unfold lenM at this; omega)
              have gw1 : IntKind.i64.wrap ((N : Int) + (nf : Int)) = (N : Int) + (nf : Int) := IntWalk.i64_in _ (by have := HLX.out; unfold lenM at this; omega)
              have gw2 : IntKind.i64.wrap ((N : Int) + (nf : Int) + (nb : Int)) = (N : Int) + (nf : Int) + (nb : Int) := IntWalk.i64_in _ (by have := HLX.out; unfold lenM at this; omega)
              have gw3 : IntKind.i64.wrap ((N : Int) + (nf : Int) + (nb : Int) + (q : Int)) = (N : Int) + (nf : Int) + (nb : Int) + (q : Int) := IntWalk.i64_in _ (by have := HLX.out; unfold lenM at this; omega)
              clear hxo hz hzl hq
              go_wp2
              go_quiet (fail)
              go_wp2
              go_roundg (g0 - 1)
              case measure => omega
              case rel => exact ⟨i + 1, by go_num, by omega, N + nf + nb + q, (by rw [show ((N + nf + nb + q : Nat) : Int) = (N : Int) + (nf : Int) + (nb : Int) + (q : Int) by omega]), (by rw [sum_snoc _ _ _ _ HXI.out, HWX.out, HNM.out]; omega), bx_drew HBX.out _⟩
            · have t2 : decide ((N : Int) < 200) = false := decide_eq_false (by omega)
              have t3 : ¬ (N : Int) < 200 := by omega
              have HNO : Hid (smallT s = false) := Lib.hid (small_no (by have := HWG.out; have := HNM.out; have := sum_take s.msgs weighM i; omega))
              have t4 : decide ((N : Int) ≥ 200) = true := decide_eq_true (by omega)
              have t5 : decide ((200 : Int) ≤ (N : Int)) = true := decide_eq_true (by omega)
              go_wp2
              go_ret
              exact ⟨ret_bool' HNO.out.symm, HBX.out.b_bel⟩
          · have ti : decide ((i : Int) < (n2 : Int)) = false := decide_eq_false (by omega)
            have HNM := Lib.hid hnm
            clear hnm
            have HTM : Hid (((s.msgs.take i).map weighM).sum = (s.msgs.map weighM).sum) := Lib.hid (by rw [List.take_of_length_le (by have := H.out.s_nm; omega)])
            rw [HTM.out] at HNM
            by_cases h200 : N < 200
            · have t4 : decide ((N : Int) ≥ 200) = false := decide_eq_false (by omega)
              have t5 : decide ((200 : Int) ≤ (N : Int)) = false := decide_eq_false (by omega)
              have HWS : Hid (weigh s < 200) := Lib.hid (by have := HWG.out; have := HNM.out; omega)
              clear h200
              go_wp2
              clear r0 r1
              go_loopg [6] n (fun gz x0 wr => ∃ i : Nat, x0 = .int .i64 (i : Int) ∧ i + gz = n ∧ (s.enums.take i).any longE = false ∧ Bx w wr (.cells #[.slice A n cap, .slice A2 n2 cap2] 25 (0, 0)))
              case atStart => exact ⟨0, rfl, by omega, rfl, HBX.out⟩
              case round =>
                obtain ⟨i, rfl, hi, hfb, hbx⟩ := hrel
                have HBX := Lib.hid hbx
                clear hbx
                have r0 := obj_cell (HBX.out).b_blk 0
                have r1 := obj_cell (HBX.out).b_blk 1
                obtain ⟨g0, hg0⟩ : ∃ g0, g0 = gk := ⟨_, rfl⟩
                subst hg0
                by_cases hlti : i < n
                · have ti : decide ((i : Int) < (n : Int)) = true := decide_eq_true (by omega)
                  obtain ⟨x, hx⟩ : ∃ x, s.enums[i]? = some x := ⟨_, List.getElem?_eq_getElem (by have := H.out.s_ne; omega)⟩
                  have HXI := Lib.hid hx
                  obtain ⟨ge, oe, A1, cap1, rfl, _, hc, hl⟩ := en_at H.out.s_e hx
                  have q1 := hl.l_le
                  have q2 := hl.l_max
                  unfold maxLen at q2
                  have HL := Lib.hid hl
                  obtain ⟨nv, hnv⟩ : ∃ nv, nv = x.values.length := ⟨_, rfl⟩
                  have HNV := Lib.hid hnv
                  rw [← hnv] at hc q1
                  obtain ⟨sn, hsn⟩ : ∃ sn, sn = strOf x.name := ⟨_, rfl⟩
                  have HSN := Lib.hid hsn
                  rw [← hsn] at hc
                  have HC := Lib.hid hc
                  clear hx hl hnv hsn hc
                  obtain ⟨c0, c1⟩ := HC.out _ HBX.out.b_bel
                  have HFB := Lib.hid hfb
                  clear hfb
                  go_wp2
                  clear c0 c1
                  clear r0 r1
                  go_loopg [7] nv (fun gz x0 wr => ∃ k : Nat, x0 = .int .i64 (k : Int) ∧ k + gz = nv ∧ (x.values.take k).any longV = false ∧ Bx w wr (.cells #[.slice (some ⟨ge, oe, none⟩) n cap, .slice A2 n2 cap2] 25 (0, 0)))
                  case atStart => exact ⟨0, rfl, by omega, rfl, HBX.out⟩
                  case round =>
                    obtain ⟨k, rfl, hk, hfk, hbx⟩ := hrel
                    have HBX := Lib.hid hbx
                    clear hbx
                    have r0 := obj_cell (HBX.out).b_blk 0
                    have r1 := obj_cell (HBX.out).b_blk 1
                    obtain ⟨g1, hg1⟩ : ∃ g1, g1 = gk := ⟨_, rfl⟩
                    subst hg1
                    by_cases hltk : k < nv
                    · have tk : decide ((k : Int) < (nv : Int)) = true := decide_eq_true (by omega)
                      obtain ⟨v, hv⟩ : ∃ v, x.values[k]? = some v := ⟨_, List.getElem?_eq_getElem (by have := HNV.out; omega)⟩
                      have HVI := Lib.hid hv
                      obtain ⟨gv, ov, rfl, _, hcv⟩ := vl_at HL.out hv
                      obtain ⟨c0, c1⟩ := HC.out _ HBX.out.b_bel
                      obtain ⟨d0, d1⟩ := hcv _ HBX.out.b_bel
                      have HFK := Lib.hid hfk
                      clear hfk
                      obtain ⟨sv, hsv⟩ : ∃ sv, sv = strOf v.name := ⟨_, rfl⟩
                      obtain ⟨z, hz⟩ : ∃ z, z = v.name.length := ⟨_, rfl⟩
                      have hsz : sv.size = z := by rw [hsv, str_size, hz]
                      rw [← hsv] at d0
                      by_cases hl : 1000 < z
                      · have dl : decide ((z : Int) > 1000) = true := decide_eq_true (by omega)
                        have HNO : Hid (smallT s = false) := Lib.hid (small_noE (any_off HXI.out (p := longE) (any_off HVI.out (p := longV) (by unfold longV; rw [← hz]; exact decide_eq_true hl))))
                        clear hv hcv hsv hz
                        go_wp2
                        go_ret
                        exact ⟨ret_bool' HNO.out.symm, HBX.out.b_bel⟩
                      · have dl : decide ((z : Int) > 1000) = false := decide_eq_false (by omega)
                        have HXV : Hid ((x.values.take (k + 1)).any longV = false) := Lib.hid (by rw [any_snoc _ _ _ _ HVI.out, HFK.out]; unfold longV; rw [← hz]; exact decide_eq_false hl)
                        clear hv hcv hsv hz
                        go_wp2
                        go_roundg (g1 - 1)
                        case measure => omega
                        case rel => exact ⟨k + 1, by go_num, by omega, HXV.out, HBX.out⟩
                    · have tk : decide ((k : Int) < (nv : Int)) = false := decide_eq_false (by omega)
                      obtain ⟨c0, c1⟩ := HC.out _ HBX.out.b_bel
                      rw [any_whole x.values _ k (by have := HNV.out; omega)] at hfk
                      have HFK := Lib.hid hfk
                      clear hfk
                      go_wp2
                      go_roundg (g0 - 1)
                      case measure => omega
                      case rel => exact ⟨i + 1, by go_num, by omega, by rw [any_snoc s.enums longE i x HXI.out, HFB.out]; exact HFK.out, HBX.out⟩
                · have ti : decide ((i : Int) < (n : Int)) = false := decide_eq_false (by omega)
                  rw [any_whole s.enums _ i (by have := H.out.s_ne; omega)] at hfb
                  have HSE := Lib.hid hfb
                  clear hfb
                  go_wp2
                  clear r0 r1
                  go_loopg [8] n2 (fun gz x0 wr => ∃ i : Nat, x0 = .int .i64 (i : Int) ∧ i + gz = n2 ∧ (s.msgs.take i).any longM = false ∧ Bx w wr (.cells #[.slice A n cap, .slice A2 n2 cap2] 25 (0, 0)))
                  case atStart => exact ⟨0, rfl, by omega, rfl, HBX.out⟩
                  case round =>
                    obtain ⟨i, rfl, hi, hfb, hbx⟩ := hrel
                    have HBX := Lib.hid hbx
                    clear hbx
                    have r0 := obj_cell (HBX.out).b_blk 0
                    have r1 := obj_cell (HBX.out).b_blk 1
                    obtain ⟨g0, hg0⟩ : ∃ g0, g0 = gk := ⟨_, rfl⟩
                    subst hg0
                    by_cases hlti : i < n2
                    · have ti : decide ((i : Int) < (n2 : Int)) = true := decide_eq_true (by omega)
                      obtain ⟨x, hx⟩ : ∃ x, s.msgs[i]? = some x := ⟨_, List.getElem?_eq_getElem (by have := H.out.s_nm; omega)⟩
                      have HXI := Lib.hid hx
                      obtain ⟨ge, oe, A1, cap1, A3, cap3, rfl, _, hc, hl, hl2⟩ := ms_at H.out.s_m hx
                      have q1 := hl.l_le
                      have q2 := hl.l_max
                      have q3 := hl2.l_le
                      have q4 := hl2.l_max
                      unfold maxLen at q2 q4
                      have HL := Lib.hid hl
                      have HL2 := Lib.hid hl2
                      obtain ⟨nf, hnf⟩ : ∃ nf, nf = x.fields.length := ⟨_, rfl⟩
                      obtain ⟨nb, hnb⟩ : ∃ nb, nb = x.barred.length := ⟨_, rfl⟩
                      have HNF := Lib.hid hnf
                      have HNB := Lib.hid hnb
                      rw [← hnf] at hc q1
                      rw [← hnb] at hc q3
                      obtain ⟨sn, hsn⟩ : ∃ sn, sn = strOf x.name := ⟨_, rfl⟩
                      have HSN := Lib.hid hsn
                      rw [← hsn] at hc
                      have HC := Lib.hid hc
                      clear hx hl hl2 hnf hnb hsn hc
                      obtain ⟨c0, c1, c2⟩ := HC.out _ HBX.out.b_bel
                      have HFB := Lib.hid hfb
                      clear hfb
                      go_wp2
                      clear c0 c1 c2
                      clear r0 r1
                      go_loopg [9] nf (fun gz x0 wr => ∃ k : Nat, x0 = .int .i64 (k : Int) ∧ k + gz = nf ∧ (x.fields.take k).any longF = false ∧ Bx w wr (.cells #[.slice A n cap, .slice (some ⟨ge, oe, none⟩) n2 cap2] 25 (0, 0)))
                      case atStart => exact ⟨0, rfl, by omega, rfl, HBX.out⟩
                      case round =>
                        obtain ⟨k, rfl, hk, hfk, hbx⟩ := hrel
                        have HBX := Lib.hid hbx
                        clear hbx
                        have r0 := obj_cell (HBX.out).b_blk 0
                        have r1 := obj_cell (HBX.out).b_blk 1
                        obtain ⟨g1, hg1⟩ : ∃ g1, g1 = gk := ⟨_, rfl⟩
                        subst hg1
                        by_cases hltk : k < nf
                        · have tk : decide ((k : Int) < (nf : Int)) = true := decide_eq_true (by omega)
                          obtain ⟨f, hf⟩ : ∃ f, x.fields[k]? = some f := ⟨_, List.getElem?_eq_getElem (by have := HNF.out; omega)⟩
                          have HFI := Lib.hid hf
                          obtain ⟨gf, of, rfl, _, hcf⟩ := fd_at HL.out hf
                          have HCF := Lib.hid hcf
                          clear hf hcf
                          have HFK := Lib.hid hfk
                          clear hfk
                          obtain ⟨c0, c1, c2⟩ := HC.out _ HBX.out.b_bel
                          obtain ⟨d0, d1, d2, d3, d4, d5, d6⟩ := HCF.out _ HBX.out.b_bel
                          have HXF := Lib.hid (any_snoc x.fields longF k f HFI.out)
                          have HO := Lib.hid (fun hp : longF f = true => (small_noM (any_off HXI.out (p := longM) (any_off HFI.out (p := longF) hp)) : smallT s = false))
                          obtain ⟨p, hp⟩ : ∃ p, p = longF f := ⟨_, rfl⟩
                          rw [← hp] at HXF HO
                          unfold longF at hp
                          obtain ⟨name, num, ty, ref, rep, loose, one⟩ := f
                          dsimp only at hp d0 d1 d2 d3 d4 d5 d6
                          obtain ⟨sn1, hsn1⟩ : ∃ z, z = strOf name := ⟨_, rfl⟩
                          obtain ⟨z1, hz1⟩ : ∃ z, z = name.length := ⟨_, rfl⟩
                          have szz1 : sn1.size = z1 := by rw [hsn1, str_size, hz1]
                          obtain ⟨sr1, hsr1⟩ : ∃ z, z = strOf ref := ⟨_, rfl⟩
                          obtain ⟨z2, hz2⟩ : ∃ z, z = ref.length := ⟨_, rfl⟩
                          have szz2 : sr1.size = z2 := by rw [hsr1, str_size, hz2]
                          obtain ⟨so1, hso1⟩ : ∃ z, z = strOf one := ⟨_, rfl⟩
                          obtain ⟨z3, hz3⟩ : ∃ z, z = one.length := ⟨_, rfl⟩
                          have szz3 : so1.size = z3 := by rw [hso1, str_size, hz3]
                          rw [← hsn1] at d0
                          rw [← hsr1] at d3
                          rw [← hso1] at d6
                          rw [← hz1, ← hz2, ← hz3] at hp
                          clear hsn1 hsr1 hso1 hz1 hz2 hz3
                          have HBA : Hid (Bx w (wr.alloc (.cells #[.string sn1, .int .i64 num, .int .i64 ty, .string sr1, .bool rep, .bool loose, .string so1] 35)) (.cells #[.slice A n cap, .slice (some ⟨ge, oe, none⟩) n2 cap2] 25 (0, 0))) := Lib.hid (bx_step HBX.out ((Below.refl _ wr).alloc (Nat.le_refl _) _))
                          have a0 := obj_cell HBA.out.b_blk 0
                          have a1 := obj_cell HBA.out.b_blk 1
                          have HFX : Hid ((wr.alloc (.cells #[.string sn1, .int .i64 num, .int .i64 ty, .string sr1, .bool rep, .bool loose, .string so1] 35)).heap[wr.heap.size]? = some (.cells #[.string sn1, .int .i64 num, .int .i64 ty, .string sr1, .bool rep, .bool loose, .string so1] 35 (0, 0))) := Lib.hid (heap_alloc_new wr _)
                          have f0 := obj_cell HFX.out 0
                          have f3 := obj_cell HFX.out 3
                          have f6 := obj_cell HFX.out 6
                          by_cases hz1 : 1000 < z1
                          · have lz1 : decide ((z1 : Int) > 1000) = true := decide_eq_true (by omega)
                            replace hp : p = true := by rw [hp]; simp [*]
                            have HNO : Hid (smallT s = false) := Lib.hid (HO.out hp)
                            go_wp2
                            go_ret
                            exact ⟨ret_bool' HNO.out.symm, HBA.out.b_bel⟩
                          · have lz1 : decide ((z1 : Int) > 1000) = false := decide_eq_false (by omega)
                            by_cases hz2 : 1000 < z2
                            · have lz2 : decide ((z2 : Int) > 1000) = true := decide_eq_true (by omega)
                              replace hp : p = true := by rw [hp]; simp [*]
                              have HNO : Hid (smallT s = false) := Lib.hid (HO.out hp)
                              go_wp2
                              go_ret
                              exact ⟨ret_bool' HNO.out.symm, HBA.out.b_bel⟩
                            · have lz2 : decide ((z2 : Int) > 1000) = false := decide_eq_false (by omega)
                              by_cases hz3 : 1000 < z3
                              · have lz3 : decide ((z3 : Int) > 1000) = true := decide_eq_true (by omega)
                                replace hp : p = true := by rw [hp]; simp [*]
                                have HNO : Hid (smallT s = false) := Lib.hid (HO.out hp)
                                go_wp2
                                go_ret
                                exact ⟨ret_bool' HNO.out.symm, HBA.out.b_bel⟩
                              · have lz3 : decide ((z3 : Int) > 1000) = false := decide_eq_false (by omega)
                                replace hp : p = false := by rw [hp]; simp [*]
                                have HXK : Hid ((x.fields.take (k + 1)).any longF = false) := Lib.hid (by rw [HXF.out, HFK.out, hp]; rfl)
                                go_wp2
                                go_roundg (g1 - 1)
                                case measure => omega
                                case rel => exact ⟨k + 1, by go_num, by omega, HXK.out, HBA.out⟩
                        · have tk : decide ((k : Int) < (nf : Int)) = false := decide_eq_false (by omega)
                          obtain ⟨c0, c1, c2⟩ := HC.out _ HBX.out.b_bel
                          rw [any_whole x.fields _ k (by have := HNF.out; omega)] at hfk
                          have HFK := Lib.hid hfk
                          clear hfk
                          go_wp2
                          go_roundg (g0 - 1)
                          case measure => omega
                          case rel => exact ⟨i + 1, by go_num, by omega, by rw [any_snoc s.msgs longM i x HXI.out, HFB.out]; exact HFK.out, HBX.out⟩
                    · have ti : decide ((i : Int) < (n2 : Int)) = false := decide_eq_false (by omega)
                      rw [any_whole s.msgs _ i (by have := H.out.s_nm; omega)] at hfb
                      have HYES : Hid (smallT s = true) := Lib.hid (small_of HWS.out HSE.out hfb)
                      clear hfb
                      go_wp2
                      go_ret
                      exact ⟨ret_bool' HYES.out.symm, HBX.out.b_bel⟩
            · have t4 : decide ((N : Int) ≥ 200) = true := decide_eq_true (by omega)
              have t5 : decide ((200 : Int) ≤ (N : Int)) = true := decide_eq_true (by omega)
              have HNO : Hid (smallT s = false) := Lib.hid (small_no (by have := HWG.out; have := HNM.out; omega))
              go_wp2
              go_ret
              exact ⟨ret_bool' HNO.out.symm, HBX.out.b_bel⟩
      · have t3 : ¬ (N : Int) < 200 := by omega
        have t2 : decide ((N : Int) < 200) = false := decide_eq_false (by omega)
        have HNO : Hid (smallT s = false) := Lib.hid (small_no (by have := HWG.out; have := HNS.out; omega))
        have t4 : decide ((N : Int) ≥ 200) = true := decide_eq_true (by omega)
        have t5 : decide ((200 : Int) ≤ (N : Int)) = true := decide_eq_true (by omega)
        have HN200 : Hid (200 ≤ N) := Lib.hid (by omega)
        go_wp2
        go_loopg [3, 5] 1 (fun gz x0 x1 wr => x0 = .int .i64 (N : Int) ∧ x1 = .int .i64 0 ∧ Bx w wr (.cells #[.slice A n cap, .slice A2 n2 cap2] 25 (0, 0)))
        case atStart => exact ⟨rfl, rfl, HBX.out⟩
        case round =>
          obtain ⟨rfl, rfl, hbx⟩ := hrel
          have HBX := Lib.hid hbx
          clear hbx
          have r0 := obj_cell (HBX.out).b_blk 0
          have r1 := obj_cell (HBX.out).b_blk 1
          by_cases h0 : 0 < n2
          · have t6 : decide ((0 : Int) < (n2 : Int)) = true := decide_eq_true (by omega)
            have t7 : decide (0 < n2) = true := decide_eq_true (by omega)
            go_wp2
            go_ret
            exact ⟨ret_bool' HNO.out.symm, HBX.out.b_bel⟩
          · have t6 : decide ((0 : Int) < (n2 : Int)) = false := decide_eq_false (by omega)
            have t7 : decide (0 < n2) = false := decide_eq_false (by omega)
            go_wp2
            go_ret
            exact ⟨ret_bool' HNO.out.symm, HBX.out.b_bel⟩
end Go.Proofs.YtmdekdmcnnbofaaDoor

/- The document's layer 15: what is where in a message. Conditions: those that each theorem names. -/
namespace Go.Proofs.YtmdekdmcnnbofaaDoor
open Go.RowKit
set_option linter.unusedVariables false
set_option maxRecDepth 100000

set_option maxHeartbeats 4000000 in
theorem rxnumber_any {S T : Nat → Prop} (w : World) {A1 A2 : Option Addr} {nf ca nb cb : Nat} {x : Ms} (sn : ByteArray) (hl : Lst 7 S fdR w A1 ca x.fields) (hl2 : Lst 1 T inR w A2 cb x.barred) (hnf : nf = x.fields.length) (hnb : nb = x.barred.length) (t : Int) :
    Calls Tryd.prog 29 #[.agg #[.string sn, .slice A1 nf ca, .slice A2 nb cb], .int .i64 t] w fun e w' => e = .returned (.int .i64 (numAtT x t)) ∧ Below w.heap.size w w' := by
  have q1 := hl.l_le
  have q2 := hl.l_max
  have q3 := hl2.l_le
  have q4 := hl2.l_max
  rw [← hnf] at q1
  rw [← hnb] at q3
  unfold maxLen at q2 q4
  have HL := Lib.hid hl
  have HL2 := Lib.hid hl2
  have HNF := Lib.hid hnf
  have HNB := Lib.hid hnb
  have HBX := Lib.hid (bx_start w #[.string sn, .slice A1 nf ca, .slice A2 nb cb] 52)
  clear hl hl2 hnf hnb
  have r0 := obj_cell (HBX.out).b_blk 0
  have r1 := obj_cell (HBX.out).b_blk 1
  have r2 := obj_cell (HBX.out).b_blk 2
  go_enter Tryd.func29, Tryd.ntmps29
  go_wp2
  clear r0 r1 r2
  go_loopg [5] nf (fun gz x0 wr => ∃ k : Nat, x0 = .int .i64 (k : Int) ∧ k + gz = nf ∧ (∀ (j : Nat) y, j < k → (fNums x)[j]? = some y → y ≠ t) ∧ Bx w wr (.cells #[.string sn, .slice A1 nf ca, .slice A2 nb cb] 52 (0, 0)))
  case atStart => exact ⟨0, rfl, by omega, fun j y hj => absurd hj (Nat.not_lt_zero _), HBX.out⟩
  case round =>
    obtain ⟨k, rfl, hk, hall, hbx⟩ := hrel
    have HBX := Lib.hid hbx
    clear hbx
    have r0 := obj_cell (HBX.out).b_blk 0
    have r1 := obj_cell (HBX.out).b_blk 1
    have r2 := obj_cell (HBX.out).b_blk 2
    obtain ⟨g0, hg0⟩ : ∃ g0, g0 = gk := ⟨_, rfl⟩
    subst hg0
    by_cases hltk : k < nf
    · have tk : decide ((k : Int) < (nf : Int)) = true := decide_eq_true (by omega)
      obtain ⟨f, hf⟩ : ∃ f, x.fields[k]? = some f := ⟨_, List.getElem?_eq_getElem (by have := HNF.out; omega)⟩
      have HFI := Lib.hid hf
      obtain ⟨gf, of, rfl, _, hcf⟩ := fd_at HL.out hf
      have HCF := Lib.hid hcf
      clear hf hcf
      obtain ⟨d0, d1, d2, d3, d4, d5, d6⟩ := HCF.out _ HBX.out.b_bel
      have HALL := Lib.hid hall
      clear hall
      have HFM : Hid ((fNums x)[k]? = some f.num) := Lib.hid (by unfold fNums; rw [List.getElem?_map, HFI.out]; rfl)
      clear d0 d2 d3 d4 d5 d6
      by_cases hab : f.num = t
      · have HO : Hid (numAtT x t = (k : Int)) := Lib.hid (placeZ_hit (by rw [HFM.out, hab]) HALL.out)
        have e1 : (f.num == t) = true := by rw [hab]; exact beq_self_eq_true t
        have e2 : f.num = t := hab
        go_wp2
        go_ret
        exact ⟨ret_int' HO.out.symm, HBX.out.b_bel⟩
      · have e1 : (f.num == t) = false := beq_false_of_ne hab
        have HAB := Lib.hid hab
        clear hab
        go_wp2
        go_roundg (g0 - 1)
        case measure => omega
        case rel => exact ⟨k + 1, by go_num, by omega, (fun j y hj hy => by
                    by_cases hjk : j < k
                    · exact HALL.out j y hjk hy
                    · have : j = k := by omega
                      subst this
                      rw [HFM.out] at hy
                      injection hy with hy
                      rw [← hy]
                      exact HAB.out), HBX.out⟩
    · have tk : decide ((k : Int) < (nf : Int)) = false := decide_eq_false (by omega)
      have HO : Hid (numAtT x t = -1) := Lib.hid (placeZ_miss (fun j y hy => hall j y (by have := (List.getElem?_eq_some_iff.mp hy).1; unfold fNums at this; rw [List.length_map] at this; have := HNF.out; omega) hy))
      clear hall
      go_wp2
      go_ret
      exact ⟨ret_int' HO.out.symm, HBX.out.b_bel⟩
end Go.Proofs.YtmdekdmcnnbofaaDoor
