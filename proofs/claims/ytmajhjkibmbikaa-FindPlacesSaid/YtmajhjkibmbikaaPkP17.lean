/- Several texts in one: RvJ, RxA, RxB, FdLaw. What each proves, and its conditions, stands at its own head. -/
import Derived.Test.YtmajhjkibmbikaaPkP13
import Derived.Test.YtmajhjkibmbikaaPkP16
import Derived.Test.YtmajhjkibmbikaaChecked
import Derived.Test.YtmajhjkibmbikaaPkP9
import Derived.Test.YtmajhjkibmbikaaPkP0
import Derived.WalkKit
import Derived.OwnWalk
import Derived.RowKitTokens
import Derived.Lib.Hide
import Derived.Lib.BitFns
import Derived.Laws.BitsLemmas
import Derived.Lib.EndianBits
import Derived.RowKit
import Derived.Test.YtmajhjkibmbikaaPkP2
import Derived.Test.YtmajhjkibmbikaaPkP7
import Derived.Test.YtmajhjkibmbikaaPkP11
import Derived.IntWalk
import Derived.Deep.RegionHeld3
import Derived.Test.YtmajhjkibmbikaaPkP12
/- The document's layer 15: which are not too great. Conditions: those that each theorem names. -/
namespace Go.Proofs.Ytmajhjkibmbikaa
open Go.RowKit
set_option linter.unusedVariables false
set_option maxRecDepth 100000

set_option maxHeartbeats 8000000 in
theorem rvsmall_any {S : Nat → Nat → Prop} (w : World) {A A2 : Option Addr} {n cap n2 cap2 : Nat} {s : Sc} (h : ScAt S w A n cap A2 n2 cap2 s) (hok : ScOk s) :
    Calls Try.prog 6 #[.agg #[.slice A n cap, .slice A2 n2 cap2]] w fun e w' => e = .returned (.bool (smallT s)) ∧ Below w.heap.size w w' := by
  obtain ⟨m1, m2, m3, m4⟩ := scAt_max h
  have H := Lib.hid h
  have HBX := Lib.hid (bx_start w #[.slice A n cap, .slice A2 n2 cap2] 25)
  have HOK := Lib.hid hok
  have HLN : Hid (n ≤ lenM ∧ n2 ≤ lenM) := Lib.hid (by have := hok.1; have := hok.2.1; have := h.s_ne; have := h.s_nm; omega)
  have HWG : Hid (weigh s = ((n + n2) + (s.enums.map weighE).sum) + (s.msgs.map weighM).sum) := Lib.hid (by unfold weigh; rw [h.s_ne, h.s_nm])
  have gw0 : IntKind.i64.wrap ((n : Int) + (n2 : Int)) = (n : Int) + (n2 : Int) := IntWalk.i64_in _ (by have := HLN.out; unfold lenM at this; omega)
  clear h hok
  have r0 := obj_cell (HBX.out).b_blk 0
  have r1 := obj_cell (HBX.out).b_blk 1
  go_enter Try.func6, Try.ntmps6
  go_wp2
  clear r0 r1
  go_loopg [3, 4] n (fun gz x0 x1 wr => ∃ i : Nat, x1 = .int .i64 (i : Int) ∧ i + gz = n ∧ ∃ N : Nat, x0 = .int .i64 (N : Int) ∧ N = (n + n2) + ((s.enums.take i).map weighE).sum ∧ Bx w wr (.cells #[.slice A n cap, .slice A2 n2 cap2] 25 (0, 0)))
  case atStart => exact ⟨0, rfl, by omega, n + n2, (by rw [Int.natCast_add]), (by simp), HBX.out⟩
  case round =>
    obtain ⟨i, rfl, hi, N, rfl, hns, hbx⟩ := hrel
    have HBX := Lib.hid hbx
    clear hbx
    have r0 := obj_cell (HBX.out).b_blk 0
    have r1 := obj_cell (HBX.out).b_blk 1
    obtain ⟨g0, hg0⟩ : ∃ g0, g0 = gk := ⟨_, rfl⟩
    subst hg0
    by_cases hlti : i < n
    · have ti : decide ((i : Int) < (n : Int)) = true := decide_eq_true (by omega)
      have HNS := Lib.hid hns
      clear hns
      by_cases h200 : N < 200
      · have t2 : decide ((N : Int) < 200) = true := decide_eq_true (by omega)
        have t3 : (N : Int) < 200 := by omega
        obtain ⟨x, hx⟩ : ∃ x, s.enums[i]? = some x := ⟨_, List.getElem?_eq_getElem (by have := H.out.s_ne; omega)⟩
        have HXI := Lib.hid hx
        obtain ⟨ge, oe, A1, cap1, rfl, _, hc, hl⟩ := en_at H.out.s_e hx
        have q1 := hl.l_le
        have q2 := hl.l_max
        unfold maxLen at q2
        have HL := Lib.hid hl
        obtain ⟨nv, hnv⟩ : ∃ nv, nv = x.values.length := ⟨_, rfl⟩
        have HNV := Lib.hid hnv
        rw [← hnv] at hc q1
        obtain ⟨sn, hsn⟩ : ∃ sn, sn = strOf x.name := ⟨_, rfl⟩
        have HSN := Lib.hid hsn
        rw [← hsn] at hc
        have HC := Lib.hid hc
        clear hx hl hnv hsn hc
        obtain ⟨c0, c1⟩ := HC.out _ HBX.out.b_bel
        have hxo := HOK.out.2.2.1 x (List.mem_of_getElem? HXI.out)
        obtain ⟨z, hz⟩ : ∃ z, z = sn.size := ⟨_, rfl⟩
        obtain ⟨q, hq⟩ : ∃ q, q = z / 10 := ⟨_, rfl⟩
        have hzl : z = x.name.length := by rw [hz, HSN.out, str_size]
        have HLX : Hid (nv ≤ lenM ∧ q ≤ lenM) := Lib.hid ⟨by rw [HNV.out]; exact hxo.2.1, by rw [hq, hzl]; have := hxo.1; omega⟩
        have HWX : Hid (weighE x = nv + q) := Lib.hid (by unfold weighE; rw [HNV.out, hq, hzl])
        have hsz : sn.size = z := hz.symm
        have hd1 : (z : Int).tdiv 10 = (q : Int) := by rw [Int.tdiv_eq_ediv_of_nonneg (by omega)]; omega
        have hd2 : (z : Int) / 10 = (q : Int) := by omega
        have hd3 : z / 10 = q := hq.symm
        have gq : IntKind.i64.wrap (q : Int) = (q : Int) := IntWalk.i64_in _ (by have := HLX.out; unfold lenM at this; omega)
        have gw1 : IntKind.i64.wrap ((N : Int) + (nv : Int)) = (N : Int) + (nv : Int) := IntWalk.i64_in _ (by have := HLX.out; unfold lenM at this; omega)
        have gw2 : IntKind.i64.wrap ((N : Int) + (nv : Int) + (q : Int)) = (N : Int) + (nv : Int) + (q : Int) := IntWalk.i64_in _ (by have := HLX.out; unfold lenM at this; omega)
        clear hxo hz hzl hq
        go_wp2
        go_quiet (fail)
        go_wp2
        go_roundg (g0 - 1)
        case measure => omega
        case rel => exact ⟨i + 1, by go_num, by omega, N + nv + q, (by rw [show ((N + nv + q : Nat) : Int) = (N : Int) + (nv : Int) + (q : Int) by omega]), (by rw [sum_snoc _ _ _ _ HXI.out, HWX.out, HNS.out]; omega), bx_drew HBX.out _⟩
      · have t2 : decide ((N : Int) < 200) = false := decide_eq_false (by omega)
        have t3 : ¬ (N : Int) < 200 := by omega
        have HNO : Hid (smallT s = false) := Lib.hid (small_no (by have := HWG.out; have := HNS.out; have := sum_take s.enums weighE i; omega))
        have t4 : decide ((N : Int) ≥ 200) = true := decide_eq_true (by omega)
        have t5 : decide ((200 : Int) ≤ (N : Int)) = true := decide_eq_true (by omega)
        have HN200 : Hid (200 ≤ N) := Lib.hid (by omega)
        go_wp2
        go_loopg [3, 5] 1 (fun gz x0 x1 wr => x0 = .int .i64 (N : Int) ∧ x1 = .int .i64 0 ∧ Bx w wr (.cells #[.slice A n cap, .slice A2 n2 cap2] 25 (0, 0)))
        case atStart => exact ⟨rfl, rfl, HBX.out⟩
        case round =>
          obtain ⟨rfl, rfl, hbx⟩ := hrel
          have HBX := Lib.hid hbx
          clear hbx
          have r0 := obj_cell (HBX.out).b_blk 0
          have r1 := obj_cell (HBX.out).b_blk 1
          by_cases h0 : 0 < n2
          · have t6 : decide ((0 : Int) < (n2 : Int)) = true := decide_eq_true (by omega)
            have t7 : decide (0 < n2) = true := decide_eq_true (by omega)
            go_wp2
            go_ret
            exact ⟨ret_bool' HNO.out.symm, HBX.out.b_bel⟩
          · have t6 : decide ((0 : Int) < (n2 : Int)) = false := decide_eq_false (by omega)
            have t7 : decide (0 < n2) = false := decide_eq_false (by omega)
            go_wp2
            go_ret
            exact ⟨ret_bool' HNO.out.symm, HBX.out.b_bel⟩
    · have ti : decide ((i : Int) < (n : Int)) = false := decide_eq_false (by omega)
      have HNS := Lib.hid hns
      clear hns
      have HTE : Hid (((s.enums.take i).map weighE).sum = (s.enums.map weighE).sum) := Lib.hid (by rw [List.take_of_length_le (by have := H.out.s_ne; omega)])
      rw [HTE.out] at HNS
      by_cases h200 : N < 200
      · skip
        have HN2 : Hid (N < 200) := Lib.hid h200
        clear h200
        go_wp2
        clear r0 r1
        go_loopg [3, 5] n2 (fun gz x0 x1 wr => ∃ i : Nat, x1 = .int .i64 (i : Int) ∧ i + gz = n2 ∧ ∃ N : Nat, x0 = .int .i64 (N : Int) ∧ N = ((n + n2) + (s.enums.map weighE).sum) + ((s.msgs.take i).map weighM).sum ∧ Bx w wr (.cells #[.slice A n cap, .slice A2 n2 cap2] 25 (0, 0)))
        case atStart => exact ⟨0, rfl, by omega, N, rfl, (by rw [HNS.out]; simp), HBX.out⟩
        case round =>
          obtain ⟨i, rfl, hi, N, rfl, hnm, hbx⟩ := hrel
          have HBX := Lib.hid hbx
          clear hbx
          have r0 := obj_cell (HBX.out).b_blk 0
          have r1 := obj_cell (HBX.out).b_blk 1
          obtain ⟨g0, hg0⟩ : ∃ g0, g0 = gk := ⟨_, rfl⟩
          subst hg0
          by_cases hlti : i < n2
          · have ti : decide ((i : Int) < (n2 : Int)) = true := decide_eq_true (by omega)
            have HNM := Lib.hid hnm
            clear hnm
            by_cases h200 : N < 200
            · have t2 : decide ((N : Int) < 200) = true := decide_eq_true (by omega)
              have t3 : (N : Int) < 200 := by omega
              obtain ⟨x, hx⟩ : ∃ x, s.msgs[i]? = some x := ⟨_, List.getElem?_eq_getElem (by have := H.out.s_nm; omega)⟩
              have HXI := Lib.hid hx
              obtain ⟨ge, oe, A1, cap1, A3, cap3, rfl, _, hc, hl, hl2⟩ := ms_at H.out.s_m hx
              have q1 := hl.l_le
              have q2 := hl.l_max
              have q3 := hl2.l_le
              have q4 := hl2.l_max
              unfold maxLen at q2 q4
              have HL := Lib.hid hl
              have HL2 := Lib.hid hl2
              obtain ⟨nf, hnf⟩ : ∃ nf, nf = x.fields.length := ⟨_, rfl⟩
              obtain ⟨nb, hnb⟩ : ∃ nb, nb = x.barred.length := ⟨_, rfl⟩
              have HNF := Lib.hid hnf
              have HNB := Lib.hid hnb
              rw [← hnf] at hc q1
              rw [← hnb] at hc q3
              obtain ⟨sn, hsn⟩ : ∃ sn, sn = strOf x.name := ⟨_, rfl⟩
              have HSN := Lib.hid hsn
              rw [← hsn] at hc
              have HC := Lib.hid hc
              clear hx hl hl2 hnf hnb hsn hc
              obtain ⟨c0, c1, c2⟩ := HC.out _ HBX.out.b_bel
              have hxo := HOK.out.2.2.2 x (List.mem_of_getElem? HXI.out)
              obtain ⟨z, hz⟩ : ∃ z, z = sn.size := ⟨_, rfl⟩
              obtain ⟨q, hq⟩ : ∃ q, q = z / 10 := ⟨_, rfl⟩
              have hzl : z = x.name.length := by rw [hz, HSN.out, str_size]
              have HLX : Hid (nf ≤ lenM ∧ nb ≤ lenM ∧ q ≤ lenM) := Lib.hid ⟨by rw [HNF.out]; exact hxo.2.1, by rw [HNB.out]; exact hxo.2.2.1, by rw [hq, hzl]; have := hxo.1; omega⟩
              have HWX : Hid (weighM x = nf + nb + q) := Lib.hid (by unfold weighM; rw [HNF.out, HNB.out, hq, hzl])
              have hsz : sn.size = z := hz.symm
              have hd1 : (z : Int).tdiv 10 = (q : Int) := by rw [Int.tdiv_eq_ediv_of_nonneg (by omega)]; omega
              have hd2 : (z : Int) / 10 = (q : Int) := by omega
              have hd3 : z / 10 = q := hq.symm
              have gq : IntKind.i64.wrap (q : Int) = (q : Int) := IntWalk.i64_in _ (by have := HLX.out; unfold lenM at this; omega)
              have gw1 : IntKind.i64.wrap ((N : Int) + (nf : Int)) = (N : Int) + (nf : Int) := IntWalk.i64_in _ (by have := HLX.out; unfold lenM at this; omega)
              have gw2 : IntKind.i64.wrap ((N : Int) + (nf : Int) + (nb : Int)) = (N : Int) + (nf : Int) + (nb : Int) := IntWalk.i64_in _ (by have := HLX.out; unfold lenM at this; omega)
              have gw3 : IntKind.i64.wrap ((N : Int) + (nf : Int) + (nb : Int) + (q : Int)) = (N : Int) + (nf : Int) + (nb : Int) + (q : Int) := IntWalk.i64_in _ (by have := HLX.out; unfold lenM at this; omega)
              clear hxo hz hzl hq
              go_wp2
              go_quiet (fail)
              go_wp2
              go_roundg (g0 - 1)
              case measure => omega
              case rel => exact ⟨i + 1, by go_num, by omega, N + nf + nb + q, (by rw [show ((N + nf + nb + q : Nat) : Int) = (N : Int) + (nf : Int) + (nb : Int) + (q : Int) by omega]), (by rw [sum_snoc _ _ _ _ HXI.out, HWX.out, HNM.out]; omega), bx_drew HBX.out _⟩
            · have t2 : decide ((N : Int) < 200) = false := decide_eq_false (by omega)
              have t3 : ¬ (N : Int) < 200 := by omega
              have HNO : Hid (smallT s = false) := Lib.hid (small_no (by have := HWG.out; have := HNM.out; have := sum_take s.msgs weighM i; omega))
              have t4 : decide ((N : Int) ≥ 200) = true := decide_eq_true (by omega)
              have t5 : decide ((200 : Int) ≤ (N : Int)) = true := decide_eq_true (by omega)
              go_wp2
              go_ret
              exact ⟨ret_bool' HNO.out.symm, HBX.out.b_bel⟩
          · have ti : decide ((i : Int) < (n2 : Int)) = false := decide_eq_false (by omega)
            have HNM := Lib.hid hnm
            clear hnm
            have HTM : Hid (((s.msgs.take i).map weighM).sum = (s.msgs.map weighM).sum) := Lib.hid (by rw [List.take_of_length_le (by have := H.out.s_nm; omega)])
            rw [HTM.out] at HNM
            by_cases h200 : N < 200
            · have t4 : decide ((N : Int) ≥ 200) = false := decide_eq_false (by omega)
              have t5 : decide ((200 : Int) ≤ (N : Int)) = false := decide_eq_false (by omega)
              have HWS : Hid (weigh s < 200) := Lib.hid (by have := HWG.out; have := HNM.out; omega)
              clear h200
              go_wp2
              clear r0 r1
              go_loopg [6] n (fun gz x0 wr => ∃ i : Nat, x0 = .int .i64 (i : Int) ∧ i + gz = n ∧ (s.enums.take i).any longE = false ∧ Bx w wr (.cells #[.slice A n cap, .slice A2 n2 cap2] 25 (0, 0)))
              case atStart => exact ⟨0, rfl, by omega, rfl, HBX.out⟩
              case round =>
                obtain ⟨i, rfl, hi, hfb, hbx⟩ := hrel
                have HBX := Lib.hid hbx
                clear hbx
                have r0 := obj_cell (HBX.out).b_blk 0
                have r1 := obj_cell (HBX.out).b_blk 1
                obtain ⟨g0, hg0⟩ : ∃ g0, g0 = gk := ⟨_, rfl⟩
                subst hg0
                by_cases hlti : i < n
                · have ti : decide ((i : Int) < (n : Int)) = true := decide_eq_true (by omega)
                  obtain ⟨x, hx⟩ : ∃ x, s.enums[i]? = some x := ⟨_, List.getElem?_eq_getElem (by have := H.out.s_ne; omega)⟩
                  have HXI := Lib.hid hx
                  obtain ⟨ge, oe, A1, cap1, rfl, _, hc, hl⟩ := en_at H.out.s_e hx
                  have q1 := hl.l_le
                  have q2 := hl.l_max
                  unfold maxLen at q2
                  have HL := Lib.hid hl
                  obtain ⟨nv, hnv⟩ : ∃ nv, nv = x.values.length := ⟨_, rfl⟩
                  have HNV := Lib.hid hnv
                  rw [← hnv] at hc q1
                  obtain ⟨sn, hsn⟩ : ∃ sn, sn = strOf x.name := ⟨_, rfl⟩
                  have HSN := Lib.hid hsn
                  rw [← hsn] at hc
                  have HC := Lib.hid hc
                  clear hx hl hnv hsn hc
                  obtain ⟨c0, c1⟩ := HC.out _ HBX.out.b_bel
                  have HFB := Lib.hid hfb
                  clear hfb
                  go_wp2
                  clear c0 c1
                  clear r0 r1
                  go_loopg [7] nv (fun gz x0 wr => ∃ k : Nat, x0 = .int .i64 (k : Int) ∧ k + gz = nv ∧ (x.values.take k).any longV = false ∧ Bx w wr (.cells #[.slice (some ⟨ge, oe, none⟩) n cap, .slice A2 n2 cap2] 25 (0, 0)))
                  case atStart => exact ⟨0, rfl, by omega, rfl, HBX.out⟩
                  case round =>
                    obtain ⟨k, rfl, hk, hfk, hbx⟩ := hrel
                    have HBX := Lib.hid hbx
                    clear hbx
                    have r0 := obj_cell (HBX.out).b_blk 0
                    have r1 := obj_cell (HBX.out).b_blk 1
                    obtain ⟨g1, hg1⟩ : ∃ g1, g1 = gk := ⟨_, rfl⟩
                    subst hg1
                    by_cases hltk : k < nv
                    · have tk : decide ((k : Int) < (nv : Int)) = true := decide_eq_true (by omega)
                      obtain ⟨v, hv⟩ : ∃ v, x.values[k]? = some v := ⟨_, List.getElem?_eq_getElem (by have := HNV.out; omega)⟩
                      have HVI := Lib.hid hv
                      obtain ⟨gv, ov, rfl, _, hcv⟩ := vl_at HL.out hv
                      obtain ⟨c0, c1⟩ := HC.out _ HBX.out.b_bel
                      obtain ⟨d0, d1⟩ := hcv _ HBX.out.b_bel
                      have HFK := Lib.hid hfk
                      clear hfk
                      obtain ⟨sv, hsv⟩ : ∃ sv, sv = strOf v.name := ⟨_, rfl⟩
                      obtain ⟨z, hz⟩ : ∃ z, z = v.name.length := ⟨_, rfl⟩
                      have hsz : sv.size = z := by rw [hsv, str_size, hz]
                      rw [← hsv] at d0
                      by_cases hl : 1000 < z
                      · have dl : decide ((z : Int) > 1000) = true := decide_eq_true (by omega)
                        have HNO : Hid (smallT s = false) := Lib.hid (small_noE (any_off HXI.out (p := longE) (any_off HVI.out (p := longV) (by unfold longV; rw [← hz]; exact decide_eq_true hl))))
                        clear hv hcv hsv hz
                        go_wp2
                        go_ret
                        exact ⟨ret_bool' HNO.out.symm, HBX.out.b_bel⟩
                      · have dl : decide ((z : Int) > 1000) = false := decide_eq_false (by omega)
                        have HXV : Hid ((x.values.take (k + 1)).any longV = false) := Lib.hid (by rw [any_snoc _ _ _ _ HVI.out, HFK.out]; unfold longV; rw [← hz]; exact decide_eq_false hl)
                        clear hv hcv hsv hz
                        go_wp2
                        go_roundg (g1 - 1)
                        case measure => omega
                        case rel => exact ⟨k + 1, by go_num, by omega, HXV.out, HBX.out⟩
                    · have tk : decide ((k : Int) < (nv : Int)) = false := decide_eq_false (by omega)
                      obtain ⟨c0, c1⟩ := HC.out _ HBX.out.b_bel
                      rw [any_whole x.values _ k (by have := HNV.out; omega)] at hfk
                      have HFK := Lib.hid hfk
                      clear hfk
                      go_wp2
                      go_roundg (g0 - 1)
                      case measure => omega
                      case rel => exact ⟨i + 1, by go_num, by omega, by rw [any_snoc s.enums longE i x HXI.out, HFB.out]; exact HFK.out, HBX.out⟩
                · have ti : decide ((i : Int) < (n : Int)) = false := decide_eq_false (by omega)
                  rw [any_whole s.enums _ i (by have := H.out.s_ne; omega)] at hfb
                  have HSE := Lib.hid hfb
                  clear hfb
                  go_wp2
                  clear r0 r1
                  go_loopg [8] n2 (fun gz x0 wr => ∃ i : Nat, x0 = .int .i64 (i : Int) ∧ i + gz = n2 ∧ (s.msgs.take i).any longM = false ∧ Bx w wr (.cells #[.slice A n cap, .slice A2 n2 cap2] 25 (0, 0)))
                  case atStart => exact ⟨0, rfl, by omega, rfl, HBX.out⟩
                  case round =>
                    obtain ⟨i, rfl, hi, hfb, hbx⟩ := hrel
                    have HBX := Lib.hid hbx
                    clear hbx
                    have r0 := obj_cell (HBX.out).b_blk 0
                    have r1 := obj_cell (HBX.out).b_blk 1
                    obtain ⟨g0, hg0⟩ : ∃ g0, g0 = gk := ⟨_, rfl⟩
                    subst hg0
                    by_cases hlti : i < n2
                    · have ti : decide ((i : Int) < (n2 : Int)) = true := decide_eq_true (by omega)
                      obtain ⟨x, hx⟩ : ∃ x, s.msgs[i]? = some x := ⟨_, List.getElem?_eq_getElem (by have := H.out.s_nm; omega)⟩
                      have HXI := Lib.hid hx
                      obtain ⟨ge, oe, A1, cap1, A3, cap3, rfl, _, hc, hl, hl2⟩ := ms_at H.out.s_m hx
                      have q1 := hl.l_le
                      have q2 := hl.l_max
                      have q3 := hl2.l_le
                      have q4 := hl2.l_max
                      unfold maxLen at q2 q4
                      have HL := Lib.hid hl
                      have HL2 := Lib.hid hl2
                      obtain ⟨nf, hnf⟩ : ∃ nf, nf = x.fields.length := ⟨_, rfl⟩
                      obtain ⟨nb, hnb⟩ : ∃ nb, nb = x.barred.length := ⟨_, rfl⟩
                      have HNF := Lib.hid hnf
                      have HNB := Lib.hid hnb
                      rw [← hnf] at hc q1
                      rw [← hnb] at hc q3
                      obtain ⟨sn, hsn⟩ : ∃ sn, sn = strOf x.name := ⟨_, rfl⟩
                      have HSN := Lib.hid hsn
                      rw [← hsn] at hc
                      have HC := Lib.hid hc
                      clear hx hl hl2 hnf hnb hsn hc
                      obtain ⟨c0, c1, c2⟩ := HC.out _ HBX.out.b_bel
                      have HFB := Lib.hid hfb
                      clear hfb
                      go_wp2
                      clear c0 c1 c2
                      clear r0 r1
                      go_loopg [9] nf (fun gz x0 wr => ∃ k : Nat, x0 = .int .i64 (k : Int) ∧ k + gz = nf ∧ (x.fields.take k).any longF = false ∧ Bx w wr (.cells #[.slice A n cap, .slice (some ⟨ge, oe, none⟩) n2 cap2] 25 (0, 0)))
                      case atStart => exact ⟨0, rfl, by omega, rfl, HBX.out⟩
                      case round =>
                        obtain ⟨k, rfl, hk, hfk, hbx⟩ := hrel
                        have HBX := Lib.hid hbx
                        clear hbx
                        have r0 := obj_cell (HBX.out).b_blk 0
                        have r1 := obj_cell (HBX.out).b_blk 1
                        obtain ⟨g1, hg1⟩ : ∃ g1, g1 = gk := ⟨_, rfl⟩
                        subst hg1
                        by_cases hltk : k < nf
                        · have tk : decide ((k : Int) < (nf : Int)) = true := decide_eq_true (by omega)
                          obtain ⟨f, hf⟩ : ∃ f, x.fields[k]? = some f := ⟨_, List.getElem?_eq_getElem (by have := HNF.out; omega)⟩
                          have HFI := Lib.hid hf
                          obtain ⟨gf, of, rfl, _, hcf⟩ := fd_at HL.out hf
                          have HCF := Lib.hid hcf
                          clear hf hcf
                          have HFK := Lib.hid hfk
                          clear hfk
                          obtain ⟨c0, c1, c2⟩ := HC.out _ HBX.out.b_bel
                          obtain ⟨d0, d1, d2, d3, d4, d5, d6⟩ := HCF.out _ HBX.out.b_bel
                          have HXF := Lib.hid (any_snoc x.fields longF k f HFI.out)
                          have HO := Lib.hid (fun hp : longF f = true => (small_noM (any_off HXI.out (p := longM) (any_off HFI.out (p := longF) hp)) : smallT s = false))
                          obtain ⟨p, hp⟩ : ∃ p, p = longF f := ⟨_, rfl⟩
                          rw [← hp] at HXF HO
                          unfold longF at hp
                          obtain ⟨name, num, ty, ref, rep, loose, one⟩ := f
                          dsimp only at hp d0 d1 d2 d3 d4 d5 d6
                          obtain ⟨sn1, hsn1⟩ : ∃ z, z = strOf name := ⟨_, rfl⟩
                          obtain ⟨z1, hz1⟩ : ∃ z, z = name.length := ⟨_, rfl⟩
                          have szz1 : sn1.size = z1 := by rw [hsn1, str_size, hz1]
                          obtain ⟨sr1, hsr1⟩ : ∃ z, z = strOf ref := ⟨_, rfl⟩
                          obtain ⟨z2, hz2⟩ : ∃ z, z = ref.length := ⟨_, rfl⟩
                          have szz2 : sr1.size = z2 := by rw [hsr1, str_size, hz2]
                          obtain ⟨so1, hso1⟩ : ∃ z, z = strOf one := ⟨_, rfl⟩
                          obtain ⟨z3, hz3⟩ : ∃ z, z = one.length := ⟨_, rfl⟩
                          have szz3 : so1.size = z3 := by rw [hso1, str_size, hz3]
                          rw [← hsn1] at d0
                          rw [← hsr1] at d3
                          rw [← hso1] at d6
                          rw [← hz1, ← hz2, ← hz3] at hp
                          clear hsn1 hsr1 hso1 hz1 hz2 hz3
                          have HBA : Hid (Bx w (wr.alloc (.cells #[.string sn1, .int .i64 num, .int .i64 ty, .string sr1, .bool rep, .bool loose, .string so1] 47)) (.cells #[.slice A n cap, .slice (some ⟨ge, oe, none⟩) n2 cap2] 25 (0, 0))) := Lib.hid (bx_step HBX.out ((Below.refl _ wr).alloc (Nat.le_refl _) _))
                          have a0 := obj_cell HBA.out.b_blk 0
                          have a1 := obj_cell HBA.out.b_blk 1
                          have HFX : Hid ((wr.alloc (.cells #[.string sn1, .int .i64 num, .int .i64 ty, .string sr1, .bool rep, .bool loose, .string so1] 47)).heap[wr.heap.size]? = some (.cells #[.string sn1, .int .i64 num, .int .i64 ty, .string sr1, .bool rep, .bool loose, .string so1] 47 (0, 0))) := Lib.hid (heap_alloc_new wr _)
                          have f0 := obj_cell HFX.out 0
                          have f3 := obj_cell HFX.out 3
                          have f6 := obj_cell HFX.out 6
                          by_cases hz1 : 1000 < z1
                          · have lz1 : decide ((z1 : Int) > 1000) = true := decide_eq_true (by omega)
                            replace hp : p = true := by rw [hp]; simp [*]
                            have HNO : Hid (smallT s = false) := Lib.hid (HO.out hp)
                            go_wp2
                            go_ret
                            exact ⟨ret_bool' HNO.out.symm, HBA.out.b_bel⟩
                          · have lz1 : decide ((z1 : Int) > 1000) = false := decide_eq_false (by omega)
                            by_cases hz2 : 1000 < z2
                            · have lz2 : decide ((z2 : Int) > 1000) = true := decide_eq_true (by omega)
                              replace hp : p = true := by rw [hp]; simp [*]
                              have HNO : Hid (smallT s = false) := Lib.hid (HO.out hp)
                              go_wp2
                              go_ret
                              exact ⟨ret_bool' HNO.out.symm, HBA.out.b_bel⟩
                            · have lz2 : decide ((z2 : Int) > 1000) = false := decide_eq_false (by omega)
                              by_cases hz3 : 1000 < z3
                              · have lz3 : decide ((z3 : Int) > 1000) = true := decide_eq_true (by omega)
                                replace hp : p = true := by rw [hp]; simp [*]
                                have HNO : Hid (smallT s = false) := Lib.hid (HO.out hp)
                                go_wp2
                                go_ret
                                exact ⟨ret_bool' HNO.out.symm, HBA.out.b_bel⟩
                              · have lz3 : decide ((z3 : Int) > 1000) = false := decide_eq_false (by omega)
                                replace hp : p = false := by rw [hp]; simp [*]
                                have HXK : Hid ((x.fields.take (k + 1)).any longF = false) := Lib.hid (by rw [HXF.out, HFK.out, hp]; rfl)
                                go_wp2
                                go_roundg (g1 - 1)
                                case measure => omega
                                case rel => exact ⟨k + 1, by go_num, by omega, HXK.out, HBA.out⟩
                        · have tk : decide ((k : Int) < (nf : Int)) = false := decide_eq_false (by omega)
                          obtain ⟨c0, c1, c2⟩ := HC.out _ HBX.out.b_bel
                          rw [any_whole x.fields _ k (by have := HNF.out; omega)] at hfk
                          have HFK := Lib.hid hfk
                          clear hfk
                          go_wp2
                          go_roundg (g0 - 1)
                          case measure => omega
                          case rel => exact ⟨i + 1, by go_num, by omega, by rw [any_snoc s.msgs longM i x HXI.out, HFB.out]; exact HFK.out, HBX.out⟩
                    · have ti : decide ((i : Int) < (n2 : Int)) = false := decide_eq_false (by omega)
                      rw [any_whole s.msgs _ i (by have := H.out.s_nm; omega)] at hfb
                      have HYES : Hid (smallT s = true) := Lib.hid (small_of HWS.out HSE.out hfb)
                      clear hfb
                      go_wp2
                      go_ret
                      exact ⟨ret_bool' HYES.out.symm, HBX.out.b_bel⟩
            · have t4 : decide ((N : Int) ≥ 200) = true := decide_eq_true (by omega)
              have t5 : decide ((200 : Int) ≤ (N : Int)) = true := decide_eq_true (by omega)
              have HNO : Hid (smallT s = false) := Lib.hid (small_no (by have := HWG.out; have := HNM.out; omega))
              go_wp2
              go_ret
              exact ⟨ret_bool' HNO.out.symm, HBX.out.b_bel⟩
      · have t3 : ¬ (N : Int) < 200 := by omega
        have t2 : decide ((N : Int) < 200) = false := decide_eq_false (by omega)
        have HNO : Hid (smallT s = false) := Lib.hid (small_no (by have := HWG.out; have := HNS.out; omega))
        have t4 : decide ((N : Int) ≥ 200) = true := decide_eq_true (by omega)
        have t5 : decide ((200 : Int) ≤ (N : Int)) = true := decide_eq_true (by omega)
        have HN200 : Hid (200 ≤ N) := Lib.hid (by omega)
        go_wp2
        go_loopg [3, 5] 1 (fun gz x0 x1 wr => x0 = .int .i64 (N : Int) ∧ x1 = .int .i64 0 ∧ Bx w wr (.cells #[.slice A n cap, .slice A2 n2 cap2] 25 (0, 0)))
        case atStart => exact ⟨rfl, rfl, HBX.out⟩
        case round =>
          obtain ⟨rfl, rfl, hbx⟩ := hrel
          have HBX := Lib.hid hbx
          clear hbx
          have r0 := obj_cell (HBX.out).b_blk 0
          have r1 := obj_cell (HBX.out).b_blk 1
          by_cases h0 : 0 < n2
          · have t6 : decide ((0 : Int) < (n2 : Int)) = true := decide_eq_true (by omega)
            have t7 : decide (0 < n2) = true := decide_eq_true (by omega)
            go_wp2
            go_ret
            exact ⟨ret_bool' HNO.out.symm, HBX.out.b_bel⟩
          · have t6 : decide ((0 : Int) < (n2 : Int)) = false := decide_eq_false (by omega)
            have t7 : decide (0 < n2) = false := decide_eq_false (by omega)
            go_wp2
            go_ret
            exact ⟨ret_bool' HNO.out.symm, HBX.out.b_bel⟩
end Go.Proofs.Ytmajhjkibmbikaa

/- The document's layer 15: what is where in a message. Conditions: those that each theorem names. -/
namespace Go.Proofs.Ytmajhjkibmbikaa
open Go.RowKit
set_option linter.unusedVariables false
set_option maxRecDepth 100000

set_option maxHeartbeats 4000000 in
theorem rxfield_any {S T : Nat → Prop} (w : World) {A1 A2 : Option Addr} {nf ca nb cb : Nat} {x : Ms} (sn : ByteArray) (hl : Lst 7 S fdR w A1 ca x.fields) (hl2 : Lst 1 T inR w A2 cb x.barred) (hnf : nf = x.fields.length) (hnb : nb = x.barred.length) (t : List UInt8) :
    Calls Try.prog 15 #[.agg #[.string sn, .slice A1 nf ca, .slice A2 nb cb], .string (strOf t)] w fun e w' => e = .returned (.int .i64 (fieldAtT x t)) ∧ Below w.heap.size w w' := by
  have q1 := hl.l_le
  have q2 := hl.l_max
  have q3 := hl2.l_le
  have q4 := hl2.l_max
  rw [← hnf] at q1
  rw [← hnb] at q3
  unfold maxLen at q2 q4
  have HL := Lib.hid hl
  have HL2 := Lib.hid hl2
  have HNF := Lib.hid hnf
  have HNB := Lib.hid hnb
  have HBX := Lib.hid (bx_start w #[.string sn, .slice A1 nf ca, .slice A2 nb cb] 32)
  obtain ⟨st, hst⟩ : ∃ st, st = strOf t := ⟨_, rfl⟩
  have HST := Lib.hid hst
  rw [← hst]
  clear hst
  clear hl hl2 hnf hnb
  have r0 := obj_cell (HBX.out).b_blk 0
  have r1 := obj_cell (HBX.out).b_blk 1
  have r2 := obj_cell (HBX.out).b_blk 2
  go_enter Try.func15, Try.ntmps15
  go_wp2
  clear r0 r1 r2
  go_loopg [5] nf (fun gz x0 wr => ∃ k : Nat, x0 = .int .i64 (k : Int) ∧ k + gz = nf ∧ (∀ (j : Nat) y, j < k → (fNames x)[j]? = some y → y ≠ t) ∧ Bx w wr (.cells #[.string sn, .slice A1 nf ca, .slice A2 nb cb] 32 (0, 0)))
  case atStart => exact ⟨0, rfl, by omega, fun j y hj => absurd hj (Nat.not_lt_zero _), HBX.out⟩
  case round =>
    obtain ⟨k, rfl, hk, hall, hbx⟩ := hrel
    have HBX := Lib.hid hbx
    clear hbx
    have r0 := obj_cell (HBX.out).b_blk 0
    have r1 := obj_cell (HBX.out).b_blk 1
    have r2 := obj_cell (HBX.out).b_blk 2
    obtain ⟨g0, hg0⟩ : ∃ g0, g0 = gk := ⟨_, rfl⟩
    subst hg0
    by_cases hltk : k < nf
    · have tk : decide ((k : Int) < (nf : Int)) = true := decide_eq_true (by omega)
      obtain ⟨f, hf⟩ : ∃ f, x.fields[k]? = some f := ⟨_, List.getElem?_eq_getElem (by have := HNF.out; omega)⟩
      have HFI := Lib.hid hf
      obtain ⟨gf, of, rfl, _, hcf⟩ := fd_at HL.out hf
      have HCF := Lib.hid hcf
      clear hf hcf
      obtain ⟨d0, d1, d2, d3, d4, d5, d6⟩ := HCF.out _ HBX.out.b_bel
      have HALL := Lib.hid hall
      clear hall
      have HFM : Hid ((fNames x)[k]? = some f.name) := Lib.hid (by unfold fNames; rw [List.getElem?_map, HFI.out]; rfl)
      obtain ⟨sv, hsv⟩ : ∃ sv, sv = strOf f.name := ⟨_, rfl⟩
      have HSV := Lib.hid hsv
      rw [← hsv] at d0
      clear hsv
      clear d1 d2 d3 d4 d5 d6
      by_cases hab : f.name = t
      · have HO : Hid (fieldAtT x t = (k : Int)) := Lib.hid (placeT_hit (by rw [HFM.out, hab]) HALL.out)
        obtain rfl : sv = st := by rw [HSV.out, HST.out, hab]
        go_wp2
        go_ret
        exact ⟨ret_int' HO.out.symm, HBX.out.b_bel⟩
      · have e1 : ¬ sv.toList = st.toList := by rw [HSV.out, HST.out, str_list, str_list]; exact hab
        have e2 : (sv.toList == st.toList) = false := by rw [HSV.out, HST.out, strOf_beq]; exact decide_eq_false hab
        have HAB := Lib.hid hab
        clear hab
        go_wp2
        go_roundg (g0 - 1)
        case measure => omega
        case rel => exact ⟨k + 1, by go_num, by omega, (fun j y hj hy => by
                    by_cases hjk : j < k
                    · exact HALL.out j y hjk hy
                    · have : j = k := by omega
                      subst this
                      rw [HFM.out] at hy
                      injection hy with hy
                      rw [← hy]
                      exact HAB.out), HBX.out⟩
    · have tk : decide ((k : Int) < (nf : Int)) = false := decide_eq_false (by omega)
      have HO : Hid (fieldAtT x t = -1) := Lib.hid (placeT_miss (fun j y hy => hall j y (by have := (List.getElem?_eq_some_iff.mp hy).1; unfold fNames at this; rw [List.length_map] at this; have := HNF.out; omega) hy))
      clear hall
      go_wp2
      go_ret
      exact ⟨ret_int' HO.out.symm, HBX.out.b_bel⟩
set_option maxHeartbeats 4000000 in
theorem rxnumber_any {S T : Nat → Prop} (w : World) {A1 A2 : Option Addr} {nf ca nb cb : Nat} {x : Ms} (sn : ByteArray) (hl : Lst 7 S fdR w A1 ca x.fields) (hl2 : Lst 1 T inR w A2 cb x.barred) (hnf : nf = x.fields.length) (hnb : nb = x.barred.length) (t : Int) :
    Calls Try.prog 17 #[.agg #[.string sn, .slice A1 nf ca, .slice A2 nb cb], .int .i64 t] w fun e w' => e = .returned (.int .i64 (numAtT x t)) ∧ Below w.heap.size w w' := by
  have q1 := hl.l_le
  have q2 := hl.l_max
  have q3 := hl2.l_le
  have q4 := hl2.l_max
  rw [← hnf] at q1
  rw [← hnb] at q3
  unfold maxLen at q2 q4
  have HL := Lib.hid hl
  have HL2 := Lib.hid hl2
  have HNF := Lib.hid hnf
  have HNB := Lib.hid hnb
  have HBX := Lib.hid (bx_start w #[.string sn, .slice A1 nf ca, .slice A2 nb cb] 32)
  clear hl hl2 hnf hnb
  have r0 := obj_cell (HBX.out).b_blk 0
  have r1 := obj_cell (HBX.out).b_blk 1
  have r2 := obj_cell (HBX.out).b_blk 2
  go_enter Try.func17, Try.ntmps17
  go_wp2
  clear r0 r1 r2
  go_loopg [5] nf (fun gz x0 wr => ∃ k : Nat, x0 = .int .i64 (k : Int) ∧ k + gz = nf ∧ (∀ (j : Nat) y, j < k → (fNums x)[j]? = some y → y ≠ t) ∧ Bx w wr (.cells #[.string sn, .slice A1 nf ca, .slice A2 nb cb] 32 (0, 0)))
  case atStart => exact ⟨0, rfl, by omega, fun j y hj => absurd hj (Nat.not_lt_zero _), HBX.out⟩
  case round =>
    obtain ⟨k, rfl, hk, hall, hbx⟩ := hrel
    have HBX := Lib.hid hbx
    clear hbx
    have r0 := obj_cell (HBX.out).b_blk 0
    have r1 := obj_cell (HBX.out).b_blk 1
    have r2 := obj_cell (HBX.out).b_blk 2
    obtain ⟨g0, hg0⟩ : ∃ g0, g0 = gk := ⟨_, rfl⟩
    subst hg0
    by_cases hltk : k < nf
    · have tk : decide ((k : Int) < (nf : Int)) = true := decide_eq_true (by omega)
      obtain ⟨f, hf⟩ : ∃ f, x.fields[k]? = some f := ⟨_, List.getElem?_eq_getElem (by have := HNF.out; omega)⟩
      have HFI := Lib.hid hf
      obtain ⟨gf, of, rfl, _, hcf⟩ := fd_at HL.out hf
      have HCF := Lib.hid hcf
      clear hf hcf
      obtain ⟨d0, d1, d2, d3, d4, d5, d6⟩ := HCF.out _ HBX.out.b_bel
      have HALL := Lib.hid hall
      clear hall
      have HFM : Hid ((fNums x)[k]? = some f.num) := Lib.hid (by unfold fNums; rw [List.getElem?_map, HFI.out]; rfl)
      clear d0 d2 d3 d4 d5 d6
      by_cases hab : f.num = t
      · have HO : Hid (numAtT x t = (k : Int)) := Lib.hid (placeZ_hit (by rw [HFM.out, hab]) HALL.out)
        have e1 : (f.num == t) = true := by rw [hab]; exact beq_self_eq_true t
        have e2 : f.num = t := hab
        go_wp2
        go_ret
        exact ⟨ret_int' HO.out.symm, HBX.out.b_bel⟩
      · have e1 : (f.num == t) = false := beq_false_of_ne hab
        have HAB := Lib.hid hab
        clear hab
        go_wp2
        go_roundg (g0 - 1)
        case measure => omega
        case rel => exact ⟨k + 1, by go_num, by omega, (fun j y hj hy => by
                    by_cases hjk : j < k
                    · exact HALL.out j y hjk hy
                    · have : j = k := by omega
                      subst this
                      rw [HFM.out] at hy
                      injection hy with hy
                      rw [← hy]
                      exact HAB.out), HBX.out⟩
    · have tk : decide ((k : Int) < (nf : Int)) = false := decide_eq_false (by omega)
      have HO : Hid (numAtT x t = -1) := Lib.hid (placeZ_miss (fun j y hy => hall j y (by have := (List.getElem?_eq_some_iff.mp hy).1; unfold fNums at this; rw [List.length_map] at this; have := HNF.out; omega) hy))
      clear hall
      go_wp2
      go_ret
      exact ⟨ret_int' HO.out.symm, HBX.out.b_bel⟩
set_option maxHeartbeats 8000000 in
theorem rxmembers_any {S T : Nat → Prop} (w : World) {A1 A2 : Option Addr} {nf ca nb cb : Nat} {x : Ms} (sn : ByteArray) (hl : Lst 7 S fdR w A1 ca x.fields) (hl2 : Lst 1 T inR w A2 cb x.barred) (hnf : nf = x.fields.length) (hnb : nb = x.barred.length) (t : List UInt8) (h10 : nf ≤ 1000) :
    Calls Try.prog 22 #[.agg #[.string sn, .slice A1 nf ca, .slice A2 nb cb], .string (strOf t)] w fun e w' => ∃ A cap n, e = .returned (.slice A n cap) ∧ n = (membersT x t).length ∧ Lst 1 (fun g => w.heap.size ≤ g) inR w' A cap (membersT x t) ∧ Below w.heap.size w w' := by
  have q1 := hl.l_le
  have q2 := hl.l_max
  have q3 := hl2.l_le
  have q4 := hl2.l_max
  rw [← hnf] at q1
  rw [← hnb] at q3
  unfold maxLen at q2 q4
  have HL := Lib.hid hl
  have HL2 := Lib.hid hl2
  have HNF := Lib.hid hnf
  have HNB := Lib.hid hnb
  have HBX := Lib.hid (bx_start w #[.string sn, .slice A1 nf ca, .slice A2 nb cb] 32)
  obtain ⟨st, hst⟩ : ∃ st, st = strOf t := ⟨_, rfl⟩
  have HST := Lib.hid hst
  have H10 := Lib.hid h10
  obtain ⟨w0, hw0⟩ : ∃ w0, w0 = w.alloc (.cells #[.string sn, .slice A1 nf ca, .slice A2 nb cb] 32) := ⟨_, rfl⟩
  have HW0 := Lib.hid hw0
  rw [← hw0] at HBX
  have HB0 := Lib.hid HBX.out
  have HOW0 := Lib.hid (own0_int w0)
  have HBL0 : Hid (Below w0.heap.size w0 (w0.alloc (.cells #[] 3))) := Lib.hid ((Below.refl _ w0).alloc (Nat.le_refl _) _)
  have he1 : (st.toList == []) = decide (t = []) := by rw [hst]; exact empty_facts t
  rw [← hst]
  clear hl hl2 hnf hnb hst hw0 HBX h10
  by_cases ht : t = []
  · skip
    have t3 : st.toList = [] := by have := HST.out; rw [this, str_list]; exact ht
    have t2 : st.toList.isEmpty = true := by rw [t3]; rfl
    have t1 : (st.toList == []) = true := by rw [he1]; exact decide_eq_true ht
    have HT := Lib.hid ht
    clear he1 ht
    go_enter Try.func22, Try.ntmps22
    go_wp2
    go_loopg [5, 6] nf (fun gz x0 x1 wr => ∃ k : Nat, x1 = .int .i64 (k : Int) ∧ k + gz = nf ∧ ∃ vl, x0 = vl ∧ wr.ownsRow w0.heap.size 3 1 vl (((x.fields.take k).filter (inOne t)).map Fd.num).length (zs (((x.fields.take k).filter (inOne t)).map Fd.num)) ∧ Below w0.heap.size w0 wr)
    case atStart => exact ⟨0, rfl, by omega, (by have e := HW0.out; subst e; have h1 := HOW0.out; simp only [World.size_alloc] at h1 ⊢; have h2 := HBL0.out; simp only [World.size_alloc] at h2; exact ⟨_, rfl, h1, h2⟩)⟩
    case round =>
      obtain ⟨k, rfl, hk, vl, rfl, hown, hbel⟩ := hrel
      have HOWL := Lib.hid hown
      have HBEL := Lib.hid hbel
      have HBX := Lib.hid (bx_step HB0.out hbel)
      clear hown hbel
      have r0 := obj_cell (HBX.out).b_blk 0
      have r1 := obj_cell (HBX.out).b_blk 1
      have r2 := obj_cell (HBX.out).b_blk 2
      obtain ⟨g0, hg0⟩ : ∃ g0, g0 = gk := ⟨_, rfl⟩
      subst hg0
      by_cases hltk : k < nf
      · have tk : decide ((k : Int) < (nf : Int)) = true := decide_eq_true (by omega)
        obtain ⟨f, hf⟩ : ∃ f, x.fields[k]? = some f := ⟨_, List.getElem?_eq_getElem (by have := HNF.out; omega)⟩
        have HFI := Lib.hid hf
        obtain ⟨gf, of, rfl, _, hcf⟩ := fd_at HL.out hf
        have HCF := Lib.hid hcf
        clear hf hcf
        obtain ⟨d0, d1, d2, d3, d4, d5, d6⟩ := HCF.out _ HBX.out.b_bel
        have HMS := Lib.hid (members_snoc x.fields (inOne t) k f HFI.out)
        have HLN : Hid ((((x.fields.take k).filter (inOne t)).map Fd.num).length ≤ 1000) := Lib.hid (by have h1 := List.length_filter_le (inOne t) (x.fields.take k); have := H10.out; have := HNF.out; rw [List.length_take] at h1; rw [List.length_map]; omega)
        obtain ⟨so1, hso1⟩ : ∃ sv, sv = strOf f.one := ⟨_, rfl⟩
        have HSO := Lib.hid hso1
        rw [← hso1] at d6
        clear hso1 d0 d2 d3 d4 d5
        have HP : Hid (inOne t f = false) := Lib.hid (by unfold inOne; rw [decide_eq_true HT.out]; rfl)
        go_wp2
        go_roundg (g0 - 1)
        case measure => omega
        case rel => exact ⟨k + 1, by go_num, by omega, _, rfl, (by rw [HMS.out, HP.out]; simpa using HOWL.out), HBEL.out⟩
      · have tk : decide ((k : Int) < (nf : Int)) = false := decide_eq_false (by omega)
        have HF : Hid (((x.fields.take k).filter (inOne t)).map Fd.num = membersT x t) := Lib.hid (by rw [List.take_of_length_le (by have := HNF.out; omega)]; rfl)
        have ho := HOWL.out
        rw [HF.out] at ho
        obtain ⟨_, Al, capl, hvl, hsl⟩ := zs_own ho
        obtain ⟨nl, hnl⟩ : ∃ nl, nl = (membersT x t).length := ⟨_, rfl⟩
        rw [← hnl] at hvl
        subst hvl
        have HSL := Lib.hid hsl
        have HNL := Lib.hid hnl
        clear ho hsl hnl
        go_wp2
        go_ret
        exact ⟨Al, capl, nl, rfl, HNL.out, lst_keep HSL.out inR_keep (fun g hg => Nat.le_trans HB0.out.b_bel.size hg.1) (fun _ _ _ => rfl), HBX.out.b_bel⟩
  · skip
    have t3 : ¬ st.toList = [] := by have := HST.out; rw [this, str_list]; exact ht
    have t2 : st.toList.isEmpty = false := by rw [List.isEmpty_eq_false_iff]; exact t3
    have t1 : (st.toList == []) = false := by rw [he1]; exact decide_eq_false ht
    have HT := Lib.hid ht
    clear he1 ht
    go_enter Try.func22, Try.ntmps22
    go_wp2
    go_loopg [5, 6] nf (fun gz x0 x1 wr => ∃ k : Nat, x1 = .int .i64 (k : Int) ∧ k + gz = nf ∧ ∃ vl, x0 = vl ∧ wr.ownsRow w0.heap.size 3 1 vl (((x.fields.take k).filter (inOne t)).map Fd.num).length (zs (((x.fields.take k).filter (inOne t)).map Fd.num)) ∧ Below w0.heap.size w0 wr)
    case atStart => exact ⟨0, rfl, by omega, (by have e := HW0.out; subst e; have h1 := HOW0.out; simp only [World.size_alloc] at h1 ⊢; have h2 := HBL0.out; simp only [World.size_alloc] at h2; exact ⟨_, rfl, h1, h2⟩)⟩
    case round =>
      obtain ⟨k, rfl, hk, vl, rfl, hown, hbel⟩ := hrel
      have HOWL := Lib.hid hown
      have HBEL := Lib.hid hbel
      have HBX := Lib.hid (bx_step HB0.out hbel)
      clear hown hbel
      have r0 := obj_cell (HBX.out).b_blk 0
      have r1 := obj_cell (HBX.out).b_blk 1
      have r2 := obj_cell (HBX.out).b_blk 2
      obtain ⟨g0, hg0⟩ : ∃ g0, g0 = gk := ⟨_, rfl⟩
      subst hg0
      by_cases hltk : k < nf
      · have tk : decide ((k : Int) < (nf : Int)) = true := decide_eq_true (by omega)
        obtain ⟨f, hf⟩ : ∃ f, x.fields[k]? = some f := ⟨_, List.getElem?_eq_getElem (by have := HNF.out; omega)⟩
        have HFI := Lib.hid hf
        obtain ⟨gf, of, rfl, _, hcf⟩ := fd_at HL.out hf
        have HCF := Lib.hid hcf
        clear hf hcf
        obtain ⟨d0, d1, d2, d3, d4, d5, d6⟩ := HCF.out _ HBX.out.b_bel
        have HMS := Lib.hid (members_snoc x.fields (inOne t) k f HFI.out)
        have HLN : Hid ((((x.fields.take k).filter (inOne t)).map Fd.num).length ≤ 1000) := Lib.hid (by have h1 := List.length_filter_le (inOne t) (x.fields.take k); have := H10.out; have := HNF.out; rw [List.length_take] at h1; rw [List.length_map]; omega)
        obtain ⟨so1, hso1⟩ : ∃ sv, sv = strOf f.one := ⟨_, rfl⟩
        have HSO := Lib.hid hso1
        rw [← hso1] at d6
        clear hso1 d0 d2 d3 d4 d5
        by_cases hone : f.one = t
        · obtain rfl : so1 = st := by rw [HSO.out, HST.out, hone]
          have HP : Hid (inOne t f = true) := Lib.hid (by unfold inOne; rw [decide_eq_false HT.out, decide_eq_true hone]; rfl)
          go_wp2_with (first
            | (at_builtin; refine wpList_append_zs rfl _ _ rfl w0.heap.size _ _ _ rfl (own_below HOWL.out ((Below.refl _ _).alloc (Nat.le_refl _) _)) _ 1 1 [f.num] rfl rfl (sl_int1 _ _ _) (by have := HLN.out; show _ + 1 ≤ 1000000; omega) (by have := HBEL.out.size; simp; omega) ?_; intro vl2 w3 ho hg; have HOL := Lib.hid ho; have HBL := Lib.hid ((HBEL.out.alloc HBEL.out.size _).grown hg (by have := HBEL.out.size; simp; omega) (fun k hk => (HOWL.out.lt k hk).1)); clear ho hg))
          go_roundg (g0 - 1)
          case measure => omega
          case rel => exact ⟨k + 1, by go_num, by omega, _, rfl, (by rw [HMS.out, HP.out, if_pos rfl, List.length_append]; exact HOL.out), HBL.out⟩
        · have e1 : ¬ so1.toList = st.toList := by rw [HSO.out, HST.out, str_list, str_list]; exact hone
          have e2 : (so1.toList == st.toList) = false := by rw [HSO.out, HST.out, strOf_beq]; exact decide_eq_false hone
          have HP : Hid (inOne t f = false) := Lib.hid (by unfold inOne; rw [decide_eq_false hone]; simp)
          clear hone
          go_wp2
          go_roundg (g0 - 1)
          case measure => omega
          case rel => exact ⟨k + 1, by go_num, by omega, _, rfl, (by rw [HMS.out, HP.out]; simpa using HOWL.out), HBEL.out⟩
      · have tk : decide ((k : Int) < (nf : Int)) = false := decide_eq_false (by omega)
        have HF : Hid (((x.fields.take k).filter (inOne t)).map Fd.num = membersT x t) := Lib.hid (by rw [List.take_of_length_le (by have := HNF.out; omega)]; rfl)
        have ho := HOWL.out
        rw [HF.out] at ho
        obtain ⟨_, Al, capl, hvl, hsl⟩ := zs_own ho
        obtain ⟨nl, hnl⟩ : ∃ nl, nl = (membersT x t).length := ⟨_, rfl⟩
        rw [← hnl] at hvl
        subst hvl
        have HSL := Lib.hid hsl
        have HNL := Lib.hid hnl
        clear ho hsl hnl
        go_wp2
        go_ret
        exact ⟨Al, capl, nl, rfl, HNL.out, lst_keep HSL.out inR_keep (fun g hg => Nat.le_trans HB0.out.b_bel.size hg.1) (fun _ _ _ => rfl), HBX.out.b_bel⟩
set_option maxHeartbeats 4000000 in
theorem rxfree_any {S T : Nat → Prop} (w : World) {A1 A2 : Option Addr} {nf ca nb cb : Nat} {x : Ms} (sn : ByteArray) (hl : Lst 7 S fdR w A1 ca x.fields) (hl2 : Lst 1 T inR w A2 cb x.barred) (hnf : nf = x.fields.length) (hnb : nb = x.barred.length) (t : Int) :
    Calls Try.prog 19 #[.agg #[.string sn, .slice A1 nf ca, .slice A2 nb cb], .int .i64 t] w fun e w' => e = .returned (.bool (freeT x t)) ∧ Below w.heap.size w w' := by
  have q1 := hl.l_le
  have q2 := hl.l_max
  have q3 := hl2.l_le
  have q4 := hl2.l_max
  rw [← hnf] at q1
  rw [← hnb] at q3
  unfold maxLen at q2 q4
  have HL := Lib.hid hl
  have HL2 := Lib.hid hl2
  have HNF := Lib.hid hnf
  have HNB := Lib.hid hnb
  have HBX := Lib.hid (bx_start w #[.string sn, .slice A1 nf ca, .slice A2 nb cb] 32)
  have HNM := Lib.hid (fun u (hb : Below w.heap.size w u) => rxnumber_any u sn (lst_keep hl fdR_keep (fun _ h => h) (bel_keep hb)) (lst_keep hl2 inR_keep (fun _ h => h) (bel_keep hb)) hnf hnb t)
  have HHS := Lib.hid (fun u (hb : Below w.heap.size w u) => rvhas_any u (lst_keep hl2 inR_keep (fun _ h => h) (bel_keep hb)) hnb t)
  have HFD := Lib.hid (fun u => rtagfield_any t u)
  have HV : Hid (freeT x t = (fieldB t && (decide (numAtT x t < 0) && !isInB x.barred t))) := Lib.hid rfl
  obtain ⟨b, hb⟩ : ∃ b, b = fieldB t := ⟨_, rfl⟩
  obtain ⟨c, hc⟩ : ∃ c, c = numAtT x t := ⟨_, rfl⟩
  obtain ⟨d, hd⟩ : ∃ d, d = isInB x.barred t := ⟨_, rfl⟩
  rw [← hb] at HFD HV
  rw [← hc] at HNM HV
  rw [← hd] at HHS HV
  clear hl hl2 hnf hnb hb hc hd
  have r0 := obj_cell (HBX.out).b_blk 0
  have r1 := obj_cell (HBX.out).b_blk 1
  have r2 := obj_cell (HBX.out).b_blk 2
  cases b with
  | false =>
    go_enter Try.func19, Try.ntmps19
    go_wp2_with (first
      | (go_at_call 37; refine (HFD.out _).mono ?_; rintro e wf ⟨rfl, rfl⟩)
      | (go_at_call 17; refine (HNM.out _ HBX.out.b_bel).mono ?_; rintro e w1 ⟨rfl, hb⟩; replace HBX := Lib.hid (bx_step HBX.out hb); clear hb; have r2 := obj_cell HBX.out.b_blk 2)
      | (go_at_call 38; refine (HHS.out _ HBX.out.b_bel).mono ?_; rintro e wf ⟨rfl, rfl⟩))
    go_ret
    exact ⟨ret_bool' (by rw [HV.out]; rfl), HBX.out.b_bel⟩
  | true =>
    by_cases hn : c < 0
    · have dc : decide (c < 0) = true := decide_eq_true hn
      rw [dc] at HV
      go_enter Try.func19, Try.ntmps19
      go_wp2_with (first
        | (go_at_call 37; refine (HFD.out _).mono ?_; rintro e wf ⟨rfl, rfl⟩)
        | (go_at_call 17; refine (HNM.out _ HBX.out.b_bel).mono ?_; rintro e w1 ⟨rfl, hb⟩; replace HBX := Lib.hid (bx_step HBX.out hb); clear hb; have r2 := obj_cell HBX.out.b_blk 2)
        | (go_at_call 38; refine (HHS.out _ HBX.out.b_bel).mono ?_; rintro e wf ⟨rfl, rfl⟩))
      go_ret
      exact ⟨ret_bool' (by rw [HV.out]; simp), HBX.out.b_bel⟩
    · have dc : decide (c < 0) = false := decide_eq_false hn
      rw [dc] at HV
      go_enter Try.func19, Try.ntmps19
      go_wp2_with (first
        | (go_at_call 37; refine (HFD.out _).mono ?_; rintro e wf ⟨rfl, rfl⟩)
        | (go_at_call 17; refine (HNM.out _ HBX.out.b_bel).mono ?_; rintro e w1 ⟨rfl, hb⟩; replace HBX := Lib.hid (bx_step HBX.out hb); clear hb; have r2 := obj_cell HBX.out.b_blk 2)
        | (go_at_call 38; refine (HHS.out _ HBX.out.b_bel).mono ?_; rintro e wf ⟨rfl, rfl⟩))
      go_ret
      exact ⟨ret_bool' (by rw [HV.out]; simp), HBX.out.b_bel⟩
end Go.Proofs.Ytmajhjkibmbikaa

/- The document's layer 15: how often a message is named. Conditions: those that each theorem names. -/
namespace Go.Proofs.Ytmajhjkibmbikaa
open Go.RowKit
set_option linter.unusedVariables false
set_option maxRecDepth 100000

set_option maxHeartbeats 8000000 in
theorem rxuses_any {S : Nat → Nat → Prop} (w : World) {A A2 : Option Addr} {n cap n2 cap2 : Nat} {s : Sc} (h : ScAt S w A n cap A2 n2 cap2 s) (t : List UInt8) (hsm : smallT s = true) :
    Calls Try.prog 13 #[.agg #[.slice A n cap, .slice A2 n2 cap2], .string (strOf t)] w fun e w' => e = .returned (.int .i64 (usesT s t : Int)) ∧ Below w.heap.size w w' := by
  obtain ⟨m1, m2, m3, m4⟩ := scAt_max h
  have H := Lib.hid h
  have HBX := Lib.hid (bx_start w #[.slice A n cap, .slice A2 n2 cap2] 25)
  have HLEN := Lib.hid (small_fields hsm)
  obtain ⟨st, hst⟩ : ∃ st, st = strOf t := ⟨_, rfl⟩
  have HST := Lib.hid hst
  rw [← hst]
  clear h hsm hst
  have r0 := obj_cell (HBX.out).b_blk 0
  have r1 := obj_cell (HBX.out).b_blk 1
  go_enter Try.func13, Try.ntmps13
  go_wp2
  clear r0 r1
  go_loopg [5, 6] n2 (fun gz x0 x1 wr => ∃ i : Nat, x1 = .int .i64 (i : Int) ∧ i + gz = n2 ∧ x0 = .int .i64 ((((s.msgs.take i).flatMap Ms.fields).countP (useB t) : Nat) : Int) ∧ Bx w wr (.cells #[.slice A n cap, .slice A2 n2 cap2] 25 (0, 0)))
  case atStart => exact ⟨0, rfl, by omega, rfl, HBX.out⟩
  case round =>
    obtain ⟨i, rfl, hi, rfl, hbx⟩ := hrel
    have HBX := Lib.hid hbx
    clear hbx
    have r0 := obj_cell (HBX.out).b_blk 0
    have r1 := obj_cell (HBX.out).b_blk 1
    obtain ⟨g0, hg0⟩ : ∃ g0, g0 = gk := ⟨_, rfl⟩
    subst hg0
    by_cases hlti : i < n2
    · have ti : decide ((i : Int) < (n2 : Int)) = true := decide_eq_true (by omega)
      obtain ⟨x, hx⟩ : ∃ x, s.msgs[i]? = some x := ⟨_, List.getElem?_eq_getElem (by have := H.out.s_nm; omega)⟩
      have HXI := Lib.hid hx
      obtain ⟨ge, oe, A1, cap1, A3, cap3, rfl, _, hc, hl, hl2⟩ := ms_at H.out.s_m hx
      have q1 := hl.l_le
      have q2 := hl.l_max
      have q3 := hl2.l_le
      have q4 := hl2.l_max
      unfold maxLen at q2 q4
      have HL := Lib.hid hl
      have HL2 := Lib.hid hl2
      obtain ⟨nf, hnf⟩ : ∃ nf, nf = x.fields.length := ⟨_, rfl⟩
      obtain ⟨nb, hnb⟩ : ∃ nb, nb = x.barred.length := ⟨_, rfl⟩
      have HNF := Lib.hid hnf
      have HNB := Lib.hid hnb
      rw [← hnf] at hc q1
      rw [← hnb] at hc q3
      obtain ⟨sn, hsn⟩ : ∃ sn, sn = strOf x.name := ⟨_, rfl⟩
      have HSN := Lib.hid hsn
      rw [← hsn] at hc
      have HC := Lib.hid hc
      clear hx hl hl2 hnf hnb hsn hc
      obtain ⟨c0, c1, c2⟩ := HC.out _ HBX.out.b_bel
      go_wp2
      clear c0 c1 c2
      clear r0 r1
      go_loopg [5, 7] nf (fun gz x0 x1 wr => ∃ k : Nat, x1 = .int .i64 (k : Int) ∧ k + gz = nf ∧ x0 = .int .i64 ((((s.msgs.take i).flatMap Ms.fields ++ x.fields.take k).countP (useB t) : Nat) : Int) ∧ Bx w wr (.cells #[.slice A n cap, .slice (some ⟨ge, oe, none⟩) n2 cap2] 25 (0, 0)))
      case atStart => exact ⟨0, rfl, by omega, (by rw [List.take_zero, List.append_nil]), HBX.out⟩
      case round =>
        obtain ⟨k, rfl, hk, rfl, hbx⟩ := hrel
        have HBX := Lib.hid hbx
        clear hbx
        have r0 := obj_cell (HBX.out).b_blk 0
        have r1 := obj_cell (HBX.out).b_blk 1
        obtain ⟨g1, hg1⟩ : ∃ g1, g1 = gk := ⟨_, rfl⟩
        subst hg1
        by_cases hltk : k < nf
        · have tk : decide ((k : Int) < (nf : Int)) = true := decide_eq_true (by omega)
          obtain ⟨f, hf⟩ : ∃ f, x.fields[k]? = some f := ⟨_, List.getElem?_eq_getElem (by have := HNF.out; omega)⟩
          have HFI := Lib.hid hf
          obtain ⟨gf, of, rfl, _, hcf⟩ := fd_at HL.out hf
          have HCF := Lib.hid hcf
          clear hf hcf
          obtain ⟨c0, c1, c2⟩ := HC.out _ HBX.out.b_bel
          obtain ⟨d0, d1, d2, d3, d4, d5, d6⟩ := HCF.out _ HBX.out.b_bel
          have HSP := Lib.hid (fields_split HXI.out HFI.out)
          have HTK := Lib.hid (split_take HFI.out)
          obtain ⟨N, hN⟩ : ∃ N, N = ((s.msgs.take i).flatMap Ms.fields ++ x.fields.take k).countP (useB t) := ⟨_, rfl⟩
          have hN2 : N < 200 := by have := HLEN.out; rw [HSP.out, List.length_append] at this; have := List.countP_le_length (p := useB t) (l := (s.msgs.take i).flatMap Ms.fields ++ x.fields.take k); omega
          have HN := Lib.hid hN
          rw [← hN]
          have HSN1 : Hid (((s.msgs.take i).flatMap Ms.fields ++ x.fields.take (k + 1)).countP (useB t) = N + (if useB t f = true then 1 else 0)) := Lib.hid (by rw [HTK.out, ← List.append_assoc, List.countP_append, HN.out, List.countP_cons, List.countP_nil]; simp)
          obtain ⟨p, hp⟩ : ∃ p, p = useB t f := ⟨_, rfl⟩
          rw [← hp] at HSN1
          unfold useB at hp
          have gw : IntKind.i64.wrap ((N : Int) + 1) = (N : Int) + 1 := IntWalk.i64_in _ (by omega)
          obtain ⟨name, num, ty, ref, rep, loose, one⟩ := f
          dsimp only at hp d0 d1 d2 d3 d4 d5 d6
          obtain ⟨sn1, hsn1⟩ : ∃ z, z = strOf name := ⟨_, rfl⟩
          obtain ⟨sr1, hsr1⟩ : ∃ z, z = strOf ref := ⟨_, rfl⟩
          obtain ⟨so1, hso1⟩ : ∃ z, z = strOf one := ⟨_, rfl⟩
          rw [← hsn1] at d0
          rw [← hsr1] at d3
          rw [← hso1] at d6
          have hs1 : (sr1.toList == st.toList) = decide (ref = t) := by rw [hsr1, HST.out, strOf_beq]
          have hs2 : sr1.toList = st.toList ↔ ref = t := by rw [hsr1, HST.out, str_list, str_list]
          clear hsn1 hsr1 hso1 hN
          have HBA : Hid (Bx w (wr.alloc (.cells #[.string sn1, .int .i64 num, .int .i64 ty, .string sr1, .bool rep, .bool loose, .string so1] 47)) (.cells #[.slice A n cap, .slice (some ⟨ge, oe, none⟩) n2 cap2] 25 (0, 0))) := Lib.hid (bx_step HBX.out ((Below.refl _ wr).alloc (Nat.le_refl _) _))
          have a0 := obj_cell HBA.out.b_blk 0
          have a1 := obj_cell HBA.out.b_blk 1
          have HFX : Hid ((wr.alloc (.cells #[.string sn1, .int .i64 num, .int .i64 ty, .string sr1, .bool rep, .bool loose, .string so1] 47)).heap[wr.heap.size]? = some (.cells #[.string sn1, .int .i64 num, .int .i64 ty, .string sr1, .bool rep, .bool loose, .string so1] 47 (0, 0))) := Lib.hid (heap_alloc_new wr _)
          have f2 := obj_cell HFX.out 2
          have f3 := obj_cell HFX.out 3
          by_cases h15 : ty = 15
          · subst h15
            by_cases hrf : ref = t
            · have e1 : (sr1.toList == st.toList) = true := by rw [hs1]; exact decide_eq_true hrf
              have e2 : sr1.toList = st.toList := hs2.2 hrf
              replace hp : p = true := by rw [hp]; simp [*]
              rw [hp] at HSN1
              clear hs1 hs2
              go_wp2
              go_roundg (g1 - 1)
              case measure => omega
              case rel => exact ⟨k + 1, by go_num, by omega, (by rw [HSN1.out]; simp), HBA.out⟩
            · have e1 : (sr1.toList == st.toList) = false := by rw [hs1]; exact decide_eq_false hrf
              have e2 : ¬ sr1.toList = st.toList := fun e => hrf (hs2.1 e)
              replace hp : p = false := by rw [hp]; simp [*]
              rw [hp] at HSN1
              clear hs1 hs2
              go_wp2
              go_roundg (g1 - 1)
              case measure => omega
              case rel => exact ⟨k + 1, by go_num, by omega, (by rw [HSN1.out]; simp), HBA.out⟩
          · have e1 : (ty == 15) = false := beq_false_of_ne h15
            replace hp : p = false := by rw [hp]; simp [*]
            rw [hp] at HSN1
            clear hs1 hs2
            go_wp2
            go_roundg (g1 - 1)
            case measure => omega
            case rel => exact ⟨k + 1, by go_num, by omega, (by rw [HSN1.out]; simp), HBA.out⟩
        · have tk : decide ((k : Int) < (nf : Int)) = false := decide_eq_false (by omega)
          obtain ⟨c0, c1, c2⟩ := HC.out _ HBX.out.b_bel
          have HTW : Hid (x.fields.take k = x.fields) := Lib.hid (List.take_of_length_le (by have := HNF.out; omega))
          go_wp2
          go_roundg (g0 - 1)
          case measure => omega
          case rel => exact ⟨i + 1, by go_num, by omega, (by rw [flat_snoc _ _ _ _ HXI.out, HTW.out]), HBX.out⟩
    · have ti : decide ((i : Int) < (n2 : Int)) = false := decide_eq_false (by omega)
      have HO : Hid (((s.msgs.take i).flatMap Ms.fields).countP (useB t) = usesT s t) := Lib.hid (by rw [List.take_of_length_le (by have := H.out.s_nm; omega)]; rfl)
      rw [HO.out]
      go_wp2
      go_ret
      exact ⟨rfl, HBX.out.b_bel⟩
end Go.Proofs.Ytmajhjkibmbikaa

/- What is asked of the program's layer 16 but Kin, and the walk of FindPlaces. Conditions: those that each theorem names. -/
namespace Go.Proofs.Ytmajhjkibmbikaa
open Go.RowKit
set_option linter.unusedVariables false
set_option maxRecDepth 100000

/-- What is asked; the page's example ('live') among it. -/
structure FindOk (E : World → Prop) : Prop where
  feride : ∀ w w', E w → Below w.heap.size w w' → E w'
  flive : ∀ w, E w → Calls Try.prog 7 #[] w fun e w' => e = .returned (.bool true) ∧ Below w.heap.size w w'
  fmsg : ∀ (S : Nat → Nat → Prop) w A n cap A2 n2 cap2 s (t : List UInt8), E w → ScAt S w A n cap A2 n2 cap2 s → ScOk s → smallT s = true → t.length ≤ lenM → Calls Try.prog 8 #[.agg #[.slice A n cap, .slice A2 n2 cap2], .string (strOf t)] w fun e w' => e = .returned (.int .i64 (messageT s t)) ∧ Below w.heap.size w w'
  fenum : ∀ (S : Nat → Nat → Prop) w A n cap A2 n2 cap2 s (t : List UInt8), E w → ScAt S w A n cap A2 n2 cap2 s → ScOk s → smallT s = true → t.length ≤ lenM → Calls Try.prog 10 #[.agg #[.slice A n cap, .slice A2 n2 cap2], .string (strOf t)] w fun e w' => e = .returned (.int .i64 (enumT s t)) ∧ Below w.heap.size w w'
  fuses : ∀ (S : Nat → Nat → Prop) w A n cap A2 n2 cap2 s (t : List UInt8), E w → ScAt S w A n cap A2 n2 cap2 s → ScOk s → smallT s = true → t.length ≤ lenM → Calls Try.prog 12 #[.agg #[.slice A n cap, .slice A2 n2 cap2], .string (strOf t)] w fun e w' => e = .returned (.int .i64 (usesT s t : Int)) ∧ Below w.heap.size w w'
  ffield : ∀ (S T : Nat → Prop) w A1 nf ca A2 nb cb (x : Ms) (t : List UInt8), E w → Lst 7 S fdR w A1 ca x.fields → Lst 1 T inR w A2 cb x.barred → nf = x.fields.length → nb = x.barred.length → MsOk x → nf ≤ 200 → t.length ≤ lenM → Calls Try.prog 14 #[.agg #[.string (strOf x.name), .slice A1 nf ca, .slice A2 nb cb], .string (strOf t)] w fun e w' => e = .returned (.int .i64 (fieldAtT x t)) ∧ Below w.heap.size w w'
  fnumb : ∀ (S T : Nat → Prop) w A1 nf ca A2 nb cb (x : Ms) (t : Int), E w → Lst 7 S fdR w A1 ca x.fields → Lst 1 T inR w A2 cb x.barred → nf = x.fields.length → nb = x.barred.length → MsOk x → nf ≤ 200 → Int64 t → Calls Try.prog 16 #[.agg #[.string (strOf x.name), .slice A1 nf ca, .slice A2 nb cb], .int .i64 t] w fun e w' => e = .returned (.int .i64 (numAtT x t)) ∧ Below w.heap.size w w'
  ffree : ∀ (S T : Nat → Prop) w A1 nf ca A2 nb cb (x : Ms) (t : Int), E w → Lst 7 S fdR w A1 ca x.fields → Lst 1 T inR w A2 cb x.barred → nf = x.fields.length → nb = x.barred.length → MsOk x → nf ≤ 200 → Int64 t → Calls Try.prog 18 #[.agg #[.string (strOf x.name), .slice A1 nf ca, .slice A2 nb cb], .int .i64 t] w fun e w' => e = .returned (.bool (freeT x t)) ∧ Below w.heap.size w w'
  fmems : ∀ (S T : Nat → Prop) w A1 nf ca A2 nb cb (x : Ms) (t : List UInt8), E w → Lst 7 S fdR w A1 ca x.fields → Lst 1 T inR w A2 cb x.barred → nf = x.fields.length → nb = x.barred.length → MsOk x → nf ≤ 200 → t.length ≤ lenM → Calls Try.prog 21 #[.agg #[.string (strOf x.name), .slice A1 nf ca, .slice A2 nb cb], .string (strOf t)] w fun e w' => ∃ (R : Nat → Prop) (A : Option Addr) (cap n : Nat), e = .returned (.slice A n cap) ∧ n = (membersT x t).length ∧ Lst 1 R inR w' A cap (membersT x t) ∧ Below w.heap.size w w'

set_option maxHeartbeats 16000000 in
theorem findplaces_walk {E : World → Prop} (ok : FindOk E) (w : World) (env : E w) {S : Nat → Nat → Prop} {A A2 : Option Addr} {n cap n2 cap2 : Nat} {s : Sc} (h : ScAt S w A n cap A2 n2 cap2 s) (hok : ScOk s) (t : List UInt8) (ht : t.length ≤ 140737488351232) (m : Int) (hm : -9223372036854775808 ≤ m ∧ m < 9223372036854775808) :
    Calls Try.prog 3 #[.agg #[.slice A n cap, .slice A2 n2 cap2], .string (strOf t), .int .i64 m] w fun e w' => e = .returned (.bool true) ∧ Below w.heap.size w w' := by
  obtain ⟨m1, m2, m3, m4⟩ := scAt_max h
  have H := Lib.hid h
  have HLV := Lib.hid (fun u (hb : Below w.heap.size w u) => ok.flive u (ok.feride _ _ env hb))
  have HSM := Lib.hid (fun u (hb : Below w.heap.size w u) => rvsmall_any u (scAt_bel h hb) hok)
  have HBX := Lib.hid (bx_start w #[.slice A n cap, .slice A2 n2 cap2] 25)
  have HK : Hid (∀ w', Bx w w' (.cells #[.slice A n cap, .slice A2 n2 cap2] 25 (0, 0)) → w'.cell? ⟨w.heap.size, 0, none⟩ = some (.slice A n cap) ∧ w'.cell? ⟨w.heap.size, 1, none⟩ = some (.slice A2 n2 cap2)) := Lib.hid (fun w' hb => ⟨obj_cell hb.b_blk 0, obj_cell hb.b_blk 1⟩)
  have r0 := obj_cell HBX.out.b_blk 0
  have r1 := obj_cell HBX.out.b_blk 1
  cases hs : smallT s with
  | false =>
    rw [hs] at HSM
    obtain ⟨st, hst⟩ : ∃ st, st = strOf t := ⟨_, rfl⟩
    rw [← hst]
    clear ok env h hok hs HK hst
    go_enter Try.func3, Try.ntmps3
    go_wp2_with (first
      | (go_at_call 6; refine (HSM.out _ HBX.out.b_bel).mono ?_; rintro e w1 ⟨rfl, hb⟩; replace HBX := Lib.hid (bx_step HBX.out hb); clear hb)
      | (go_at_call 7; refine (HLV.out _ HBX.out.b_bel).mono ?_; rintro e w4 ⟨rfl, hb⟩; replace HBX := Lib.hid (bx_step HBX.out hb); clear hb))
    go_ret
    exact ⟨rfl, HBX.out.b_bel⟩
  | true =>
    have H1 := Lib.hid (fun u (hb : Below w.heap.size w u) => ok.fmsg _ u _ _ _ _ _ _ _ t (ok.feride _ _ env hb) (scAt_bel h hb) hok hs ht)
    have H2 := Lib.hid (fun u (hb : Below w.heap.size w u) => rvmessage_any u (scAt_bel h hb) t)
    have H3 := Lib.hid (fun u (hb : Below w.heap.size w u) => ok.fenum _ u _ _ _ _ _ _ _ t (ok.feride _ _ env hb) (scAt_bel h hb) hok hs ht)
    have H4 := Lib.hid (fun u (hb : Below w.heap.size w u) => rvenum_any u (scAt_bel h hb) t)
    have H5 := Lib.hid (fun u (hb : Below w.heap.size w u) => ok.fuses _ u _ _ _ _ _ _ _ t (ok.feride _ _ env hb) (scAt_bel h hb) hok hs ht)
    have H6 := Lib.hid (fun u (hb : Below w.heap.size w u) => rxuses_any u (scAt_bel h hb) t hs)
    have HLEN := Lib.hid (small_fields hs)
    have HOK := Lib.hid hok
    have OK := Lib.hid ok
    have ENV := Lib.hid env
    have HT := Lib.hid ht
    have HM := Lib.hid hm
    rw [hs] at HSM
    obtain ⟨st, hst⟩ : ∃ st, st = strOf t := ⟨_, rfl⟩
    have HST := Lib.hid hst
    obtain ⟨v1, hv1⟩ : ∃ v, v = messageT s t := ⟨_, rfl⟩
    obtain ⟨v2, hv2⟩ : ∃ v, v = enumT s t := ⟨_, rfl⟩
    obtain ⟨v3, hv3⟩ : ∃ v : Int, v = (usesT s t : Int) := ⟨_, rfl⟩
    rw [← hv1, ← hst] at H1 H2
    rw [← hv2, ← hst] at H3 H4
    rw [← hv3, ← hst] at H5 H6
    rw [← hst]
    clear ok env h hok hs hst hv1 hv2 hv3 ht hm
    go_enter Try.func3, Try.ntmps3
    go_wp2_with (go_at_call 6; refine (HSM.out _ HBX.out.b_bel).mono ?_; rintro e w1 ⟨rfl, hb⟩; replace HBX := Lib.hid (bx_step (bx_step HBX.out hb) (drewN_under _ 1)); clear hb)
    go_region_held3 (fun w' => w'.cell? ⟨w.heap.size, 0, none⟩ = some (.slice A n cap) ∧ w'.cell? ⟨w.heap.size, 1, none⟩ = some (.slice A2 n2 cap2))
      (exact HK.out _ HBX.out)
      (first
        | (go_at_call 8; refine (H1.out _ HBX.out.b_bel).mono ?_; rintro e w2 ⟨rfl, hb⟩; replace HBX := Lib.hid (bx_step HBX.out hb); clear hb)
        | (go_at_call 9; refine (H2.out _ HBX.out.b_bel).mono ?_; rintro e w2 ⟨rfl, hb⟩; replace HBX := Lib.hid (bx_step HBX.out hb); clear hb)
        | (go_at_call 10; refine (H3.out _ HBX.out.b_bel).mono ?_; rintro e w2 ⟨rfl, hb⟩; replace HBX := Lib.hid (bx_step HBX.out hb); clear hb)
        | (go_at_call 11; refine (H4.out _ HBX.out.b_bel).mono ?_; rintro e w2 ⟨rfl, hb⟩; replace HBX := Lib.hid (bx_step HBX.out hb); clear hb)
        | (go_at_call 12; refine (H5.out _ HBX.out.b_bel).mono ?_; rintro e w2 ⟨rfl, hb⟩; replace HBX := Lib.hid (bx_step HBX.out hb); clear hb)
        | (go_at_call 13; refine (H6.out _ HBX.out.b_bel).mono ?_; rintro e w2 ⟨rfl, hb⟩; replace HBX := Lib.hid (bx_step HBX.out hb); clear hb))
    go_wp2
    go_loopg [7] n2 (fun gz x0 wr => ∃ i : Nat, x0 = .int .i64 (i : Int) ∧ i + gz = n2 ∧ Bx w wr (.cells #[.slice A n cap, .slice A2 n2 cap2] 25 (0, 0)))
    case atStart => exact ⟨0, rfl, by omega, HBX.out⟩
    case round =>
      obtain ⟨i, rfl, hi, hbx⟩ := hrel
      have HBX := Lib.hid hbx
      clear hbx
      have r0 := obj_cell HBX.out.b_blk 0
      have r1 := obj_cell HBX.out.b_blk 1
      obtain ⟨g0, hg0⟩ : ∃ g0, g0 = gk := ⟨_, rfl⟩
      subst hg0
      by_cases hlti : i < n2
      · have ti : decide ((i : Int) < (n2 : Int)) = true := decide_eq_true (by omega)
        obtain ⟨x, hx⟩ : ∃ x, s.msgs[i]? = some x := ⟨_, List.getElem?_eq_getElem (by have := H.out.s_nm; omega)⟩
        have hxm := List.mem_of_getElem? hx
        have hxo := HOK.out.2.2.2 x hxm
        have hn2 : x.fields.length ≤ 200 := by have h1 := mem_fields_len hxm; have := HLEN.out; omega
        obtain ⟨ge, oe, A1, cap1, A3, cap3, rfl, _, hc, hl, hl2⟩ := ms_at H.out.s_m hx
        obtain ⟨nf, hnf⟩ : ∃ nf, nf = x.fields.length := ⟨_, rfl⟩
        obtain ⟨nb, hnb⟩ : ∃ nb, nb = x.barred.length := ⟨_, rfl⟩
        rw [← hnf, ← hnb] at hc
        have kf := fun u (hb : Below w.heap.size w u) => lst_keep (S' := S 1) hl fdR_keep (fun _ h => h) (bel_keep hb)
        have kb := fun u (hb : Below w.heap.size w u) => lst_keep (S' := S 2) hl2 inR_keep (fun _ h => h) (bel_keep hb)
        have J1 := Lib.hid (fun u (hb : Below w.heap.size w u) => OK.out.ffield _ _ u _ _ _ _ _ _ x t (OK.out.feride _ _ ENV.out hb) (kf u hb) (kb u hb) hnf hnb hxo (by omega) HT.out)
        have J2 := Lib.hid (fun u (hb : Below w.heap.size w u) => rxfield_any u (strOf x.name) (kf u hb) (kb u hb) hnf hnb t)
        have J3 := Lib.hid (fun u (hb : Below w.heap.size w u) => OK.out.fnumb _ _ u _ _ _ _ _ _ x m (OK.out.feride _ _ ENV.out hb) (kf u hb) (kb u hb) hnf hnb hxo (by omega) HM.out)
        have J4 := Lib.hid (fun u (hb : Below w.heap.size w u) => rxnumber_any u (strOf x.name) (kf u hb) (kb u hb) hnf hnb m)
        have J5 := Lib.hid (fun u (hb : Below w.heap.size w u) => OK.out.ffree _ _ u _ _ _ _ _ _ x m (OK.out.feride _ _ ENV.out hb) (kf u hb) (kb u hb) hnf hnb hxo (by omega) HM.out)
        have J6 := Lib.hid (fun u (hb : Below w.heap.size w u) => rxfree_any u (strOf x.name) (kf u hb) (kb u hb) hnf hnb m)
        have J7 := Lib.hid (fun u (hb : Below w.heap.size w u) => OK.out.fmems _ _ u _ _ _ _ _ _ x t (OK.out.feride _ _ ENV.out hb) (kf u hb) (kb u hb) hnf hnb hxo (by omega) HT.out)
        have J8 := Lib.hid (fun u (hb : Below w.heap.size w u) => rxmembers_any u (strOf x.name) (kf u hb) (kb u hb) hnf hnb t (by omega))
        obtain ⟨sn, hsn⟩ : ∃ sn, sn = strOf x.name := ⟨_, rfl⟩
        rw [← hsn] at hc
        obtain ⟨c0, c1, c2⟩ := hc _ HBX.out.b_bel
        obtain ⟨v1, hv1⟩ : ∃ v, v = fieldAtT x t := ⟨_, rfl⟩
        obtain ⟨v2, hv2⟩ : ∃ v, v = numAtT x m := ⟨_, rfl⟩
        obtain ⟨v3, hv3⟩ : ∃ v, v = freeT x m := ⟨_, rfl⟩
        rw [← hv1, ← hsn, ← HST.out] at J1 J2
        rw [← hv2, ← hsn] at J3 J4
        rw [← hv3, ← hsn] at J5 J6
        rw [← hsn, ← HST.out] at J7 J8
        have HBA : Hid (Bx w (wr.alloc (.cells #[.string sn, .slice A1 nf cap1, .slice A3 nb cap3] 32)) (.cells #[.slice A n cap, .slice (some ⟨ge, oe, none⟩) n2 cap2] 25 (0, 0))) := Lib.hid (bx_step HBX.out ((Below.refl _ wr).alloc (Nat.le_refl _) _))
        have HMX : Hid (Bx wr (wr.alloc (.cells #[.string sn, .slice A1 nf cap1, .slice A3 nb cap3] 32)) (.cells #[.string sn, .slice A1 nf cap1, .slice A3 nb cap3] 32 (0, 0))) := Lib.hid (bx_start wr _ _)
        have HMK : Hid (∀ w', Bx wr w' (.cells #[.string sn, .slice A1 nf cap1, .slice A3 nb cap3] 32 (0, 0)) → w'.cell? ⟨wr.heap.size, 0, none⟩ = some (.string sn) ∧ w'.cell? ⟨wr.heap.size, 1, none⟩ = some (.slice A1 nf cap1) ∧ w'.cell? ⟨wr.heap.size, 2, none⟩ = some (.slice A3 nb cap3)) := Lib.hid (fun w' hb => ⟨obj_cell hb.b_blk 0, obj_cell hb.b_blk 1, obj_cell hb.b_blk 2⟩)
        replace HMX := Lib.hid (bx_step HMX.out (drewN_under _ 1))
        have HBW := Lib.hid HBX.out.b_bel
        clear hx hxm hxo hn2 hc hl hl2 hnf hnb kf kb hsn hv1 hv2 hv3 HBA
        go_wp2
        go_region_held3 (fun w' => w'.cell? ⟨wr.heap.size, 0, none⟩ = some (.string sn) ∧ w'.cell? ⟨wr.heap.size, 1, none⟩ = some (.slice A1 nf cap1) ∧ w'.cell? ⟨wr.heap.size, 2, none⟩ = some (.slice A3 nb cap3))
          (exact HMK.out _ HMX.out)
          (first
            | (go_at_call 14; refine (J1.out _ (HBW.out.trans (HMX.out.b_bel.mono HBW.out.size))).mono ?_; rintro e w2 ⟨rfl, hb⟩; replace HMX := Lib.hid (bx_step HMX.out hb); clear hb)
            | (go_at_call 15; refine (J2.out _ (HBW.out.trans (HMX.out.b_bel.mono HBW.out.size))).mono ?_; rintro e w2 ⟨rfl, hb⟩; replace HMX := Lib.hid (bx_step HMX.out hb); clear hb)
            | (go_at_call 16; refine (J3.out _ (HBW.out.trans (HMX.out.b_bel.mono HBW.out.size))).mono ?_; rintro e w2 ⟨rfl, hb⟩; replace HMX := Lib.hid (bx_step HMX.out hb); clear hb)
            | (go_at_call 17; refine (J4.out _ (HBW.out.trans (HMX.out.b_bel.mono HBW.out.size))).mono ?_; rintro e w2 ⟨rfl, hb⟩; replace HMX := Lib.hid (bx_step HMX.out hb); clear hb)
            | (go_at_call 18; refine (J5.out _ (HBW.out.trans (HMX.out.b_bel.mono HBW.out.size))).mono ?_; rintro e w2 ⟨rfl, hb⟩; replace HMX := Lib.hid (bx_step HMX.out hb); clear hb)
            | (go_at_call 19; refine (J6.out _ (HBW.out.trans (HMX.out.b_bel.mono HBW.out.size))).mono ?_; rintro e w2 ⟨rfl, hb⟩; replace HMX := Lib.hid (bx_step HMX.out hb); clear hb))
        replace HMX := Lib.hid (bx_step HMX.out (drewN_under _ 1))
        go_wp2
        go_region_held3 (fun w' => w'.cell? ⟨wr.heap.size, 0, none⟩ = some (.string sn) ∧ w'.cell? ⟨wr.heap.size, 1, none⟩ = some (.slice A1 nf cap1) ∧ w'.cell? ⟨wr.heap.size, 2, none⟩ = some (.slice A3 nb cap3))
          (exact HMK.out _ HMX.out)
          (first
            | (go_at_call 21; refine (J7.out _ (HBW.out.trans (HMX.out.b_bel.mono HBW.out.size))).mono ?_; rintro e w5 ⟨R5, A5, c5, n5, rfl, hn5, hl5, hb⟩; have HL5 := Lib.hid hl5; have HN5 := Lib.hid hn5; replace HMX := Lib.hid (bx_step HMX.out hb); clear hb hl5 hn5)
            | (go_at_call 22; refine (J8.out _ (HBW.out.trans (HMX.out.b_bel.mono HBW.out.size))).mono ?_; rintro e w6 ⟨A6, c6, n6, rfl, hn6, hl6, hb⟩; have HI := Lib.hid (vints_any w6 (lst_keep (S' := R5) HL5.out inR_keep (fun _ h => h) (bel_keep hb)) hl6 HN5.out hn6); rw [decide_eq_true rfl] at HI; replace HMX := Lib.hid (bx_step HMX.out hb); clear hb hl6 hn6)
            | (go_at_call 20; refine (HI.out).mono ?_; rintro e w7 ⟨rfl, kq, rfl⟩; replace HMX := Lib.hid (bx_step HMX.out (drewN_under _ kq))))
        go_wp2
        go_roundg (g0 - 1)
        case measure => omega
        case rel => exact ⟨i + 1, by go_num, by omega, bx_step HBX.out HMX.out.b_bel⟩
      · have ti : decide ((i : Int) < (n2 : Int)) = false := decide_eq_false (by omega)
        go_wp2_with (go_at_call 7; refine (HLV.out _ HBX.out.b_bel).mono ?_; rintro e w4 ⟨rfl, hb⟩; replace HBX := Lib.hid (bx_step HBX.out hb); clear hb)
        go_ret
        exact ⟨rfl, HBX.out.b_bel⟩
end Go.Proofs.Ytmajhjkibmbikaa
