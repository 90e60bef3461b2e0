/- Several texts in one: RtA, RtB. What each proves, and its conditions, stands at its own head. -/
import Derived.Test.YtakdkocobcicdaaPkTL15
import Derived.Test.YtakdkocobcicdaaPkTL11
import Derived.Test.YtakdkocobcicdaaPkTL8
import Derived.Deep.RegionHeld3
/- The document's layer 19: which trees are the same. Conditions: those that each theorem names. -/
namespace Go.Proofs.Ytakdkocobcicdaa
open Go.RowKit
set_option linter.unusedVariables false
set_option maxRecDepth 100000

/-- The bool says p. -/
def Tells (r : Bool) (p : Prop) : Prop := r = true ↔ p
theorem tells_yes {p : Prop} (h : p) : Tells true p := ⟨fun _ => h, fun _ => rfl⟩
theorem tells_no {p : Prop} (h : ¬ p) : Tells false p := ⟨(fun e => by cases e), fun e => absurd e h⟩
theorem tells_is {p : Prop} (h : Tells true p) : p := h.1 rfl
theorem tells_not {p : Prop} (h : Tells false p) : ¬ p := fun e => by have := h.2 e; cases this
/-- A bool that says p; nothing that was there has changed. -/
def SmTo (w : World) (p : Prop) (e : Ending) (w' : World) : Prop := ∃ r : Bool, e = .returned (.bool r) ∧ Tells r p ∧ Below w.heap.size w w'
def SameOk (n : Nat) : Prop := ∀ (S S' : Nat → Prop) (m : Nat) (w : World) (A : Option Addr) (na ca : Nat) (A2 : Option Addr) (nr cr : Nat) (B : Option Addr) (nb cb : Nat) (B2 : Option Addr) (ns cs : Nat) (x y : Tr),
  TrAt S n w A na ca A2 nr cr x → TrAt S' m w B nb cb B2 ns cs y → Calls Try.prog 10 #[.agg #[.slice A na ca, .slice A2 nr cr], .agg #[.slice B nb cb, .slice B2 ns cs]] w (SmTo w (x = y))
theorem bel_more {a b c : World} (h : Below a.heap.size a b) (k : Below b.heap.size b c) : Below a.heap.size a c := h.trans (k.mono h.size)
theorem strs_same {a b : List UInt8} : ((strOf a).toList == (strOf b).toList) = decide (a = b) := strOf_beq a b

set_option maxHeartbeats 8000000 in
theorem rsvals_any {S S' : Nat → Prop} {n m : Nat} (H : ∀ k, n = k + 1 → SameOk k) (w : World) {A B : Option Addr} {na ca nb cb : Nat} {l k : List Va} (h : VsAt S n w A ca l) (h' : VsAt S' m w B cb k) (hna : na = l.length) (hnb : nb = k.length) :
    Calls Try.prog 16 #[.slice A na ca, .slice B nb cb] w (SmTo w (l = k)) := by
  have q1 := h.l_le
  have q2 := h.l_max
  have q3 := h'.l_le
  have q4 := h'.l_max
  rw [← hna] at q1
  rw [← hnb] at q3
  unfold maxLen at q2 q4
  have HA := Lib.hid h
  have HB := Lib.hid h'
  have HN := Lib.hid hna
  have HM := Lib.hid hnb
  have HS := Lib.hid H
  clear h h' H
  by_cases hl : na = nb
  · subst hl
    clear hna hnb
    go_enter Try.func16, Try.ntmps16
    go_wp2
    go_loopg [5] na (fun gz x0 wr => ∃ i : Nat, x0 = .int .i64 (i : Int) ∧ i + gz = na ∧ (∀ (j : Nat) x y, j < i → l[j]? = some x → k[j]? = some y → x = y) ∧ Below w.heap.size w wr)
    case atStart => exact ⟨0, rfl, by omega, fun j x y hj => absurd hj (Nat.not_lt_zero _), Below.refl _ _⟩
    case round =>
      obtain ⟨i, rfl, hi, hall, hbel⟩ := hrel
      have HALL := Lib.hid hall
      have HBE := Lib.hid hbel
      clear hall hbel
      obtain ⟨g0, hg0⟩ : ∃ g0, g0 = gk := ⟨_, rfl⟩
      subst hg0
      by_cases hlti : i < na
      · have ti : decide ((i : Int) < (na : Int)) = true := decide_eq_true (by omega)
        obtain ⟨x, hx⟩ : ∃ x, l[i]? = some x := ⟨_, List.getElem?_eq_getElem (by have := HN.out; omega)⟩
        obtain ⟨y, hy⟩ : ∃ y, k[i]? = some y := ⟨_, List.getElem?_eq_getElem (by have := HM.out; omega)⟩
        have HXI := Lib.hid hx
        have HYI := Lib.hid hy
        obtain ⟨gx, ox, A1, c1, rfl, _, hcx, hkx⟩ := va_at HA.out hx
        obtain ⟨gy, oy, B1, d1, rfl, _, hcy, hky⟩ := va_at HB.out hy
        clear hx hy
        have HKX := Lib.hid hkx
        have HKY := Lib.hid hky
        have z1 := hkx.l_le
        have z2 := hkx.l_max
        have z3 := hky.l_le
        have z4 := hky.l_max
        unfold maxLen at z2 z4
        clear hkx hky
        obtain ⟨nx, sx, mx⟩ := x
        obtain ⟨ny, sy, my⟩ := y
        dsimp only at hcx hcy z1 z3
        obtain ⟨lx, hlx⟩ : ∃ z, z = mx.length := ⟨_, rfl⟩
        obtain ⟨ly, hly⟩ : ∃ z, z = my.length := ⟨_, rfl⟩
        rw [← hlx] at hcx z1
        rw [← hly] at hcy z3
        have HLX := Lib.hid hlx
        have HLY := Lib.hid hly
        clear hlx hly
        by_cases e1 : nx = ny
        · subst e1
          by_cases e2 : sx = sy
          · subst e2
            obtain ⟨st, hst⟩ : ∃ z, z = strOf sx := ⟨_, rfl⟩
            rw [← hst] at hcx hcy
            clear hst
            have HCX := Lib.hid hcx
            have HCY := Lib.hid hcy
            clear hcx hcy
            by_cases e3 : lx = ly
            · subst e3
              obtain ⟨c0, c1', c2⟩ := HCX.out _ (stay_bel HBE.out)
              obtain ⟨d0, d1', d2⟩ := HCY.out _ (stay_bel HBE.out)
              go_wp2
              go_quiet (fail)
              go_wp2
              clear c0 c1' c2 d0 d1' d2
              have HBQ := Lib.hid (bel_more HBE.out (drewN_under wr nq))
              go_loopg [6] lx (fun gz x0 wr => ∃ q : Nat, x0 = .int .i64 (q : Int) ∧ q + gz = lx ∧ (∀ (j : Nat) x y, j < q → mx[j]? = some x → my[j]? = some y → x = y) ∧ Below w.heap.size w wr)
              case atStart => exact ⟨0, rfl, by omega, fun j x y hj => absurd hj (Nat.not_lt_zero _), HBQ.out⟩
              case round =>
                obtain ⟨q, rfl, hq, hall2, hbel⟩ := hrel
                have HALM := Lib.hid hall2
                have HBF := Lib.hid hbel
                clear hall2 hbel
                obtain ⟨g1, hg1⟩ : ∃ g1, g1 = gk := ⟨_, rfl⟩
                subst hg1
                obtain ⟨c0, c1', c2⟩ := HCX.out _ (stay_bel HBF.out)
                obtain ⟨d0, d1', d2⟩ := HCY.out _ (stay_bel HBF.out)
                by_cases hltq : q < lx
                · have tq : decide ((q : Int) < (lx : Int)) = true := decide_eq_true (by omega)
                  obtain ⟨t, ht⟩ : ∃ t, mx[q]? = some t := ⟨_, List.getElem?_eq_getElem (by have := HLX.out; omega)⟩
                  obtain ⟨u, hu⟩ : ∃ u, my[q]? = some u := ⟨_, List.getElem?_eq_getElem (by have := HLY.out; omega)⟩
                  have HTI := Lib.hid ht
                  have HUI := Lib.hid hu
                  obtain ⟨k1, ga, oa, C1, n1, cc1, C2, n2, cc2, hk1, rfl, _, hca, hta⟩ := kid_at HKX.out ht
                  obtain ⟨k2, gb, ob, D1, m1, dd1, D2, m2, dd2, hk2, rfl, _, hcb, htb⟩ := kid_at HKY.out hu
                  have HC := Lib.hid (fun u (hb : Below w.heap.size w u) => HS.out k1 hk1 _ _ _ u _ _ _ _ _ _ _ _ _ _ _ _ _ _ (trAt_bel hta hb) (trAt_bel htb hb))
                  have HCA := Lib.hid hca
                  have HCB := Lib.hid hcb
                  obtain ⟨a0, a1⟩ := hca _ (stay_bel HBF.out)
                  obtain ⟨b0, b1⟩ := hcb _ (stay_bel HBF.out)
                  have HK : Hid (∀ u, Below w.heap.size w u → u.cell? ⟨gx, ox + i * 3 + 2, none⟩ = some (.slice (some ⟨ga, oa, none⟩) lx c1) ∧ u.cell? ⟨gy, oy + i * 3 + 2, none⟩ = some (.slice (some ⟨gb, ob, none⟩) lx d1) ∧ u.cell? ⟨ga, oa + q * 2, none⟩ = some (.slice C1 n1 cc1) ∧ u.cell? ⟨ga, oa + q * 2 + 1, none⟩ = some (.slice C2 n2 cc2) ∧ u.cell? ⟨gb, ob + q * 2, none⟩ = some (.slice D1 m1 dd1) ∧ u.cell? ⟨gb, ob + q * 2 + 1, none⟩ = some (.slice D2 m2 dd2)) :=
                    Lib.hid (fun u hb => ⟨(HCX.out _ (stay_bel hb)).2.2, (HCY.out _ (stay_bel hb)).2.2, (HCA.out _ (stay_bel hb)).1, (HCA.out _ (stay_bel hb)).2, (HCB.out _ (stay_bel hb)).1, (HCB.out _ (stay_bel hb)).2⟩)
                  have HBD := Lib.hid (bel_more HBF.out (drewN_under wr 1))
                  clear ht hu hta htb hk1 hk2 hca hcb
                  go_wp2
                  go_region_held3 (fun w' => w'.cell? ⟨gx, ox + i * 3 + 2, none⟩ = some (.slice (some ⟨ga, oa, none⟩) lx c1) ∧ w'.cell? ⟨gy, oy + i * 3 + 2, none⟩ = some (.slice (some ⟨gb, ob, none⟩) lx d1) ∧ w'.cell? ⟨ga, oa + q * 2, none⟩ = some (.slice C1 n1 cc1) ∧ w'.cell? ⟨ga, oa + q * 2 + 1, none⟩ = some (.slice C2 n2 cc2) ∧ w'.cell? ⟨gb, ob + q * 2, none⟩ = some (.slice D1 m1 dd1) ∧ w'.cell? ⟨gb, ob + q * 2 + 1, none⟩ = some (.slice D2 m2 dd2))
                    (first | exact HK.out _ HBG.out | exact HK.out _ HBF.out | exact HK.out _ HBD.out)
                    (first
                      | (go_at_call 10; refine (HC.out _ HBD.out).mono ?_; rintro e w2 ⟨r, rfl, hr, hb⟩; have HR := Lib.hid hr; have HBG := Lib.hid (bel_more HBD.out hb); clear hr hb))
                  cases r with
                  | true =>
                    go_wp2
                    go_roundg (g1 - 1)
                    case measure => omega
                    case rel => exact ⟨q + 1, by go_num, by omega, (fun j x y hj hx hy => by
                          by_cases hjq : j < q
                          · exact HALM.out j x y hjq hx hy
                          · have : j = q := by omega
                            subst this
                            have e1 := HTI.out.symm.trans hx
                            have e2 := HUI.out.symm.trans hy
                            injection e1 with e1
                            injection e2 with e2
                            rw [← e1, ← e2]
                            exact tells_is HR.out), HBG.out⟩
                  | false =>
                    have HO : Hid (¬ l = k) := Lib.hid (fun h => tells_not HR.out (by
                      have := HXI.out
                      rw [h] at this
                      have e1 := this.symm.trans HYI.out
                      injection e1 with e1
                      injection e1 with _ _ e4
                      have e5 := HTI.out
                      rw [e4] at e5
                      have e6 := e5.symm.trans HUI.out
                      injection e6))
                    go_wp2
                    go_ret
                    exact ⟨false, rfl, tells_no HO.out, HBG.out⟩
                · have tq : decide ((q : Int) < (lx : Int)) = false := decide_eq_false (by omega)
                  have HEQ : Hid (mx = my) := Lib.hid (lists_eq (by have := HLX.out; have := HLY.out; omega) (fun j x y hx hy => HALM.out j x y (by have := (List.getElem?_eq_some_iff.mp hx).1; have := HLX.out; omega) hx hy))
                  go_wp2
                  go_roundg (g0 - 1)
                  case measure => omega
                  case rel => exact ⟨i + 1, by go_num, by omega, (fun j x y hj hx hy => by
                          by_cases hji : j < i
                          · exact HALL.out j x y hji hx hy
                          · have : j = i := by omega
                            subst this
                            have e1 := HXI.out.symm.trans hx
                            have e2 := HYI.out.symm.trans hy
                            injection e1 with e1
                            injection e2 with e2
                            rw [← e1, ← e2, HEQ.out]), HBF.out⟩
            · have t3 : ((lx : Int) == (ly : Int)) = false := beq_false_of_ne (by omega)
              have t4 : ((lx : Int) != (ly : Int)) = true := by simp; omega
              have HO : Hid (¬ l = k) := Lib.hid (fun h => e3 (by
                have := HXI.out
                rw [h] at this
                have e1 := this.symm.trans HYI.out
                injection e1 with e1
                injection e1 with _ _ e4
                rw [HLX.out, HLY.out, e4]))
              obtain ⟨c0, c1', c2⟩ := HCX.out _ (stay_bel HBE.out)
              obtain ⟨d0, d1', d2⟩ := HCY.out _ (stay_bel HBE.out)
              go_wp2
              go_quiet (fail)
              go_wp2
              go_ret
              exact ⟨false, rfl, tells_no HO.out, bel_more HBE.out (drewN_under wr _)⟩
          · have t1 : ((strOf sx).toList == (strOf sy).toList) = false := by rw [strs_same]; exact decide_eq_false e2
            have t2 : ¬ (strOf sx).toList = (strOf sy).toList := by intro h; rw [h, beq_self_eq_true] at t1; cases t1
            have HO : Hid (¬ l = k) := Lib.hid (fun h => e2 (by
              have := HXI.out
              rw [h] at this
              have e1 := this.symm.trans HYI.out
              injection e1 with e1
              injection e1))
            obtain ⟨c0, c1', c2⟩ := hcx _ (stay_bel HBE.out)
            obtain ⟨d0, d1', d2⟩ := hcy _ (stay_bel HBE.out)
            obtain ⟨ssx, hsx⟩ : ∃ z, z = strOf sx := ⟨_, rfl⟩
            obtain ⟨ssy, hsy⟩ : ∃ z, z = strOf sy := ⟨_, rfl⟩
            rw [← hsx, ← hsy] at t1 t2
            rw [← hsx] at c1'
            rw [← hsy] at d1'
            clear hcx hcy hsx hsy
            go_wp2
            go_quiet (fail)
            go_wp2
            go_ret
            exact ⟨false, rfl, tells_no HO.out, bel_more HBE.out (drewN_under wr _)⟩
        · have t1 : ((nx : Int) == (ny : Int)) = false := beq_false_of_ne (by omega)
          have t2 : ((nx : Int) != (ny : Int)) = true := by simp; omega
          have HO : Hid (¬ l = k) := Lib.hid (fun h => e1 (by
            have := HXI.out
            rw [h] at this
            have e1 := this.symm.trans HYI.out
            injection e1 with e1
            injection e1))
          obtain ⟨c0, c1', c2⟩ := hcx _ (stay_bel HBE.out)
          obtain ⟨d0, d1', d2⟩ := hcy _ (stay_bel HBE.out)
          clear hcx hcy
          go_wp2
          go_quiet (fail)
          go_wp2
          go_ret
          exact ⟨false, rfl, tells_no HO.out, bel_more HBE.out (drewN_under wr _)⟩
      · have ti : decide ((i : Int) < (na : Int)) = false := decide_eq_false (by omega)
        have HO : Hid (l = k) := Lib.hid (lists_eq (by have := HN.out; have := HM.out; omega) (fun j x y hx hy => HALL.out j x y (by have := (List.getElem?_eq_some_iff.mp hx).1; have := HN.out; omega) hx hy))
        go_wp2
        go_ret
        exact ⟨true, rfl, tells_yes HO.out, HBE.out⟩
  · have t3 : ((na : Int) == (nb : Int)) = false := beq_false_of_ne (by omega)
    have t4 : ((na : Int) != (nb : Int)) = true := by simp; omega
    have t5 : ¬ na = nb := hl
    have HO : Hid (¬ l = k) := Lib.hid (fun e => hl (by rw [hna, hnb, e]))
    clear hna hnb
    go_enter Try.func16, Try.ntmps16
    go_wp2
    go_ret
    exact ⟨false, rfl, tells_no HO.out, Below.refl _ _⟩

set_option maxHeartbeats 8000000 in
theorem rsame_step {n : Nat} (H : ∀ k, n = k + 1 → SameOk k) : SameOk n := by
  intro S S' m w A na ca A2 nr cr B nb cb B2 ns cs x y h h'
  obtain ⟨q1, q2, q3, q4⟩ := trAt_max h
  obtain ⟨p1, p2, p3, p4⟩ := trAt_max h'
  have HA := Lib.hid h
  have HB := Lib.hid h'
  have HS := Lib.hid H
  have HW : Hid (∀ u, Below w.heap.size w u → Calls Try.prog 31 #[.slice A2 nr cr, .slice B2 ns cs] u fun e w' => e = .returned (.bool (sameR x.rest y.rest)) ∧ Below u.heap.size u w') :=
    Lib.hid (fun u hb => (rsame_raw u (raws_of (trAt_bel h hb).t_r) (raws_of (trAt_bel h' hb).t_r) h.t_nr h'.t_nr).mono fun e w' h => ⟨h.1, by obtain ⟨k, rfl⟩ := h.2; exact drewN_under u k⟩)
  have HBX := Lib.hid (bx2_start w #[.slice A na ca, .slice A2 nr cr] #[.slice B nb cb, .slice B2 ns cs] 25 25)
  have r0 := obj_cell (HBX.out).b2_one 0
  have s0 := obj_cell (HBX.out).b2_two 0
  have r1 := obj_cell (HBX.out).b2_one 1
  have s1 := obj_cell (HBX.out).b2_two 1
  by_cases hl : na = nb
  · subst hl
    cases hsr : sameR x.rest y.rest with
    | true =>
      rw [hsr] at HW
      have HRE := Lib.hid ((sameR_iff _ _).1 hsr)
      clear h h' H hsr
      go_enter Try.func10, Try.ntmps10
      go_wp2_with (first
        | (go_at_call 31; refine (HW.out _ HBX.out.b2_bel).mono ?_; rintro e w1 ⟨rfl, hb⟩; replace HBX := Lib.hid (bx2_step HBX.out hb); clear hb; have r0 := obj_cell HBX.out.b2_one 0; have s0 := obj_cell HBX.out.b2_two 0))
      clear r0 s0 r1 s1
      go_loopg [5] na (fun gz x0 wr => ∃ i : Nat, x0 = .int .i64 (i : Int) ∧ i + gz = na ∧ (∀ (j : Nat) a b, j < i → x.slots[j]? = some a → y.slots[j]? = some b → a = b) ∧ Bx2 w wr (.cells #[.slice A na ca, .slice A2 nr cr] 25 (0, 0)) (.cells #[.slice B na cb, .slice B2 ns cs] 25 (0, 0)))
      case atStart => exact ⟨0, rfl, by omega, fun j x y hj => absurd hj (Nat.not_lt_zero _), HBX.out⟩
      case round =>
        obtain ⟨i, rfl, hi, hall, hbx⟩ := hrel
        have HALL := Lib.hid hall
        have HBX := Lib.hid hbx
        clear hall hbx
        obtain ⟨g0, hg0⟩ : ∃ g0, g0 = gk := ⟨_, rfl⟩
        subst hg0
        have r0 := obj_cell HBX.out.b2_one 0
        have s0 := obj_cell HBX.out.b2_two 0
        by_cases hlti : i < na
        · have ti : decide ((i : Int) < (na : Int)) = true := decide_eq_true (by omega)
          obtain ⟨a, ha⟩ : ∃ a, x.slots[i]? = some a := ⟨_, List.getElem?_eq_getElem (by have := HA.out.t_ns; omega)⟩
          obtain ⟨b, hb⟩ : ∃ b, y.slots[i]? = some b := ⟨_, List.getElem?_eq_getElem (by have := HB.out.t_ns; omega)⟩
          have HAI := Lib.hid ha
          have HBI := Lib.hid hb
          obtain ⟨ga, oa, A1, c1, rfl, _, hca, hva⟩ := sl_at HA.out.t_s ha
          obtain ⟨gb, ob, B1, d1, rfl, _, hcb, hvb⟩ := sl_at HB.out.t_s hb
          obtain ⟨num1, vals1⟩ := a
          obtain ⟨num2, vals2⟩ := b
          dsimp only at hca hcb hva hvb
          obtain ⟨la, hla⟩ : ∃ z, z = vals1.length := ⟨_, rfl⟩
          obtain ⟨lb, hlb⟩ : ∃ z, z = vals2.length := ⟨_, rfl⟩
          have HC := Lib.hid (fun u (hb : Below w.heap.size w u) => rsvals_any HS.out u (vsAt_bel hva hb) (vsAt_bel hvb hb) hla hlb)
          rw [← hla] at hca
          rw [← hlb] at hcb
          have HCA := Lib.hid hca
          have HCB := Lib.hid hcb
          obtain ⟨a0, a1⟩ := hca _ (stay_bel HBX.out.b2_bel)
          obtain ⟨b0, b1⟩ := hcb _ (stay_bel HBX.out.b2_bel)
          clear ha hb hla hlb hca hcb hva hvb
          by_cases e1 : num1 = num2
          · subst e1
            have HBD := Lib.hid (bx2_step HBX.out (drewN_under wr 1))
            have HK : Hid (∀ u, Bx2 w u (.cells #[.slice (some ⟨ga, oa, none⟩) na ca, .slice A2 nr cr] 25 (0, 0)) (.cells #[.slice (some ⟨gb, ob, none⟩) na cb, .slice B2 ns cs] 25 (0, 0)) → u.cell? ⟨w.heap.size, 0, none⟩ = some (.slice (some ⟨ga, oa, none⟩) na ca) ∧ u.cell? ⟨w.heap.size + 1, 0, none⟩ = some (.slice (some ⟨gb, ob, none⟩) na cb) ∧ u.cell? ⟨ga, oa + i * 2, none⟩ = some (.int .i64 num1) ∧ u.cell? ⟨ga, oa + i * 2 + 1, none⟩ = some (.slice A1 la c1) ∧ u.cell? ⟨gb, ob + i * 2, none⟩ = some (.int .i64 num1) ∧ u.cell? ⟨gb, ob + i * 2 + 1, none⟩ = some (.slice B1 lb d1)) :=
              Lib.hid (fun u hu => ⟨obj_cell hu.b2_one 0, obj_cell hu.b2_two 0, (HCA.out _ (stay_bel hu.b2_bel)).1, (HCA.out _ (stay_bel hu.b2_bel)).2, (HCB.out _ (stay_bel hu.b2_bel)).1, (HCB.out _ (stay_bel hu.b2_bel)).2⟩)
            go_wp2
            go_region_held3 (fun u => u.cell? ⟨w.heap.size, 0, none⟩ = some (.slice (some ⟨ga, oa, none⟩) na ca) ∧ u.cell? ⟨w.heap.size + 1, 0, none⟩ = some (.slice (some ⟨gb, ob, none⟩) na cb) ∧ u.cell? ⟨ga, oa + i * 2, none⟩ = some (.int .i64 num1) ∧ u.cell? ⟨ga, oa + i * 2 + 1, none⟩ = some (.slice A1 la c1) ∧ u.cell? ⟨gb, ob + i * 2, none⟩ = some (.int .i64 num1) ∧ u.cell? ⟨gb, ob + i * 2 + 1, none⟩ = some (.slice B1 lb d1))
              (first | exact HK.out _ HBG.out | exact HK.out _ HBX.out | exact HK.out _ HBD.out)
              (first
                | (go_at_call 16; refine (HC.out _ HBD.out.b2_bel).mono ?_; rintro e w2 ⟨r, rfl, hr, hb⟩; have HR := Lib.hid hr; have HBG := Lib.hid (bx2_step HBD.out hb); clear hr hb))
            cases r with
            | true =>
              go_wp2
              go_roundg (g0 - 1)
              case measure => omega
              case rel => exact ⟨i + 1, by go_num, by omega, (fun j a b hj hx hy => by
                    by_cases hjq : j < i
                    · exact HALL.out j a b hjq hx hy
                    · have : j = i := by omega
                      subst this
                      have e1 := HAI.out.symm.trans hx
                      have e2 := HBI.out.symm.trans hy
                      injection e1 with e1
                      injection e2 with e2
                      rw [← e1, ← e2, tells_is HR.out]), HBG.out⟩
            | false =>
              have HO : Hid (¬ x = y) := Lib.hid (fun h => tells_not HR.out (by
                have := HAI.out
                rw [h] at this
                have e1 := this.symm.trans HBI.out
                injection e1 with e1
                injection e1))
              go_wp2
              go_ret
              exact ⟨false, rfl, tells_no HO.out, HBG.out.b2_bel⟩
          · have t1 : (num1 == num2) = false := beq_false_of_ne e1
            have t2 : (num1 != num2) = true := by simp [e1]
            have HO : Hid (¬ x = y) := Lib.hid (fun h => e1 (by
                have := HAI.out
                rw [h] at this
                have e1 := this.symm.trans HBI.out
                injection e1 with e1
                injection e1))
            go_wp2
            go_quiet (fail)
            go_wp2
            go_ret
            exact ⟨false, rfl, tells_no HO.out, bel_more HBX.out.b2_bel (drewN_under wr _)⟩
        · have ti : decide ((i : Int) < (na : Int)) = false := decide_eq_false (by omega)
          have HO : Hid (x = y) := Lib.hid (tr_ext (lists_eq (by have := HA.out.t_ns; have := HB.out.t_ns; omega) (fun j a b hx hy => HALL.out j a b (by have := (List.getElem?_eq_some_iff.mp hx).1; have := HA.out.t_ns; omega) hx hy)) HRE.out)
          go_wp2
          go_ret
          exact ⟨true, rfl, tells_yes HO.out, HBX.out.b2_bel⟩
    | false =>
      rw [hsr] at HW
      have HO : Hid (¬ x = y) := Lib.hid (fun e => by rw [e, sameR_self] at hsr; cases hsr)
      clear h h' H hsr
      go_enter Try.func10, Try.ntmps10
      go_wp2_with (first
        | (go_at_call 31; refine (HW.out _ HBX.out.b2_bel).mono ?_; rintro e w1 ⟨rfl, hb⟩; replace HBX := Lib.hid (bx2_step HBX.out hb); clear hb))
      go_ret
      exact ⟨false, rfl, tells_no HO.out, HBX.out.b2_bel⟩
  · have t3 : ((na : Int) == (nb : Int)) = false := beq_false_of_ne (by omega)
    have t4 : ((na : Int) != (nb : Int)) = true := by simp; omega
    have t5 : ¬ na = nb := hl
    have HO : Hid (¬ x = y) := Lib.hid (fun e => hl (by rw [h.t_ns, h'.t_ns, e]))
    clear h h' H
    go_enter Try.func10, Try.ntmps10
    go_wp2
    go_ret
    exact ⟨false, rfl, tells_no HO.out, HBX.out.b2_bel⟩
theorem rtsame_any : ∀ n, SameOk n
  | 0 => rsame_step (fun k h => by cases h)
  | n + 1 => rsame_step (fun k h => by cases h; exact rtsame_any n)
theorem rtvals_any {S S' : Nat → Prop} {n m : Nat} (w : World) {A B : Option Addr} {na ca nb cb : Nat} {l k : List Va} (h : VsAt S n w A ca l) (h' : VsAt S' m w B cb k) (hna : na = l.length) (hnb : nb = k.length) :
    Calls Try.prog 16 #[.slice A na ca, .slice B nb cb] w (SmTo w (l = k)) := rsvals_any (fun k _ => rtsame_any k) w h h' hna hnb
end Go.Proofs.Ytakdkocobcicdaa

/- The document's layer 19: which trees are small. Conditions: those that each theorem names. -/
namespace Go.Proofs.Ytakdkocobcicdaa
open Go.RowKit
set_option linter.unusedVariables false
set_option maxRecDepth 100000

theorem ret_i64 {a b : Int} (h : a = b) : Ending.returned (.int .i64 a) = .returned (.int .i64 b) := by rw [h]
theorem int_same {a b : Int} (h : a = b) : Value.int .i64 a = .int .i64 b := by rw [h]
theorem st_size (l : List UInt8) : (strOf l).size = l.length := by simp [strOf, ByteArray.size]
def LeftOk (k : Nat) : Prop := ∀ (S : Nat → Prop) (w : World) (A : Option Addr) (na ca : Nat) (A2 : Option Addr) (nr cr : Nat) (x : Tr) (n d : Int),
  TrAt S k w A na ca A2 nr cr x → OkN (k + 1) x → -1 ≤ n → n ≤ 400 → -1 ≤ d → d ≤ 1000 →
    Calls Try.prog 23 #[.agg #[.slice A na ca, .slice A2 nr cr], .int .i64 n, .int .i64 d] w fun e w' => e = .returned (.int .i64 (leftN (k + 1) x n d)) ∧ Below w.heap.size w w'

set_option maxHeartbeats 8000000 in
theorem rleft_step {k : Nat} (H : ∀ q, k = q + 1 → LeftOk q) : LeftOk k := by
  intro S w A na ca A2 nr cr x n d h ho n1 n2 d1 d2
  obtain ⟨q1, q2, q3, q4⟩ := trAt_max h
  obtain ⟨o1, o2, o3, o4⟩ := ho
  rw [← h.t_ns] at o1
  rw [← h.t_nr] at o2
  have HA := Lib.hid h
  have HO3 := Lib.hid o3
  have HO4 := Lib.hid o4
  have HL := Lib.hid H
  have HBX := Lib.hid (bx_start w #[.slice A na ca, .slice A2 nr cr] 25)
  have r0 := obj_cell (HBX.out).b_blk 0
  have r1 := obj_cell (HBX.out).b_blk 1
  have HR : Hid (leftN (k + 1) x n d = if d ≤ 0 then -1 else leftS (fun u m => leftN k u m (d - 1)) (foldG remR (n - (nr : Int) - (na : Int)) x.rest) x.slots) := Lib.hid (by rw [h.t_ns, h.t_nr]; rfl)
  clear o3 o4 H h
  by_cases hd : d ≤ 0
  · have td : decide (d ≤ 0) = true := decide_eq_true hd
    have HO : Hid (leftN (k + 1) x n d = -1) := Lib.hid (by rw [HR.out, if_pos hd])
    go_enter Try.func23, Try.ntmps23
    go_wp2
    go_ret
    exact ⟨ret_i64 HO.out.symm, HBX.out.b_bel⟩
  obtain ⟨lf, hlf⟩ : ∃ lf, lf = (fun (u : Tr) (m : Int) => leftN k u m (d - 1)) := ⟨_, rfl⟩
  have HV : Hid (leftN (k + 1) x n d = leftS lf (foldG remR (n - (nr : Int) - (na : Int)) x.rest) x.slots) := Lib.hid (by rw [HR.out, if_neg hd, hlf])
  have HLF := Lib.hid hlf
  have td : decide (d ≤ 0) = false := decide_eq_false hd
  have d3 : 1 ≤ d := by omega
  clear HR hlf
  go_enter Try.func23, Try.ntmps23
  go_wp2
  clear r0 r1
  go_loopg [1, 7] nr (fun gz x0 x1 wr => ∃ (j : Nat) (m : Int), x0 = .int .i64 m ∧ x1 = .int .i64 (j : Int) ∧ j + gz = nr ∧ m = foldG remR (n - (nr : Int) - (na : Int)) (x.rest.take j) ∧ -281474976710656 ≤ m ∧ m ≤ 400 ∧ Bx w wr (.cells #[.slice A na ca, .slice A2 nr cr] 25 (0, 0)))
  case atStart => exact ⟨0, n - (nr : Int) - (na : Int), rfl, rfl, by omega, rfl, by omega, by omega, HBX.out⟩
  case round =>
    obtain ⟨j, m, rfl, rfl, hj, hm, m1, m2, hbx⟩ := hrel
    have HM := Lib.hid hm
    have HBX := Lib.hid hbx
    clear hm hbx
    obtain ⟨g0, hg0⟩ : ∃ g0, g0 = gk := ⟨_, rfl⟩
    subst hg0
    have r0 := obj_cell HBX.out.b_blk 0
    have r1 := obj_cell HBX.out.b_blk 1
    by_cases hlt : j < nr
    · have tj : decide ((j : Int) < (nr : Int)) = true := decide_eq_true (by omega)
      by_cases hm0 : 0 ≤ m
      · have tm : decide (0 ≤ m) = true := decide_eq_true hm0
        obtain ⟨r, hr⟩ : ∃ r, x.rest[j]? = some r := ⟨_, List.getElem?_eq_getElem (by have := HA.out.t_nr; omega)⟩
        obtain ⟨g, off, rfl, _, hc⟩ := rw_at HA.out.t_r hr
        obtain ⟨-, -, -, c3⟩ := hc _ (stay_bel HBX.out.b_bel)
        have hs := HO3.out r (List.mem_of_getElem? hr)
        have HT := Lib.hid (foldG_take remR (n - (nr : Int) - (na : Int)) hr (by rw [← HM.out]; exact hm0))
        obtain ⟨st, hst⟩ : ∃ z, z = strOf r.s := ⟨_, rfl⟩
        have hz : st.size = r.s.length := by rw [hst, st_size]
        rw [← hst] at c3
        obtain ⟨lz, hlz⟩ : ∃ z, z = r.s.length := ⟨_, rfl⟩
        rw [← hlz] at hs hz
        have hzl : st.size ≤ 140737488351232 := by omega
        have HZ := Lib.hid hz
        have HLZ := Lib.hid hlz
        clear hr hc hst hlz hz hs
        go_wp2
        go_roundg (g0 - 1)
        case measure => omega
        case rel => exact ⟨j + 1, remR m r, int_same (by unfold remR; rw [← HLZ.out]; have := HZ.out; omega), by go_num, by omega, by rw [HT.out, ← HM.out], by unfold remR; rw [← HLZ.out]; have := HZ.out; omega, by unfold remR; omega, HBX.out⟩
      · have tm : decide (0 ≤ m) = false := decide_eq_false hm0
        have HF : Hid (leftN (k + 1) x n d = m) := Lib.hid (by rw [HV.out, foldG_stop remR _ (i := j) (by rw [← HM.out]; omega), ← HM.out]; unfold leftS; exact foldG_neg _ (by omega) _)
        go_wp2
        go_loopg [1, 8] 0 (fun gz x1 x0 wr => x0 = .int .i64 0 ∧ x1 = .int .i64 m ∧ gz = 0 ∧ Bx w wr (.cells #[.slice A na ca, .slice A2 nr cr] 25 (0, 0)))
        case atStart => exact ⟨rfl, rfl, rfl, HBX.out⟩
        case round =>
          obtain ⟨rfl, rfl, hg, hbx⟩ := hrel
          have HBX := Lib.hid hbx
          have r0 := obj_cell HBX.out.b_blk 0
          clear hbx
          by_cases h0 : 0 < na
          · have t0 : decide ((0 : Int) < (na : Int)) = true := decide_eq_true (by omega)
            go_wp2
            go_ret
            exact ⟨ret_i64 HF.out.symm, HBX.out.b_bel⟩
          · have t0 : decide ((0 : Int) < (na : Int)) = false := decide_eq_false (by omega)
            go_wp2
            go_ret
            exact ⟨ret_i64 HF.out.symm, HBX.out.b_bel⟩
    · have tj : decide ((j : Int) < (nr : Int)) = false := decide_eq_false (by omega)
      have HM2 : Hid (m = foldG remR (n - (nr : Int) - (na : Int)) x.rest) := Lib.hid (by have := HM.out; rw [List.take_of_length_le (by have := HA.out.t_nr; omega)] at this; exact this)
      obtain ⟨m0, hm0⟩ : ∃ z, z = m := ⟨_, rfl⟩
      have HW : Hid (leftN (k + 1) x n d = leftS lf m0 x.slots) := Lib.hid (by rw [HV.out, hm0, ← HM2.out])
      have HMM := Lib.hid hm0
      clear hm0
      go_wp2
      clear r0 r1
      go_loopg [1, 8] na (fun gz x0 x1 wr => ∃ (i : Nat) (m : Int), x0 = .int .i64 m ∧ x1 = .int .i64 (i : Int) ∧ i + gz = na ∧ m = leftS lf m0 (x.slots.take i) ∧ -281474976710656 ≤ m ∧ m ≤ 400 ∧ Bx w wr (.cells #[.slice A na ca, .slice A2 nr cr] 25 (0, 0)))
      case atStart => exact ⟨0, m, rfl, rfl, by omega, by rw [← HMM.out]; rfl, m1, m2, HBX.out⟩
      case round =>
        clear HM HM2 m1 m2 hlt tj hj
        obtain ⟨i, m, rfl, rfl, hi, hm, m1, m2, hbx⟩ := hrel
        have HM := Lib.hid hm
        have HBX := Lib.hid hbx
        clear hm hbx
        obtain ⟨g1, hg1⟩ : ∃ g1, g1 = gk := ⟨_, rfl⟩
        subst hg1
        have r0 := obj_cell HBX.out.b_blk 0
        by_cases hlt : i < na
        · have ti : decide ((i : Int) < (na : Int)) = true := decide_eq_true (by omega)
          by_cases hm0 : 0 ≤ m
          · have tm : decide (0 ≤ m) = true := decide_eq_true hm0
            obtain ⟨s, hs⟩ : ∃ s, x.slots[i]? = some s := ⟨_, List.getElem?_eq_getElem (by have := HA.out.t_ns; omega)⟩
            obtain ⟨ga, oa, A1, c1, rfl, _, hc, hv⟩ := sl_at HA.out.t_s hs
            obtain ⟨p1, p2⟩ := HO4.out s (List.mem_of_getElem? hs)
            have HT := Lib.hid (foldG_take (fun n (s : Slt) => leftV lf (n - (s.svals.length : Int)) s.svals) m0 hs (by have := HM.out; unfold leftS at this; rw [← this]; exact hm0))
            have z1 := hv.l_le
            have z2 := hv.l_max
            unfold maxLen at z2
            obtain ⟨nv, hnv⟩ : ∃ z, z = s.svals.length := ⟨_, rfl⟩
            rw [← hnv] at hc p1 z1
            have HNV := Lib.hid hnv
            have HC := Lib.hid hc
            have HVV := Lib.hid hv
            have HP2 := Lib.hid p2
            obtain ⟨a0, a1⟩ := hc _ (stay_bel HBX.out.b_bel)
            have HMI : Hid (leftS lf m0 (x.slots.take (i + 1)) = leftV lf (m - (nv : Int)) s.svals) := Lib.hid (by
              have e1 := HT.out
              have e2 := HM.out
              unfold leftS at e2 ⊢
              rw [e1, ← e2, ← HNV.out])
            clear hs hc hv hnv p2 HT
            go_wp2
            clear a0 a1 r0
            go_loopg [1, 9] nv (fun gz x0 x1 wr => ∃ (j : Nat) (u : Int), x0 = .int .i64 u ∧ x1 = .int .i64 (j : Int) ∧ j + gz = nv ∧ u = leftV lf (m - (nv : Int)) (s.svals.take j) ∧ -281474976710656 ≤ u ∧ u ≤ 400 ∧ Bx w wr (.cells #[.slice (some ⟨ga, oa, none⟩) na ca, .slice A2 nr cr] 25 (0, 0)))
            case atStart => exact ⟨0, m - (nv : Int), rfl, rfl, by omega, rfl, by omega, by omega, HBX.out⟩
            case round =>
              obtain ⟨j, u, rfl, rfl, hj, hu, u1, u2, hbx⟩ := hrel
              have HU := Lib.hid hu
              have HBX := Lib.hid hbx
              clear hu hbx
              obtain ⟨g2, hg2⟩ : ∃ g2, g2 = gk := ⟨_, rfl⟩
              subst hg2
              have r0 := obj_cell HBX.out.b_blk 0
              obtain ⟨a0, a1⟩ := HC.out _ (stay_bel HBX.out.b_bel)
              by_cases hltj : j < nv
              · have tj : decide ((j : Int) < (nv : Int)) = true := decide_eq_true (by omega)
                by_cases hu0 : 0 ≤ u
                · have tu : decide (0 ≤ u) = true := decide_eq_true hu0
                  obtain ⟨v, hv⟩ : ∃ v, s.svals[j]? = some v := ⟨_, List.getElem?_eq_getElem (by have := HNV.out; omega)⟩
                  obtain ⟨gb, ob, B1, d1, rfl, _, hcb, hk⟩ := va_at HVV.out hv
                  obtain ⟨p3, p4, p5⟩ := HP2.out v (List.mem_of_getElem? hv)
                  have HT := Lib.hid (foldG_take (fun n (v : Va) => leftM lf (n - ((v.vs.length / 20 : Nat) : Int)) v.vm) (m - (nv : Int)) hv (by have := HU.out; unfold leftV at this; rw [← this]; exact hu0))
                  have z3 := hk.l_le
                  have z4 := hk.l_max
                  unfold maxLen at z4
                  obtain ⟨nm, hnm⟩ : ∃ z, z = v.vm.length := ⟨_, rfl⟩
                  obtain ⟨st, hst⟩ : ∃ z, z = strOf v.vs := ⟨_, rfl⟩
                  have hz : st.size = v.vs.length := by rw [hst, st_size]
                  rw [← hnm, ← hst] at hcb
                  rw [← hnm] at p4 z3
                  obtain ⟨lz, hlz⟩ : ∃ z, z = v.vs.length := ⟨_, rfl⟩
                  rw [← hlz] at p3 hz
                  have hzl : st.size ≤ 140737488351232 := by omega
                  have HZ := Lib.hid hz
                  have HLZ := Lib.hid hlz
                  have HNM := Lib.hid hnm
                  have HCB := Lib.hid hcb
                  have HK := Lib.hid hk
                  have HP5 := Lib.hid p5
                  obtain ⟨b0, b1, b2⟩ := hcb _ (stay_bel HBX.out.b_bel)
                  have HUI : Hid (leftV lf (m - (nv : Int)) (s.svals.take (j + 1)) = leftM lf (u - ((lz / 20 : Nat) : Int)) v.vm) := Lib.hid (by
                    have e1 := HT.out
                    have e2 := HU.out
                    unfold leftV at e2 ⊢
                    rw [e1, ← e2, ← HLZ.out])
                  have HQ : Hid (u - (st.size : Int) / 20 = u - ((lz / 20 : Nat) : Int)) := Lib.hid (by have := HZ.out; omega)
                  clear hv hcb hk hnm hst hz hlz p5 HT
                  go_wp2
                  clear a0 a1 r0 b0 b1 b2
                  go_loopg [1, 10] nm (fun gz x0 x1 wr => ∃ (q : Nat) (t : Int), x0 = .int .i64 t ∧ x1 = .int .i64 (q : Int) ∧ q + gz = nm ∧ t = leftM lf (u - ((lz / 20 : Nat) : Int)) (v.vm.take q) ∧ -281474976710656 ≤ t ∧ t ≤ 400 ∧ Bx w wr (.cells #[.slice (some ⟨ga, oa, none⟩) na ca, .slice A2 nr cr] 25 (0, 0)))
                  case atStart => exact ⟨0, u - ((lz / 20 : Nat) : Int), int_same HQ.out, rfl, by omega, rfl, by omega, by omega, HBX.out⟩
                  case round =>
                    obtain ⟨q, t, rfl, rfl, hq, ht, t1, t2, hbx⟩ := hrel
                    have HTT := Lib.hid ht
                    have HBX := Lib.hid hbx
                    clear ht hbx
                    obtain ⟨g3, hg3⟩ : ∃ g3, g3 = gk := ⟨_, rfl⟩
                    subst hg3
                    have r0 := obj_cell HBX.out.b_blk 0
                    obtain ⟨a0, a1⟩ := HC.out _ (stay_bel HBX.out.b_bel)
                    obtain ⟨b0, b1, b2⟩ := HCB.out _ (stay_bel HBX.out.b_bel)
                    by_cases hltq : q < nm
                    · have tq : decide ((q : Int) < (nm : Int)) = true := decide_eq_true (by omega)
                      by_cases ht0 : 0 ≤ t
                      · have tt : decide (0 ≤ t) = true := decide_eq_true ht0
                        obtain ⟨y, hy⟩ : ∃ y, v.vm[q]? = some y := ⟨_, List.getElem?_eq_getElem (by have := HNM.out; omega)⟩
                        obtain ⟨kk, gc, oc, C1, e1, cc1, C2, e2, cc2, hkk, rfl, _, hcc, hty⟩ := kid_at HK.out hy
                        have HT := Lib.hid (foldG_take (fun n t => lf t (n - 1)) (u - ((lz / 20 : Nat) : Int)) hy (by have := HTT.out; unfold leftM at this; rw [← this]; exact ht0))
                        have hoy := HP5.out y (List.mem_of_getElem? hy)
                        have HRES : Hid (leftN k y (t - 1) (d - 1) = leftM lf (u - ((lz / 20 : Nat) : Int)) (v.vm.take (q + 1))) := Lib.hid (by
                          have e1 := HT.out
                          have e2 := HTT.out
                          unfold leftM at e2 ⊢
                          rw [e1, ← e2, HLF.out])
                        have HLO := Lib.hid (leftN_lo k y (t - 1) (d - 1) hoy (by omega))
                        have HHI := Lib.hid (leftN_le k y (t - 1) (d - 1) (by omega))
                        have HCALL : Hid (∀ u, Below w.heap.size w u → Calls Try.prog 23 #[.agg #[.slice C1 e1 cc1, .slice C2 e2 cc2], .int .i64 (t - 1), .int .i64 (d - 1)] u fun e w' => e = .returned (.int .i64 (leftN k y (t - 1) (d - 1))) ∧ Below u.heap.size u w') := Lib.hid (fun u hb => by
                          have := HL.out kk hkk _ u _ _ _ _ _ _ y (t - 1) (d - 1) (trAt_bel hty hb) (by rw [hkk] at hoy; exact hoy) (by omega) (by omega) (by omega) (by omega)
                          rw [hkk]
                          exact this)
                        obtain ⟨res, hres⟩ : ∃ z, z = leftN k y (t - 1) (d - 1) := ⟨_, rfl⟩
                        rw [← hres] at HRES HLO HHI HCALL
                        obtain ⟨c0, c1'⟩ := hcc _ (stay_bel HBX.out.b_bel)
                        clear hy hcc hty hkk hres hoy HT
                        go_wp2_with (go_at_call 23; refine (HCALL.out _ HBX.out.b_bel).mono ?_; rintro e w2 ⟨rfl, hb⟩; replace HBX := Lib.hid (bx_step HBX.out hb); clear hb)
                        go_roundg (g3 - 1)
                        case measure => omega
                        case rel => exact ⟨q + 1, res, rfl, by go_num, by omega, HRES.out, HLO.out, by have := HHI.out; omega, HBX.out⟩
                      · have tt : decide (0 ≤ t) = false := decide_eq_false ht0
                        have HF : Hid (t = leftV lf (m - (nv : Int)) (s.svals.take (j + 1))) := Lib.hid (by
                          have e2 := HTT.out
                          rw [HUI.out]
                          unfold leftM at e2 ⊢
                          rw [foldG_stop _ _ (i := q) (by rw [← e2]; omega)]
                          exact e2)
                        go_wp2
                        go_roundg (g2 - 1)
                        case measure => omega
                        case rel => exact ⟨j + 1, t, rfl, by go_num, by omega, HF.out, t1, t2, HBX.out⟩
                    · have tq : decide ((q : Int) < (nm : Int)) = false := decide_eq_false (by omega)
                      have HF : Hid (t = leftV lf (m - (nv : Int)) (s.svals.take (j + 1))) := Lib.hid (by
                        have e2 := HTT.out
                        rw [HUI.out]
                        rw [List.take_of_length_le (by have := HNM.out; omega)] at e2
                        exact e2)
                      go_wp2
                      go_roundg (g2 - 1)
                      case measure => omega
                      case rel => exact ⟨j + 1, t, rfl, by go_num, by omega, HF.out, t1, t2, HBX.out⟩
                · have tu : decide (0 ≤ u) = false := decide_eq_false hu0
                  have HF : Hid (u = leftS lf m0 (x.slots.take (i + 1))) := Lib.hid (by
                    have e2 := HU.out
                    rw [HMI.out]
                    unfold leftV at e2 ⊢
                    rw [foldG_stop _ _ (i := j) (by rw [← e2]; omega)]
                    exact e2)
                  go_wp2
                  go_roundg (g1 - 1)
                  case measure => omega
                  case rel => exact ⟨i + 1, u, rfl, by go_num, by omega, HF.out, u1, u2, HBX.out⟩
              · have tj : decide ((j : Int) < (nv : Int)) = false := decide_eq_false (by omega)
                have HF : Hid (u = leftS lf m0 (x.slots.take (i + 1))) := Lib.hid (by
                  have e2 := HU.out
                  rw [HMI.out]
                  rw [List.take_of_length_le (by have := HNV.out; omega)] at e2
                  exact e2)
                go_wp2
                go_roundg (g1 - 1)
                case measure => omega
                case rel => exact ⟨i + 1, u, rfl, by go_num, by omega, HF.out, u1, u2, HBX.out⟩
          · have tm : decide (0 ≤ m) = false := decide_eq_false hm0
            have HF : Hid (leftN (k + 1) x n d = m) := Lib.hid (by
              have e2 := HM.out
              rw [HW.out]
              unfold leftS at e2 ⊢
              rw [foldG_stop _ _ (i := i) (by rw [← e2]; omega)]
              exact e2.symm)
            go_wp2
            go_ret
            exact ⟨ret_i64 HF.out.symm, HBX.out.b_bel⟩
        · have ti : decide ((i : Int) < (na : Int)) = false := decide_eq_false (by omega)
          have HF : Hid (leftN (k + 1) x n d = m) := Lib.hid (by
            have e2 := HM.out
            rw [List.take_of_length_le (by have := HA.out.t_ns; omega)] at e2
            rw [HW.out, e2])
          go_wp2
          go_ret
          exact ⟨ret_i64 HF.out.symm, HBX.out.b_bel⟩
theorem rleft_any : ∀ k, LeftOk k
  | 0 => rleft_step (fun q h => by cases h)
  | k + 1 => rleft_step (fun q h => by cases h; exact rleft_any k)

/-- What is small. -/
def smallTr (k : Nat) (x : Tr) : Bool := decide (0 ≤ leftN (k + 1) x 400 40)
theorem small_fits {k : Nat} {x : Tr} (h : smallTr k x = true) : FitN (k + 1) x ∧ deepN (k + 1) x ≤ 40 ∧ cntN (k + 1) x ≤ 400 := by
  have h0 := of_decide_eq_true h
  obtain ⟨a, b, c⟩ := left_fits (k + 1) x 400 40 (by omega) h0
  exact ⟨a, by have := b (by omega); omega, by omega⟩
theorem rsmalltr_any {k : Nat} {S : Nat → Prop} (w : World) {A : Option Addr} {na ca : Nat} {A2 : Option Addr} {nr cr : Nat} {x : Tr} (h : TrAt S k w A na ca A2 nr cr x) (ho : OkT x) :
    Calls Try.prog 7 #[.agg #[.slice A na ca, .slice A2 nr cr]] w fun e w' => e = .returned (.bool (smallTr k x)) ∧ Below w.heap.size w w' := by
  have HBX := Lib.hid (bx_start w #[.slice A na ca, .slice A2 nr cr] 25)
  have r0 := obj_cell (HBX.out).b_blk 0
  have r1 := obj_cell (HBX.out).b_blk 1
  have HC := Lib.hid (fun u (hb : Below w.heap.size w u) => rleft_any k _ u _ _ _ _ _ _ x 400 40 (trAt_bel h hb) (ho (k + 1)) (by omega) (by omega) (by omega) (by omega))
  have HV : Hid (smallTr k x = decide (0 ≤ leftN (k + 1) x 400 40)) := Lib.hid rfl
  obtain ⟨r, hr⟩ : ∃ r, r = leftN (k + 1) x 400 40 := ⟨_, rfl⟩
  rw [← hr] at HC HV
  clear h ho hr
  go_enter Try.func7, Try.ntmps7
  go_wp2_with (go_at_call 23; refine (HC.out _ HBX.out.b_bel).mono ?_; rintro e w2 ⟨rfl, hb⟩; replace HBX := Lib.hid (bx_step HBX.out hb); clear hb)
  go_ret
  exact ⟨ret_bool' HV.out.symm, HBX.out.b_bel⟩
end Go.Proofs.Ytakdkocobcicdaa
