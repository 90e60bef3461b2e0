/- Several texts in one: TpA, TpB, TrLaw. What each proves, and its conditions, stands at its own head. -/
import Derived.Test.YtakdkocobcicdaaPkTS15
import Derived.Test.YtakdkocobcicdaaPkTS12
import Derived.Test.YtakdkocobcicdaaPkTS13
import Derived.Laws.EntriesVeiled
import Derived.Shelf.Abstract
import Derived.Test.YtakdkocobcicdaaPkTS3
/- The program's Same of trees. Conditions: those that each theorem names. -/
namespace Go.Proofs.Ytakdkocobcicdaa
open Go.RowKit
set_option linter.unusedVariables false
set_option maxRecDepth 100000

set_option maxHeartbeats 8000000 in
theorem eqf_tr {S T : Nat → Prop} {q1' q2' : Nat} (w : World) {A B : Option Addr} {cap cb n m : Nat} {l k : List Tr} (h : KsAt S q1' w A cap l) (h' : KsAt T q2' w B cb k) (hn : n = l.length) (hm : m = k.length) (kf : Nat) (p : Addr) (henter : Enters Try.prog kf)
    (hp : ∀ (i : Nat) x y, l[i]? = some x → k[i]? = some y → ∀ cx cy u, trR S q1' u cx x → trR T q2' u cy y → Below w.heap.size w u → Calls Try.prog kf #[.agg cx.toArray, .agg cy.toArray, .pointer (some p)] u (SmTo u (x = y))) :
    Calls Try.prog 25 #[.slice A n cap, .slice B m cb, .func (.func kf) #[] #[.pointer (some p)]] w (SmTo w (l = k)) := by
  have q1 := h.l_le
  have q2 := h.l_max
  have q3 := h'.l_le
  have q4 := h'.l_max
  rw [← hn] at q1
  rw [← hm] at q3
  unfold maxLen at q2 q4
  have hent : ∀ (args : Array Value) (w : World), (callFunc kf args).run Try.prog w = .ok (.enter kf args) w := henter
  have HA := Lib.hid h
  have HB := Lib.hid h'
  have HN := Lib.hid hn
  have HM := Lib.hid hm
  have HP := Lib.hid hp
  by_cases hl : n = m
  · subst hl
    clear h h' hn hm hp henter
    go_enter Try.func25, Try.ntmps25
    go_wp2
    go_loopg [7, 8, 9, 17] n (fun gz u v t x0 wr => ∃ i : Nat, x0 = .int .i64 (i : Int) ∧ i + gz = n ∧ (∀ (j : Nat) x y, j < i → l[j]? = some x → k[j]? = some y → x = y) ∧ Below w.heap.size w wr)
    case atStart => exact ⟨0, rfl, by omega, fun j x y hj => absurd hj (Nat.not_lt_zero _), Below.refl _ _⟩
    case round =>
     obtain ⟨i, rfl, hi, hall, hbel⟩ := hrel
     have HALL := Lib.hid hall
     have HBL := Lib.hid hbel
     clear hall hbel
     obtain ⟨g0, hg0⟩ : ∃ g0, g0 = gk := ⟨_, rfl⟩
     subst hg0
     by_cases hlti : i < n
     ·
      have ti : decide ((i : Int) < (n : Int)) = true := decide_eq_true (by omega)
      obtain ⟨x, hx⟩ : ∃ x, l[i]? = some x := ⟨_, List.getElem?_eq_getElem (by have := HN.out; omega)⟩
      obtain ⟨y, hy⟩ : ∃ y, k[i]? = some y := ⟨_, List.getElem?_eq_getElem (by have := HM.out; omega)⟩
      have HXI := Lib.hid hx
      have HYI := Lib.hid hy
      obtain ⟨m1, gf, of, A1, n1, c1, A2, n2, c2, hm1, rfl, _, hcf, hl1⟩ := kid_at HA.out hx
      obtain ⟨m2, gg, og, B1, k1, d1, B2, k2, d2, hm2, rfl, _, hcg, hl2⟩ := kid_at HB.out hy
      have HCK := Lib.hid (fun u (hb : Below w.heap.size w u) => HP.out i x y hx hy [.slice A1 n1 c1, .slice A2 n2 c2] [.slice B1 k1 d1, .slice B2 k2 d2] u (by rw [hm1]; exact ⟨_, _, _, _, _, _, rfl, trAt_bel hl1 hb⟩) (by rw [hm2]; exact ⟨_, _, _, _, _, _, rfl, trAt_bel hl2 hb⟩) hb)
      obtain ⟨p0, p1⟩ := hcf _ (stay_bel HBL.out)
      obtain ⟨r0, r1⟩ := hcg _ (stay_bel HBL.out)
      have ra := fun o => (hcg _ (stay_bel (HBL.out.alloc HBL.out.size o))).1
      have rb := fun o => (hcg _ (stay_bel (HBL.out.alloc HBL.out.size o))).2
      clear hx hy hcf hcg hl1 hl2 hm1 hm2
      have HB2 : Hid (∀ o p, Below w.heap.size w ((wr.alloc o).alloc p)) := Lib.hid (fun o p => (HBL.out.alloc HBL.out.size o).alloc (HBL.out.alloc HBL.out.size o).size p)
      go_wp2_with (go_at_fn kf; refine (HCK.out _ (HB2.out _ _)).mono ?_; rintro e w2 ⟨r, rfl, hr, hb⟩; have HR := Lib.hid hr; have HB3 := Lib.hid (bel_more (HB2.out _ _) hb); clear hb hr; cases r)
      · have HO : Hid (¬ l = k) := Lib.hid (lists_ne HXI.out HYI.out (tells_not HR.out))
        (try go_wp2)
        go_ret
        exact ⟨false, rfl, tells_no HO.out, HB3.out⟩
      · (try go_wp2)
        go_roundg (g0 - 1)
        case measure => omega
        case rel => exact ⟨i + 1, by go_num, by omega, (fun j x y hj hx hy => by
                            by_cases hji : j < i
                            · exact HALL.out j x y hji hx hy
                            · have : j = i := by omega
                              subst this
                              have e1 := HXI.out.symm.trans hx
                              have e2 := HYI.out.symm.trans hy
                              injection e1 with e1
                              injection e2 with e2
                              rw [← e1, ← e2]
                              exact tells_is HR.out), HB3.out⟩
     · have ti : decide ((i : Int) < (n : Int)) = false := decide_eq_false (by omega)
       have HO : Hid (l = k) := Lib.hid (lists_eq (by have := HN.out; have := HM.out; omega) (fun j x y hx hy => HALL.out j x y (by have := (List.getElem?_eq_some_iff.mp hx).1; have := HN.out; omega) hx hy))
       go_wp2
       go_ret
       exact ⟨true, rfl, tells_yes HO.out, HBL.out⟩
  · have t3 : ((n : Int) == (m : Int)) = false := beq_false_of_ne (by omega)
    have t4 : ((n : Int) != (m : Int)) = true := by simp; omega
    have t5 : ¬ n = m := hl
    have HO : Hid (¬ l = k) := Lib.hid (fun e => hl (by rw [hn, hm, e]))
    clear h h' hn hm hp
    go_enter Try.func25, Try.ntmps25
    go_wp2
    go_ret
    exact ⟨false, rfl, tells_no HO.out, Below.refl _ _⟩

set_option maxHeartbeats 8000000 in
theorem eqf_va {S T : Nat → Prop} {q1' q2' : Nat} (w : World) {A B : Option Addr} {cap cb n m : Nat} {l k : List Va} (h : VsAt S q1' w A cap l) (h' : VsAt T q2' w B cb k) (hn : n = l.length) (hm : m = k.length) (kf : Nat) (p : Addr) (henter : Enters Try.prog kf)
    (hp : ∀ (i : Nat) x y, l[i]? = some x → k[i]? = some y → ∀ cx cy u, vaR (trR S q1') S u cx x → vaR (trR T q2') T u cy y → Below w.heap.size w u → Calls Try.prog kf #[.agg cx.toArray, .agg cy.toArray, .pointer (some p)] u (SmTo u (x = y))) :
    Calls Try.prog 27 #[.slice A n cap, .slice B m cb, .func (.func kf) #[] #[.pointer (some p)]] w (SmTo w (l = k)) := by
  have q1 := h.l_le
  have q2 := h.l_max
  have q3 := h'.l_le
  have q4 := h'.l_max
  rw [← hn] at q1
  rw [← hm] at q3
  unfold maxLen at q2 q4
  have hent : ∀ (args : Array Value) (w : World), (callFunc kf args).run Try.prog w = .ok (.enter kf args) w := henter
  have HA := Lib.hid h
  have HB := Lib.hid h'
  have HN := Lib.hid hn
  have HM := Lib.hid hm
  have HP := Lib.hid hp
  by_cases hl : n = m
  · subst hl
    clear h h' hn hm hp henter
    go_enter Try.func27, Try.ntmps27
    go_wp2
    go_loopg [7, 8, 9, 17] n (fun gz u v t x0 wr => ∃ i : Nat, x0 = .int .i64 (i : Int) ∧ i + gz = n ∧ (∀ (j : Nat) x y, j < i → l[j]? = some x → k[j]? = some y → x = y) ∧ Below w.heap.size w wr)
    case atStart => exact ⟨0, rfl, by omega, fun j x y hj => absurd hj (Nat.not_lt_zero _), Below.refl _ _⟩
    case round =>
     obtain ⟨i, rfl, hi, hall, hbel⟩ := hrel
     have HALL := Lib.hid hall
     have HBL := Lib.hid hbel
     clear hall hbel
     obtain ⟨g0, hg0⟩ : ∃ g0, g0 = gk := ⟨_, rfl⟩
     subst hg0
     by_cases hlti : i < n
     ·
      have ti : decide ((i : Int) < (n : Int)) = true := decide_eq_true (by omega)
      obtain ⟨x, hx⟩ : ∃ x, l[i]? = some x := ⟨_, List.getElem?_eq_getElem (by have := HN.out; omega)⟩
      obtain ⟨y, hy⟩ : ∃ y, k[i]? = some y := ⟨_, List.getElem?_eq_getElem (by have := HM.out; omega)⟩
      have HXI := Lib.hid hx
      have HYI := Lib.hid hy
      obtain ⟨gf, of, A1, c1, rfl, _, hcf, hl1⟩ := va_at HA.out hx
      obtain ⟨gg, og, B1, d1, rfl, _, hcg, hl2⟩ := va_at HB.out hy
      have HCK := Lib.hid (fun u (hb : Below w.heap.size w u) => HP.out i x y hx hy [.int .u64 (x.vn : Int), .string (strOf x.vs), .slice A1 x.vm.length c1] [.int .u64 (y.vn : Int), .string (strOf y.vs), .slice B1 y.vm.length d1] u ⟨A1, c1, rfl, ksAt_bel hl1 hb⟩ ⟨B1, d1, rfl, ksAt_bel hl2 hb⟩ hb)
      obtain ⟨n1, hn1⟩ : ∃ z, z = x.vm.length := ⟨_, rfl⟩
      obtain ⟨n2, hn2⟩ : ∃ z, z = y.vm.length := ⟨_, rfl⟩
      obtain ⟨s1, hs1⟩ : ∃ z, z = strOf x.vs := ⟨_, rfl⟩
      obtain ⟨s2, hs2⟩ : ∃ z, z = strOf y.vs := ⟨_, rfl⟩
      obtain ⟨v1, hv1⟩ : ∃ z, z = (x.vn : Int) := ⟨_, rfl⟩
      obtain ⟨v2, hv2⟩ : ∃ z, z = (y.vn : Int) := ⟨_, rfl⟩
      rw [← hn1, ← hs1, ← hv1] at hcf
      rw [← hn2, ← hs2, ← hv2] at hcg
      rw [← hn1, ← hs1, ← hv1, ← hn2, ← hs2, ← hv2] at HCK
      obtain ⟨p0, p1, p2⟩ := hcf _ (stay_bel HBL.out)
      obtain ⟨r0, r1, r2⟩ := hcg _ (stay_bel HBL.out)
      have ra := fun o => (hcg _ (stay_bel (HBL.out.alloc HBL.out.size o))).1
      have rb := fun o => (hcg _ (stay_bel (HBL.out.alloc HBL.out.size o))).2.1
      have rc := fun o => (hcg _ (stay_bel (HBL.out.alloc HBL.out.size o))).2.2
      clear hx hy hcf hcg hl1 hl2 hn1 hn2 hs1 hs2 hv1 hv2
      have HB2 : Hid (∀ o p, Below w.heap.size w ((wr.alloc o).alloc p)) := Lib.hid (fun o p => (HBL.out.alloc HBL.out.size o).alloc (HBL.out.alloc HBL.out.size o).size p)
      go_wp2_with (go_at_fn kf; refine (HCK.out _ (HB2.out _ _)).mono ?_; rintro e w2 ⟨r, rfl, hr, hb⟩; have HR := Lib.hid hr; have HB3 := Lib.hid (bel_more (HB2.out _ _) hb); clear hb hr; cases r)
      · have HO : Hid (¬ l = k) := Lib.hid (lists_ne HXI.out HYI.out (tells_not HR.out))
        (try go_wp2)
        go_ret
        exact ⟨false, rfl, tells_no HO.out, HB3.out⟩
      · (try go_wp2)
        go_roundg (g0 - 1)
        case measure => omega
        case rel => exact ⟨i + 1, by go_num, by omega, (fun j x y hj hx hy => by
                            by_cases hji : j < i
                            · exact HALL.out j x y hji hx hy
                            · have : j = i := by omega
                              subst this
                              have e1 := HXI.out.symm.trans hx
                              have e2 := HYI.out.symm.trans hy
                              injection e1 with e1
                              injection e2 with e2
                              rw [← e1, ← e2]
                              exact tells_is HR.out), HB3.out⟩
     · have ti : decide ((i : Int) < (n : Int)) = false := decide_eq_false (by omega)
       have HO : Hid (l = k) := Lib.hid (lists_eq (by have := HN.out; have := HM.out; omega) (fun j x y hx hy => HALL.out j x y (by have := (List.getElem?_eq_some_iff.mp hx).1; have := HN.out; omega) hx hy))
       go_wp2
       go_ret
       exact ⟨true, rfl, tells_yes HO.out, HBL.out⟩
  · have t3 : ((n : Int) == (m : Int)) = false := beq_false_of_ne (by omega)
    have t4 : ((n : Int) != (m : Int)) = true := by simp; omega
    have t5 : ¬ n = m := hl
    have HO : Hid (¬ l = k) := Lib.hid (fun e => hl (by rw [hn, hm, e]))
    clear h h' hn hm hp
    go_enter Try.func27, Try.ntmps27
    go_wp2
    go_ret
    exact ⟨false, rfl, tells_no HO.out, Below.refl _ _⟩

set_option maxHeartbeats 8000000 in
theorem eqf_sl {S T : Nat → Prop} {q1' q2' : Nat} (w : World) {A B : Option Addr} {cap cb n m : Nat} {l k : List Slt} (h : Lst 2 S (slR (trR S q1') S) w A cap l) (h' : Lst 2 T (slR (trR T q2') T) w B cb k) (hn : n = l.length) (hm : m = k.length) (kf : Nat) (p : Addr) (henter : Enters Try.prog kf)
    (hp : ∀ (i : Nat) x y, l[i]? = some x → k[i]? = some y → ∀ cx cy u, slR (trR S q1') S u cx x → slR (trR T q2') T u cy y → Below w.heap.size w u → Calls Try.prog kf #[.agg cx.toArray, .agg cy.toArray, .pointer (some p)] u (SmTo u (x = y))) :
    Calls Try.prog 29 #[.slice A n cap, .slice B m cb, .func (.func kf) #[] #[.pointer (some p)]] w (SmTo w (l = k)) := by
  have q1 := h.l_le
  have q2 := h.l_max
  have q3 := h'.l_le
  have q4 := h'.l_max
  rw [← hn] at q1
  rw [← hm] at q3
  unfold maxLen at q2 q4
  have hent : ∀ (args : Array Value) (w : World), (callFunc kf args).run Try.prog w = .ok (.enter kf args) w := henter
  have HA := Lib.hid h
  have HB := Lib.hid h'
  have HN := Lib.hid hn
  have HM := Lib.hid hm
  have HP := Lib.hid hp
  by_cases hl : n = m
  · subst hl
    clear h h' hn hm hp henter
    go_enter Try.func29, Try.ntmps29
    go_wp2
    go_loopg [7, 8, 9, 17] n (fun gz u v t x0 wr => ∃ i : Nat, x0 = .int .i64 (i : Int) ∧ i + gz = n ∧ (∀ (j : Nat) x y, j < i → l[j]? = some x → k[j]? = some y → x = y) ∧ Below w.heap.size w wr)
    case atStart => exact ⟨0, rfl, by omega, fun j x y hj => absurd hj (Nat.not_lt_zero _), Below.refl _ _⟩
    case round =>
     obtain ⟨i, rfl, hi, hall, hbel⟩ := hrel
     have HALL := Lib.hid hall
     have HBL := Lib.hid hbel
     clear hall hbel
     obtain ⟨g0, hg0⟩ : ∃ g0, g0 = gk := ⟨_, rfl⟩
     subst hg0
     by_cases hlti : i < n
     ·
      have ti : decide ((i : Int) < (n : Int)) = true := decide_eq_true (by omega)
      obtain ⟨x, hx⟩ : ∃ x, l[i]? = some x := ⟨_, List.getElem?_eq_getElem (by have := HN.out; omega)⟩
      obtain ⟨y, hy⟩ : ∃ y, k[i]? = some y := ⟨_, List.getElem?_eq_getElem (by have := HM.out; omega)⟩
      have HXI := Lib.hid hx
      have HYI := Lib.hid hy
      obtain ⟨gf, of, A1, c1, rfl, _, hcf, hl1⟩ := sl_at HA.out hx
      obtain ⟨gg, og, B1, d1, rfl, _, hcg, hl2⟩ := sl_at HB.out hy
      have HCK := Lib.hid (fun u (hb : Below w.heap.size w u) => HP.out i x y hx hy [.int .i64 x.snum, .slice A1 x.svals.length c1] [.int .i64 y.snum, .slice B1 y.svals.length d1] u ⟨A1, c1, rfl, vsAt_bel hl1 hb⟩ ⟨B1, d1, rfl, vsAt_bel hl2 hb⟩ hb)
      obtain ⟨n1, hn1⟩ : ∃ z, z = x.svals.length := ⟨_, rfl⟩
      obtain ⟨n2, hn2⟩ : ∃ z, z = y.svals.length := ⟨_, rfl⟩
      obtain ⟨v1, hv1⟩ : ∃ z, z = x.snum := ⟨_, rfl⟩
      obtain ⟨v2, hv2⟩ : ∃ z, z = y.snum := ⟨_, rfl⟩
      rw [← hn1, ← hv1] at hcf
      rw [← hn2, ← hv2] at hcg
      rw [← hn1, ← hv1, ← hn2, ← hv2] at HCK
      obtain ⟨p0, p1⟩ := hcf _ (stay_bel HBL.out)
      obtain ⟨r0, r1⟩ := hcg _ (stay_bel HBL.out)
      have ra := fun o => (hcg _ (stay_bel (HBL.out.alloc HBL.out.size o))).1
      have rb := fun o => (hcg _ (stay_bel (HBL.out.alloc HBL.out.size o))).2
      clear hx hy hcf hcg hl1 hl2 hn1 hn2 hv1 hv2
      have HB2 : Hid (∀ o p, Below w.heap.size w ((wr.alloc o).alloc p)) := Lib.hid (fun o p => (HBL.out.alloc HBL.out.size o).alloc (HBL.out.alloc HBL.out.size o).size p)
      go_wp2_with (go_at_fn kf; refine (HCK.out _ (HB2.out _ _)).mono ?_; rintro e w2 ⟨r, rfl, hr, hb⟩; have HR := Lib.hid hr; have HB3 := Lib.hid (bel_more (HB2.out _ _) hb); clear hb hr; cases r)
      · have HO : Hid (¬ l = k) := Lib.hid (lists_ne HXI.out HYI.out (tells_not HR.out))
        (try go_wp2)
        go_ret
        exact ⟨false, rfl, tells_no HO.out, HB3.out⟩
      · (try go_wp2)
        go_roundg (g0 - 1)
        case measure => omega
        case rel => exact ⟨i + 1, by go_num, by omega, (fun j x y hj hx hy => by
                            by_cases hji : j < i
                            · exact HALL.out j x y hji hx hy
                            · have : j = i := by omega
                              subst this
                              have e1 := HXI.out.symm.trans hx
                              have e2 := HYI.out.symm.trans hy
                              injection e1 with e1
                              injection e2 with e2
                              rw [← e1, ← e2]
                              exact tells_is HR.out), HB3.out⟩
     · have ti : decide ((i : Int) < (n : Int)) = false := decide_eq_false (by omega)
       have HO : Hid (l = k) := Lib.hid (lists_eq (by have := HN.out; have := HM.out; omega) (fun j x y hx hy => HALL.out j x y (by have := (List.getElem?_eq_some_iff.mp hx).1; have := HN.out; omega) hx hy))
       go_wp2
       go_ret
       exact ⟨true, rfl, tells_yes HO.out, HBL.out⟩
  · have t3 : ((n : Int) == (m : Int)) = false := beq_false_of_ne (by omega)
    have t4 : ((n : Int) != (m : Int)) = true := by simp; omega
    have t5 : ¬ n = m := hl
    have HO : Hid (¬ l = k) := Lib.hid (fun e => hl (by rw [hn, hm, e]))
    clear h h' hn hm hp
    go_enter Try.func29, Try.ntmps29
    go_wp2
    go_ret
    exact ⟨false, rfl, tells_no HO.out, Below.refl _ _⟩

/-- The three closures of Same, each in its box. -/
structure ClAt (p q r : Nat) (u : World) : Prop where
  c_same : u.heap[p]? = some (.cells #[.func (.func 28) #[] #[.pointer (some ⟨r, 0, none⟩)]] 28 (0, 0))
  c_val : u.heap[q]? = some (.cells #[.func (.func 24) #[] #[.pointer (some ⟨p, 0, none⟩)]] 47 (0, 0))
  c_slot : u.heap[r]? = some (.cells #[.func (.func 26) #[] #[.pointer (some ⟨q, 0, none⟩)]] 49 (0, 0))
theorem cl_bel {p q r : Nat} {u u' : World} (h : ClAt p q r u) (hb : Below u.heap.size u u') : ClAt p q r u' :=
  ⟨(hb.block _ (lt_of_block h.c_same)).trans h.c_same, (hb.block _ (lt_of_block h.c_val)).trans h.c_val, (hb.block _ (lt_of_block h.c_slot)).trans h.c_slot⟩
def PSame (n : Nat) : Prop := ∀ (p q r : Nat) (S S' : Nat → Prop) (m : Nat) (w : World) (A : Option Addr) (na ca : Nat) (A2 : Option Addr) (nr cr : Nat) (B : Option Addr) (nb cb : Nat) (B2 : Option Addr) (ns cs : Nat) (x y : Tr),
  ClAt p q r w → TrAt S n w A na ca A2 nr cr x → TrAt S' m w B nb cb B2 ns cs y → Calls Try.prog 28 #[.agg #[.slice A na ca, .slice A2 nr cr], .agg #[.slice B nb cb, .slice B2 ns cs], .pointer (some ⟨r, 0, none⟩)] w (SmTo w (x = y))

set_option maxHeartbeats 8000000 in
theorem psval_any {S T : Nat → Prop} {n m p q r : Nat} (H : ∀ k, n = k + 1 → PSame k) (w : World) {x y : Va} {cx cy : List Value} (hx : vaR (trR S n) S w cx x) (hy : vaR (trR T m) T w cy y) (hcl : ClAt p q r w) :
    Calls Try.prog 24 #[.agg cx.toArray, .agg cy.toArray, .pointer (some ⟨p, 0, none⟩)] w (SmTo w (x = y)) := by
  obtain ⟨A, ca, rfl, hA⟩ := hx
  obtain ⟨B, cb, rfl, hB⟩ := hy
  obtain ⟨xn, xs, xm⟩ := x
  obtain ⟨yn, ys, ym⟩ := y
  dsimp only at hA hB ⊢
  obtain ⟨la, hla⟩ : ∃ z, z = xm.length := ⟨_, rfl⟩
  obtain ⟨lb, hlb⟩ : ∃ z, z = ym.length := ⟨_, rfl⟩
  rw [← hla, ← hlb]
  show Calls _ _ #[.agg #[.int .u64 (xn : Int), .string (strOf xs), .slice A la ca], .agg #[.int .u64 (yn : Int), .string (strOf ys), .slice B lb cb], .pointer (some ⟨p, 0, none⟩)] w _
  have q1 := hA.l_le
  have q2 := hA.l_max
  have q3 := hB.l_le
  have q4 := hB.l_max
  rw [← hla] at q1
  rw [← hlb] at q3
  unfold maxLen at q2 q4
  have HCL := Lib.hid hcl
  have HE := Lib.hid (fun u (hb : Below w.heap.size w u) => eqf_tr u (ksAt_bel hA hb) (ksAt_bel hB hb) hla hlb 28 ⟨r, 0, none⟩ (fun _ _ => rfl) (fun i x y hx hy cx cy v hcx hcy hv => by
    match n, hcx with
    | n + 1, ⟨A1, n1, c1, A2, n2, c2, e1, h1⟩ =>
      match m, hcy with
      | m + 1, ⟨B1, k1, d1, B2, k2, d2, e2, h2⟩ =>
        subst e1
        subst e2
        exact H n rfl p q r S T m v A1 n1 c1 A2 n2 c2 B1 k1 d1 B2 k2 d2 x y (cl_bel (cl_bel hcl hb) hv) h1 h2))
  have HBX := Lib.hid (bx2_start w #[.int .u64 (xn : Int), .string (strOf xs), .slice A la ca] #[.int .u64 (yn : Int), .string (strOf ys), .slice B lb cb] 45 45)
  have r0 := obj_cell (HBX.out).b2_one 0
  have s0 := obj_cell (HBX.out).b2_two 0
  have r1 := obj_cell (HBX.out).b2_one 1
  have s1 := obj_cell (HBX.out).b2_two 1
  have r2 := obj_cell (HBX.out).b2_one 2
  have s2 := obj_cell (HBX.out).b2_two 2
  have k0 := obj_cell (cl_bel hcl HBX.out.b2_bel).c_same 0
  clear hA hB hla hlb hcl H
  by_cases e1 : xn = yn
  · subst e1
    by_cases e2 : xs = ys
    · subst e2
      obtain ⟨st, hst⟩ : ∃ z, z = strOf xs := ⟨_, rfl⟩
      rw [← hst] at HBX r0 r1 r2 s0 s1 s2 k0 ⊢
      clear hst
      go_enter Try.func24, Try.ntmps24
      go_wp2_with (go_at_call 25; refine (HE.out _ HBX.out.b2_bel).mono ?_; rintro e w2 ⟨r, rfl, hr, hb⟩; have HR := Lib.hid hr; have HB2 := Lib.hid (bel_more HBX.out.b2_bel hb); clear hr hb)
      go_ret
      exact ⟨r, rfl, ⟨fun h => by rw [HR.out.1 h], fun h => HR.out.2 (by injection h)⟩, HB2.out⟩
    · have t1 : ((strOf xs).toList == (strOf ys).toList) = false := by rw [strs_same]; exact decide_eq_false e2
      have t2 : ¬ (strOf xs).toList = (strOf ys).toList := by intro h; rw [h, beq_self_eq_true] at t1; cases t1
      have HO : Hid (¬ (⟨xn, xs, xm⟩ : Va) = ⟨xn, ys, ym⟩) := Lib.hid (fun h => e2 (by injection h))
      obtain ⟨ssx, hsx⟩ : ∃ z, z = strOf xs := ⟨_, rfl⟩
      obtain ⟨ssy, hsy⟩ : ∃ z, z = strOf ys := ⟨_, rfl⟩
      rw [← hsx, ← hsy] at t1 t2 HBX r0 r1 r2 s0 s1 s2 k0 ⊢
      clear hsx hsy
      go_enter Try.func24, Try.ntmps24
      go_wp2
      go_ret
      exact ⟨false, rfl, tells_no HO.out, HBX.out.b2_bel⟩
  · have t1 : ((xn : Int) == (yn : Int)) = false := beq_false_of_ne (by omega)
    have HO : Hid (¬ (⟨xn, xs, xm⟩ : Va) = ⟨yn, ys, ym⟩) := Lib.hid (fun h => e1 (by injection h))
    go_enter Try.func24, Try.ntmps24
    go_wp2
    go_ret
    exact ⟨false, rfl, tells_no HO.out, HBX.out.b2_bel⟩

set_option maxHeartbeats 8000000 in
theorem psslot_any {S T : Nat → Prop} {n m p q r : Nat} (H : ∀ k, n = k + 1 → PSame k) (w : World) {x y : Slt} {cx cy : List Value} (hx : slR (trR S n) S w cx x) (hy : slR (trR T m) T w cy y) (hcl : ClAt p q r w) :
    Calls Try.prog 26 #[.agg cx.toArray, .agg cy.toArray, .pointer (some ⟨q, 0, none⟩)] w (SmTo w (x = y)) := by
  obtain ⟨A, ca, rfl, hA⟩ := hx
  obtain ⟨B, cb, rfl, hB⟩ := hy
  obtain ⟨xn, xv⟩ := x
  obtain ⟨yn, yv⟩ := y
  dsimp only at hA hB ⊢
  obtain ⟨la, hla⟩ : ∃ z, z = xv.length := ⟨_, rfl⟩
  obtain ⟨lb, hlb⟩ : ∃ z, z = yv.length := ⟨_, rfl⟩
  rw [← hla, ← hlb]
  show Calls _ _ #[.agg #[.int .i64 xn, .slice A la ca], .agg #[.int .i64 yn, .slice B lb cb], .pointer (some ⟨q, 0, none⟩)] w _
  have q1 := hA.l_le
  have q2 := hA.l_max
  have q3 := hB.l_le
  have q4 := hB.l_max
  rw [← hla] at q1
  rw [← hlb] at q3
  unfold maxLen at q2 q4
  have HE := Lib.hid (fun u (hb : Below w.heap.size w u) => eqf_va u (vsAt_bel hA hb) (vsAt_bel hB hb) hla hlb 24 ⟨p, 0, none⟩ (fun _ _ => rfl) (fun i x y hx hy cx cy v hcx hcy hv => psval_any H v hcx hcy (cl_bel (cl_bel hcl hb) hv)))
  have HBX := Lib.hid (bx2_start w #[.int .i64 xn, .slice A la ca] #[.int .i64 yn, .slice B lb cb] 32 32)
  have r0 := obj_cell (HBX.out).b2_one 0
  have s0 := obj_cell (HBX.out).b2_two 0
  have r1 := obj_cell (HBX.out).b2_one 1
  have s1 := obj_cell (HBX.out).b2_two 1
  have k0 := obj_cell (cl_bel hcl HBX.out.b2_bel).c_val 0
  clear hA hB hla hlb hcl H
  by_cases e1 : xn = yn
  · subst e1
    go_enter Try.func26, Try.ntmps26
    go_wp2_with (go_at_call 27; refine (HE.out _ HBX.out.b2_bel).mono ?_; rintro e w2 ⟨r, rfl, hr, hb⟩; have HR := Lib.hid hr; have HB2 := Lib.hid (bel_more HBX.out.b2_bel hb); clear hr hb)
    go_ret
    exact ⟨r, rfl, ⟨fun h => by rw [HR.out.1 h], fun h => HR.out.2 (by injection h)⟩, HB2.out⟩
  · have t1 : (xn == yn) = false := beq_false_of_ne e1
    have HO : Hid (¬ (⟨xn, xv⟩ : Slt) = ⟨yn, yv⟩) := Lib.hid (fun h => e1 (by injection h))
    go_enter Try.func26, Try.ntmps26
    go_wp2
    go_ret
    exact ⟨false, rfl, tells_no HO.out, HBX.out.b2_bel⟩

set_option maxHeartbeats 8000000 in
theorem pssame_step {n : Nat} (H : ∀ k, n = k + 1 → PSame k) : PSame n := by
  intro p q r S T m w A na ca A2 nr cr B nb cb B2 ns cs x y hcl h h'
  obtain ⟨q1, q2, q3, q4⟩ := trAt_max h
  obtain ⟨p1, p2, p3, p4⟩ := trAt_max h'
  have HE := Lib.hid (fun u (hb : Below w.heap.size w u) => eqf_sl u (trAt_bel h hb).t_s (trAt_bel h' hb).t_s h.t_ns h'.t_ns 26 ⟨q, 0, none⟩ (fun _ _ => rfl) (fun i x y hx hy cx cy v hcx hcy hv => psslot_any H v hcx hcy (cl_bel (cl_bel hcl hb) hv)))
  have HW : Hid (∀ u, Below w.heap.size w u → Calls Try.prog 30 #[.slice A2 nr cr, .slice B2 ns cs] u (SmTo u (x.rest = y.rest))) :=
    Lib.hid (fun u hb => (same_raw u (raws_of (trAt_bel h hb).t_r) (raws_of (trAt_bel h' hb).t_r) h.t_nr h'.t_nr).mono fun e w' h => ⟨_, h.1, sameR_iff _ _, by obtain ⟨k, rfl⟩ := h.2; exact drewN_under u k⟩)
  have HBX := Lib.hid (bx2_start w #[.slice A na ca, .slice A2 nr cr] #[.slice B nb cb, .slice B2 ns cs] 25 25)
  have r0 := obj_cell (HBX.out).b2_one 0
  have s0 := obj_cell (HBX.out).b2_two 0
  have k0 := obj_cell (cl_bel hcl HBX.out.b2_bel).c_slot 0
  clear h h' hcl H
  go_enter Try.func28, Try.ntmps28
  go_wp2_with (first
    | (go_at_call 29; refine (HE.out _ HBX.out.b2_bel).mono ?_; rintro e w2 ⟨b1, rfl, hr, hb⟩; have HR := Lib.hid hr; replace HBX := Lib.hid (bx2_step HBX.out hb); have r1 := obj_cell (HBX.out).b2_one 1; have s1 := obj_cell (HBX.out).b2_two 1; clear hr hb; cases b1)
    | (go_at_call 30; refine (HW.out _ HBX.out.b2_bel).mono ?_; rintro e w3 ⟨b2, rfl, hr, hb⟩; have HR2 := Lib.hid hr; replace HBX := Lib.hid (bx2_step HBX.out hb); clear hr hb))
  · have HO : Hid (¬ x = y) := Lib.hid (fun h => tells_not HR.out (by rw [h]))
    (try go_wp2)
    go_ret
    exact ⟨false, rfl, tells_no HO.out, HBX.out.b2_bel⟩
  · (try go_wp2_with (first
      | (go_at_call 30; refine (HW.out _ HBX.out.b2_bel).mono ?_; rintro e w3 ⟨b2, rfl, hr, hb⟩; have HR2 := Lib.hid hr; replace HBX := Lib.hid (bx2_step HBX.out hb); clear hr hb)))
    go_ret
    exact ⟨b2, rfl, ⟨fun h => tr_ext (tells_is HR.out) (HR2.out.1 h), fun h => HR2.out.2 (by rw [h])⟩, HBX.out.b2_bel⟩
theorem pssame_any : ∀ n, PSame n
  | 0 => pssame_step (fun q h => by cases h)
  | k + 1 => pssame_step (fun q h => by cases h; exact pssame_any k)

theorem chain3 (u : World) (a b c : Obj) : (((u.alloc a).alloc b).alloc c).heap[u.heap.size]? = some a ∧ (((u.alloc a).alloc b).alloc c).heap[u.heap.size + 1]? = some b ∧ (((u.alloc a).alloc b).alloc c).heap[u.heap.size + 1 + 1]? = some c := by
  have s1 : (u.alloc a).heap.size = u.heap.size + 1 := by simp
  have s2 : ((u.alloc a).alloc b).heap.size = u.heap.size + 1 + 1 := by simp
  refine ⟨?_, ?_, ?_⟩
  · rw [Below.heap_alloc _ _ _ (by omega), Below.heap_alloc _ _ _ (by omega), heap_alloc_new]
  · rw [Below.heap_alloc _ _ _ (by omega), ← s1, heap_alloc_new]
  · rw [← s2, heap_alloc_new]
theorem cl_new (w : World) (a b : Obj) : ClAt (w.heap.size + 1 + 1) (w.heap.size + 1 + 1 + 1) (w.heap.size + 1 + 1 + 1 + 1) (((((w.alloc a).alloc b).alloc (.cells #[.func (.func 28) #[] #[.pointer (some ⟨w.heap.size + 1 + 1 + 1 + 1, 0, none⟩)]] 28)).alloc (.cells #[.func (.func 24) #[] #[.pointer (some ⟨w.heap.size + 1 + 1, 0, none⟩)]] 47)).alloc (.cells #[.func (.func 26) #[] #[.pointer (some ⟨w.heap.size + 1 + 1 + 1, 0, none⟩)]] 49)) := by
  have hz : ((w.alloc a).alloc b).heap.size = w.heap.size + 1 + 1 := by simp
  obtain ⟨h1, h2, h3⟩ := chain3 ((w.alloc a).alloc b) (.cells #[.func (.func 28) #[] #[.pointer (some ⟨w.heap.size + 1 + 1 + 1 + 1, 0, none⟩)]] 28) (.cells #[.func (.func 24) #[] #[.pointer (some ⟨w.heap.size + 1 + 1, 0, none⟩)]] 47) (.cells #[.func (.func 26) #[] #[.pointer (some ⟨w.heap.size + 1 + 1 + 1, 0, none⟩)]] 49)
  rw [hz] at h1 h2 h3
  exact ⟨h1, h2, h3⟩
theorem bel_five (w : World) (a b c d e : Obj) : Below w.heap.size w (((((w.alloc a).alloc b).alloc c).alloc d).alloc e) := (((((Below.refl _ w).alloc (Nat.le_refl _) a).alloc (by simp) b).alloc (by simp; omega) c).alloc (by simp; omega) d).alloc (by simp; omega) e
set_option maxHeartbeats 8000000 in
theorem psame_any {S S' : Nat → Prop} {n m : Nat} (w : World) {A : Option Addr} {na ca : Nat} {A2 : Option Addr} {nr cr : Nat} {B : Option Addr} {nb cb : Nat} {B2 : Option Addr} {ns cs : Nat} {x y : Tr} (h : TrAt S n w A na ca A2 nr cr x) (h' : TrAt S' m w B nb cb B2 ns cs y) :
    Calls Try.prog 9 #[.agg #[.slice A na ca, .slice A2 nr cr], .agg #[.slice B nb cb, .slice B2 ns cs]] w (SmTo w (x = y)) := by
  have HCL := Lib.hid (cl_new w (.cells #[.slice A na ca, .slice A2 nr cr] 25) (.cells #[.slice B nb cb, .slice B2 ns cs] 25))
  have HBE := Lib.hid (bel_five w (.cells #[.slice A na ca, .slice A2 nr cr] 25) (.cells #[.slice B nb cb, .slice B2 ns cs] 25))
  have HS : Hid (∀ u p q r, ClAt p q r u → Below w.heap.size w u → Calls Try.prog 28 #[.agg #[.slice A na ca, .slice A2 nr cr], .agg #[.slice B nb cb, .slice B2 ns cs], .pointer (some ⟨r, 0, none⟩)] u (SmTo u (x = y))) := Lib.hid (fun u p q r hcl hb => pssame_any n p q r _ _ m u _ _ _ _ _ _ _ _ _ _ _ _ x y hcl (trAt_bel h hb) (trAt_bel h' hb))
  clear h h'
  go_enter Try.func9, Try.ntmps9
  go_wp2_with (go_at_call 28; refine (HS.out _ _ _ _ HCL.out (HBE.out _ _ _)).mono ?_; rintro e w2 ⟨r, rfl, hr, hb⟩; have HR := Lib.hid hr; have HB := Lib.hid (bel_more (HBE.out _ _ _) hb); clear hr hb)
  go_ret
  exact ⟨r, rfl, HR.out, HB.out⟩
end Go.Proofs.Ytakdkocobcicdaa

/- The program's Deep and Count of trees: one function goes through all trees, whatever is to be done with each. Conditions: those that each theorem names. -/
namespace Go.Proofs.Ytakdkocobcicdaa
open Go.RowKit
set_option linter.unusedVariables false
set_option maxRecDepth 100000

def numO (s : Nat) : Obj := .cells #[.int .i64 (s : Int)] 3 (0, 0)
/-- The two closures of 'through': what is done with each tree, and the one that calls itself. -/
structure ThAt (kv g pv pw : Nat) (u : World) : Prop where
  h_v : u.heap[pv]? = some (.cells #[.func (.func kv) #[] #[.pointer (some ⟨g, 0, none⟩)]] 53 (0, 0))
  h_w : u.heap[pw]? = some (.cells #[.func (.func 51) #[] #[.pointer (some ⟨pv, 0, none⟩), .pointer (some ⟨pw, 0, none⟩)]] 53 (0, 0))
  h_1 : pv ≠ g
  h_2 : pw ≠ g
theorem th_touch {kv g pv pw : Nat} {u u' : World} (h : ThAt kv g pv pw u) (ht : Touch (fun k => k = g) u u') : ThAt kv g pv pw u' :=
  ⟨(ht.block _ (lt_of_block h.h_v) h.h_1).trans h.h_v, (ht.block _ (lt_of_block h.h_w) h.h_2).trans h.h_w, h.h_1, h.h_2⟩
def VisOk (st : Nat → Tr → Nat → Nat) (kv g : Nat) : Prop := ∀ (S : Nat → Prop) (k : Nat) (w : World) (A : Option Addr) (na ca : Nat) (A2 : Option Addr) (nr cr : Nat) (t : Tr) (d s : Nat),
  w.heap[g]? = some (numO s) → (∀ b, S b → b ≠ g) → TrAt S k w A na ca A2 nr cr t → st s t d ≤ 1000 → s ≤ 1000 → d ≤ 1000 →
    Calls Try.prog kv #[.agg #[.slice A na ca, .slice A2 nr cr], .int .i64 (d : Int), .pointer (some ⟨g, 0, none⟩)] w fun e w' => e = .returned (.tuple #[]) ∧ w'.heap[g]? = some (numO (st s t d)) ∧ Touch (fun k => k = g) w w'
def WalkOk (st : Nat → Tr → Nat → Nat) (kv g k : Nat) : Prop := ∀ (pv pw : Nat) (S : Nat → Prop) (w : World) (A : Option Addr) (na ca : Nat) (A2 : Option Addr) (nr cr : Nat) (t : Tr) (d s : Nat),
  ThAt kv g pv pw w → w.heap[g]? = some (numO s) → (∀ b, S b → b ≠ g) → TrAt S k w A na ca A2 nr cr t → visN st (k + 1) s t d ≤ 1000 → d + deepN (k + 1) t ≤ 1000 →
    Calls Try.prog 51 #[.agg #[.slice A na ca, .slice A2 nr cr], .int .i64 (d : Int), .pointer (some ⟨pv, 0, none⟩), .pointer (some ⟨pw, 0, none⟩)] w fun e w' => e = .returned (.tuple #[]) ∧ w'.heap[g]? = some (numO (visN st (k + 1) s t d)) ∧ Touch (fun k => k = g) w w'
theorem kidsV_take {l : List Va} {i : Nat} {x : Va} (h : l[i]? = some x) : kidsV (l.take (i + 1)) = kidsV (l.take i) ++ x.vm := by
  unfold kidsV; rw [take_snoc' h, List.flatMap_append]; simp
theorem kidsS_take {l : List Slt} {i : Nat} {x : Slt} (h : l[i]? = some x) : kidsS (l.take (i + 1)) = kidsS (l.take i) ++ kidsV x.svals := by
  unfold kidsS; rw [take_snoc' h, List.flatMap_append]; simp
theorem kidsS_le {f : Nat → Tr → Nat} (hf : ∀ s x, s ≤ f s x) (l : List Slt) (i s : Nat) : (kidsS (l.take i)).foldl f s ≤ (kidsS l).foldl f s := by
  have e : kidsS l = kidsS (l.take i) ++ kidsS (l.drop i) := by unfold kidsS; rw [← List.flatMap_append, List.take_append_drop]
  rw [e, List.foldl_append]
  exact foldl_mono hf _ _
theorem kidsV_le {f : Nat → Tr → Nat} (hf : ∀ s x, s ≤ f s x) (l : List Va) (i s : Nat) : (kidsV (l.take i)).foldl f s ≤ (kidsV l).foldl f s := by
  have e : kidsV l = kidsV (l.take i) ++ kidsV (l.drop i) := by unfold kidsV; rw [← List.flatMap_append, List.take_append_drop]
  rw [e, List.foldl_append]
  exact foldl_mono hf _ _

set_option maxHeartbeats 16000000 in
theorem pwalk_step {st : Nat → Tr → Nat → Nat} (hst : ∀ s t d, s ≤ st s t d) {kv g k : Nat} (henter : Enters Try.prog kv) (HV : VisOk st kv g) (H : ∀ q, k = q + 1 → WalkOk st kv g q) : WalkOk st kv g k := by
  intro pv pw S w A na ca A2 nr cr t d s hth hs hS h hbd hdp
  obtain ⟨q1, q2, q3, q4⟩ := trAt_max h
  have hent : ∀ (args : Array Value) (w : World), (callFunc kv args).run Try.prog w = .ok (.enter kv args) w := henter
  obtain ⟨f, hf⟩ : ∃ f, f = (fun (s : Nat) (c : Tr) => visN st k s c (d + 1)) := ⟨_, rfl⟩
  have hfm : ∀ s x, s ≤ f s x := fun s x => by rw [hf]; exact visN_mono hst k s x (d + 1)
  have HTOT : Hid (visN st (k + 1) s t d = (kidsS t.slots).foldl f (st s t d)) := Lib.hid (by rw [hf]; rfl)
  obtain ⟨tot, htot⟩ : ∃ z, z = visN st (k + 1) s t d := ⟨_, rfl⟩
  rw [← htot] at hbd HTOT ⊢
  have hd0 : d ≤ 1000 := by omega
  have hd2 : 1 ≤ deepN (k + 1) t := by unfold deepN; omega
  have hd1 : d + 1 ≤ 1000 := by omega
  have HF := Lib.hid hf
  have HFM := Lib.hid hfm
  have HA := Lib.hid h
  have HTH := Lib.hid hth
  have HS := Lib.hid hS
  have HG := Lib.hid hs
  have HL := Lib.hid H
  have HDP := Lib.hid hdp
  have s1b : st s t d ≤ tot := by rw [HTOT.out]; exact foldl_mono hfm _ _
  obtain ⟨s1, hs1⟩ : ∃ z, z = st s t d := ⟨_, rfl⟩
  have hsb : s ≤ 1000 := Nat.le_trans (hst s t d) (by omega)
  have HVC : Hid (∀ u, Below w.heap.size w u → Calls Try.prog kv #[.agg #[.slice A na ca, .slice A2 nr cr], .int .i64 (d : Int), .pointer (some ⟨g, 0, none⟩)] u fun e w' => e = .returned (.tuple #[]) ∧ w'.heap[g]? = some (numO s1) ∧ Touch (fun k => k = g) u w') :=
    Lib.hid (fun u hb => by rw [hs1]; exact HV S k u _ _ _ _ _ _ t d s ((hb.block _ (lt_of_block hs)).trans hs) hS (trAt_bel h hb) (by omega) hsb hd0)
  rw [← hs1] at s1b HTOT
  have HBX := Lib.hid (bx_start w #[.slice A na ca, .slice A2 nr cr] 25)
  have r0 := obj_cell (HBX.out).b_blk 0
  have r1 := obj_cell (HBX.out).b_blk 1
  have v0 := obj_cell ((HBX.out.b_bel.block _ (lt_of_block hth.h_v)).trans hth.h_v) 0
  have HZB : Hid (w.heap.size ≠ g) := Lib.hid (by have := lt_of_block hs; omega)
  clear hf hfm htot h hth hS hs hs1 H hdp hsb HV hst
  go_enter Try.func51, Try.ntmps51
  go_wp2_with (go_at_fn kv; refine (HVC.out _ HBX.out.b_bel).mono ?_; rintro e w1 ⟨rfl, hg1, ht1⟩; have HG1 := Lib.hid hg1; have HT1 := Lib.hid ((Touch.of_below (fun k => k = g) HBX.out.b_bel).trans ht1 (fun _ h => .inl h)); have r0 := obj_cell ((ht1.block _ (lt_of_block HBX.out.b_blk) HZB.out).trans HBX.out.b_blk) 0; clear hg1 ht1)
  clear r0 r1 v0
  go_loopg [19] na (fun gz x0 wr => ∃ (i a : Nat), x0 = .int .i64 (i : Int) ∧ i + gz = na ∧ a = (kidsS (t.slots.take i)).foldl f s1 ∧ wr.heap[g]? = some (numO a) ∧ Touch (fun k => k = g) w wr)
  case atStart => exact ⟨0, s1, rfl, by omega, rfl, HG1.out, HT1.out⟩
  case round =>
    obtain ⟨i, a, rfl, hi, ha, hga, hta⟩ := hrel
    have HAV := Lib.hid ha
    have HGA := Lib.hid hga
    have HTA := Lib.hid hta
    clear ha hga hta
    obtain ⟨g1, hg1⟩ : ∃ g1, g1 = gk := ⟨_, rfl⟩
    subst hg1
    by_cases hlt : i < na
    · have ti : decide ((i : Int) < (na : Int)) = true := decide_eq_true (by omega)
      obtain ⟨x, hx⟩ : ∃ x, t.slots[i]? = some x := ⟨_, List.getElem?_eq_getElem (by have := HA.out.t_ns; omega)⟩
      obtain ⟨ga, oa, A1, c1, rfl, _, hc, hv⟩ := sl_at HA.out.t_s hx
      have z1 := hv.l_le
      have z2 := hv.l_max
      unfold maxLen at z2
      have HXM := Lib.hid (List.mem_of_getElem? hx)
      obtain ⟨nv, hnv⟩ : ∃ z, z = x.svals.length := ⟨_, rfl⟩
      obtain ⟨sn, hsn⟩ : ∃ z, z = x.snum := ⟨_, rfl⟩
      rw [← hnv, ← hsn] at hc
      rw [← hnv] at z1
      have HNV := Lib.hid hnv
      have HVV := Lib.hid hv
      obtain ⟨a0, a1⟩ := hc _ (stay_touch HTA.out HS.out)
      have HAN : Hid ((kidsS (t.slots.take (i + 1))).foldl f s1 = (kidsV x.svals).foldl f a) := Lib.hid (by rw [kidsS_take hx, List.foldl_append, HAV.out])
      have HAB : Hid ((kidsV x.svals).foldl f a ≤ tot) := Lib.hid (by rw [← HAN.out, HTOT.out]; exact kidsS_le HFM.out _ _ _)
      have HT2 : Hid (∀ o, Touch (fun k => k = g) w (wr.alloc o)) := Lib.hid (fun o => HTA.out.alloc o)
      have HG2 : Hid (∀ o, (wr.alloc o).heap[g]? = some (numO a)) := Lib.hid (fun o => (Below.heap_alloc _ _ _ (lt_of_block HGA.out)).trans HGA.out)
      clear hx hc hv hnv hsn
      go_wp2
      clear a0 a1
      go_loopg [26] nv (fun gz x0 wr => ∃ (j b : Nat), x0 = .int .i64 (j : Int) ∧ j + gz = nv ∧ b = (kidsV (x.svals.take j)).foldl f a ∧ wr.heap[g]? = some (numO b) ∧ Touch (fun k => k = g) w wr)
      case atStart => exact ⟨0, a, rfl, by omega, rfl, HG2.out _, HT2.out _⟩
      case round =>
        obtain ⟨j, b, rfl, hj, hb, hgb, htb⟩ := hrel
        have HBV := Lib.hid hb
        have HGB := Lib.hid hgb
        have HTB := Lib.hid htb
        clear hb hgb htb
        obtain ⟨g2, hg2⟩ : ∃ g2, g2 = gk := ⟨_, rfl⟩
        subst hg2
        by_cases hltj : j < nv
        · have tj : decide ((j : Int) < (nv : Int)) = true := decide_eq_true (by omega)
          obtain ⟨v, hv⟩ : ∃ v, x.svals[j]? = some v := ⟨_, List.getElem?_eq_getElem (by have := HNV.out; omega)⟩
          obtain ⟨gb, ob, B1, d1, rfl, _, hcb, hk⟩ := va_at HVV.out hv
          have z3 := hk.l_le
          have z4 := hk.l_max
          unfold maxLen at z4
          have HVM := Lib.hid (List.mem_of_getElem? hv)
          obtain ⟨nm, hnm⟩ : ∃ z, z = v.vm.length := ⟨_, rfl⟩
          obtain ⟨stx, hstx⟩ : ∃ z, z = strOf v.vs := ⟨_, rfl⟩
          obtain ⟨vn, hvn⟩ : ∃ z, z = (v.vn : Int) := ⟨_, rfl⟩
          rw [← hnm, ← hstx, ← hvn] at hcb
          rw [← hnm] at z3
          have HNM := Lib.hid hnm
          have HK := Lib.hid hk
          obtain ⟨b0, b1, b2⟩ := hcb _ (stay_touch HTB.out HS.out)
          have HBN : Hid ((kidsV (x.svals.take (j + 1))).foldl f a = v.vm.foldl f b) := Lib.hid (by rw [kidsV_take hv, List.foldl_append, HBV.out])
          have HBB : Hid (v.vm.foldl f b ≤ tot) := Lib.hid (by rw [← HBN.out]; exact Nat.le_trans (kidsV_le HFM.out _ _ _) HAB.out)
          have HT3 : Hid (∀ o, Touch (fun k => k = g) w (wr.alloc o)) := Lib.hid (fun o => HTB.out.alloc o)
          have HG3 : Hid (∀ o, (wr.alloc o).heap[g]? = some (numO b)) := Lib.hid (fun o => (Below.heap_alloc _ _ _ (lt_of_block HGB.out)).trans HGB.out)
          clear hv hcb hk hnm hstx hvn
          go_wp2
          clear b0 b1 b2
          go_loopg [33] nm (fun gz x0 wr => ∃ (q c : Nat), x0 = .int .i64 (q : Int) ∧ q + gz = nm ∧ c = (v.vm.take q).foldl f b ∧ wr.heap[g]? = some (numO c) ∧ Touch (fun k => k = g) w wr)
          case atStart => exact ⟨0, b, rfl, by omega, rfl, HG3.out _, HT3.out _⟩
          case round =>
            obtain ⟨q, c, rfl, hq, hc, hgc, htc⟩ := hrel
            have HCV := Lib.hid hc
            have HGC := Lib.hid hgc
            have HTC := Lib.hid htc
            clear hc hgc htc
            obtain ⟨g3, hg3⟩ : ∃ g3, g3 = gk := ⟨_, rfl⟩
            subst hg3
            by_cases hltq : q < nm
            · have tq : decide ((q : Int) < (nm : Int)) = true := decide_eq_true (by omega)
              obtain ⟨y, hy⟩ : ∃ y, v.vm[q]? = some y := ⟨_, List.getElem?_eq_getElem (by have := HNM.out; omega)⟩
              obtain ⟨kk, gc, oc, C1, e1, cc1, C2, e2, cc2, hkk, rfl, _, hcc, hty⟩ := kid_at HK.out hy
              have HCN : Hid ((v.vm.take (q + 1)).foldl f b = visN st k c y (d + 1)) := Lib.hid (by rw [take_snoc' hy, List.foldl_append, ← HCV.out, HF.out]; rfl)
              have hyb : visN st k c y (d + 1) ≤ 1000 := by
                rw [← HCN.out]
                exact Nat.le_trans (foldl_takele HFM.out _ _ _) (Nat.le_trans HBB.out hbd)
              have hyd : d + 1 + deepN k y ≤ 1000 := by
                have h1 := HDP.out
                have h2 := supB_mem (deepN k) (List.mem_of_getElem? hy)
                have h3 := supB_mem (fun v : Va => supB (deepN k) v.vm) HVM.out
                have h4 := supB_mem (fun s : Slt => supB (fun v : Va => supB (deepN k) v.vm) s.svals) HXM.out
                unfold deepN at h1
                omega
              have HCALL : Hid (∀ u, Touch (fun k => k = g) w u → u.heap[g]? = some (numO c) → Calls Try.prog 51 #[.agg #[.slice C1 e1 cc1, .slice C2 e2 cc2], .int .i64 ((d : Int) + 1), .pointer (some ⟨pv, 0, none⟩), .pointer (some ⟨pw, 0, none⟩)] u fun e w' => e = .returned (.tuple #[]) ∧ w'.heap[g]? = some (numO (visN st k c y (d + 1))) ∧ Touch (fun k => k = g) u w') := Lib.hid (fun u hu hgu => by
                have h9 := HL.out kk hkk pv pw S u _ _ _ _ _ _ y (d + 1) c (th_touch HTH.out hu) hgu HS.out (trAt_keep hty (fun _ h => h) (stay_touch hu HS.out)) (by rw [← hkk]; exact hyb) (by rw [← hkk]; exact hyd)
                rw [← hkk] at h9
                rw [show ((d : Int) + 1) = ((d + 1 : Nat) : Int) by omega]
                exact h9)
              obtain ⟨c0, c1'⟩ := hcc _ (stay_touch HTC.out HS.out)
              have HT4 : Hid (∀ o, Touch (fun k => k = g) w (wr.alloc o)) := Lib.hid (fun o => HTC.out.alloc o)
              have HG4 : Hid (∀ o, (wr.alloc o).heap[g]? = some (numO c)) := Lib.hid (fun o => (Below.heap_alloc _ _ _ (lt_of_block HGC.out)).trans HGC.out)
              have w0 := fun o => obj_cell (th_touch HTH.out (HT4.out o)).h_w 0
              obtain ⟨res, hres⟩ : ∃ z, z = visN st k c y (d + 1) := ⟨_, rfl⟩
              rw [← hres] at HCN HCALL
              clear hy hcc hty hkk hres hyb hyd
              go_wp2_with (go_at_call 51; refine (HCALL.out _ (HT4.out _) (HG4.out _)).mono ?_; rintro e w2 ⟨rfl, hg9, ht9⟩; have HG9 := Lib.hid hg9; have HT9 := Lib.hid ((HT4.out _).trans ht9 (fun _ h => .inl h)); clear hg9 ht9)
              go_roundg (g3 - 1)
              case measure => omega
              case rel => exact ⟨q + 1, res, by go_num, by omega, HCN.out.symm, HG9.out, HT9.out⟩
            · have tq : decide ((q : Int) < (nm : Int)) = false := decide_eq_false (by omega)
              have HFI : Hid (c = (kidsV (x.svals.take (j + 1))).foldl f a) := Lib.hid (by rw [HBN.out, HCV.out, List.take_of_length_le (by have := HNM.out; omega)])
              go_wp2
              go_roundg (g2 - 1)
              case measure => omega
              case rel => exact ⟨j + 1, c, by go_num, by omega, HFI.out, HGC.out, HTC.out⟩
        · have tj : decide ((j : Int) < (nv : Int)) = false := decide_eq_false (by omega)
          have HFI : Hid (b = (kidsS (t.slots.take (i + 1))).foldl f s1) := Lib.hid (by rw [HAN.out, HBV.out, List.take_of_length_le (by have := HNV.out; omega)])
          go_wp2
          go_roundg (g1 - 1)
          case measure => omega
          case rel => exact ⟨i + 1, b, by go_num, by omega, HFI.out, HGB.out, HTB.out⟩
    · have ti : decide ((i : Int) < (na : Int)) = false := decide_eq_false (by omega)
      have HFI : Hid (a = tot) := Lib.hid (by rw [HTOT.out, HAV.out, List.take_of_length_le (by have := HA.out.t_ns; omega)])
      go_wp2
      go_end0
      exact ⟨rfl, by rw [← HFI.out]; exact HGA.out, HTA.out⟩
theorem pwalk_any {st : Nat → Tr → Nat → Nat} (hst : ∀ s t d, s ≤ st s t d) {kv g : Nat} (henter : Enters Try.prog kv) (HV : VisOk st kv g) : ∀ k, WalkOk st kv g k
  | 0 => pwalk_step hst henter HV (fun q h => by cases h)
  | k + 1 => pwalk_step hst henter HV (fun q h => by cases h; exact pwalk_any hst henter HV k)

set_option maxHeartbeats 4000000 in
theorem pthrough_any {st : Nat → Tr → Nat → Nat} (hst : ∀ s t d, s ≤ st s t d) {kv g : Nat} (henter : Enters Try.prog kv) (HV : VisOk st kv g) {k : Nat} {S : Nat → Prop} (w : World) {A : Option Addr} {na ca : Nat} {A2 : Option Addr} {nr cr : Nat} {t : Tr} {s : Nat} (hs : w.heap[g]? = some (numO s)) (hS : ∀ b, S b → b ≠ g) (h : TrAt S k w A na ca A2 nr cr t) (hb : visN st (k + 1) s t 1 ≤ 1000) (hd : 1 + deepN (k + 1) t ≤ 1000) :
    Calls Try.prog 32 #[.agg #[.slice A na ca, .slice A2 nr cr], .func (.func kv) #[] #[.pointer (some ⟨g, 0, none⟩)]] w fun e w' => e = .returned (.tuple #[]) ∧ w'.heap[g]? = some (numO (visN st (k + 1) s t 1)) ∧ Touch (fun k => k = g) w w' := by
  have hg := lt_of_block hs
  have HC : Hid (∀ u pv pw, ThAt kv g pv pw u → Below w.heap.size w u → Calls Try.prog 51 #[.agg #[.slice A na ca, .slice A2 nr cr], .int .i64 1, .pointer (some ⟨pv, 0, none⟩), .pointer (some ⟨pw, 0, none⟩)] u fun e w' => e = .returned (.tuple #[]) ∧ w'.heap[g]? = some (numO (visN st (k + 1) s t 1)) ∧ Touch (fun k => k = g) u w') :=
    Lib.hid (fun u pv pw hu hbu => pwalk_any hst henter HV k pv pw S u _ _ _ _ _ _ t 1 s hu ((hbu.block _ hg).trans hs) hS (trAt_bel h hbu) hb hd)
  obtain ⟨a, ha⟩ : ∃ a, a = Obj.cells #[.slice A na ca, .slice A2 nr cr] 25 (0, 0) := ⟨_, rfl⟩
  have HTH : Hid (ThAt kv g (w.heap.size + 1) (w.heap.size + 1 + 1) (((w.alloc a).alloc (.cells #[.func (.func kv) #[] #[.pointer (some ⟨g, 0, none⟩)]] 53)).alloc (.cells #[.func (.func 51) #[] #[.pointer (some ⟨w.heap.size + 1, 0, none⟩), .pointer (some ⟨w.heap.size + 1 + 1, 0, none⟩)]] 53))) := Lib.hid (by
    have s1 : (w.alloc a).heap.size = w.heap.size + 1 := by simp
    have s2 : ((w.alloc a).alloc (.cells #[.func (.func kv) #[] #[.pointer (some ⟨g, 0, none⟩)]] 53)).heap.size = w.heap.size + 1 + 1 := by simp
    exact ⟨by rw [Below.heap_alloc _ _ _ (by omega), ← s1, heap_alloc_new], by rw [← s2, heap_alloc_new], by omega, by omega⟩)
  have HBE : Hid (∀ b c, Below w.heap.size w (((w.alloc a).alloc b).alloc c)) := Lib.hid (fun b c => (((Below.refl _ w).alloc (Nat.le_refl _) a).alloc (by simp) b).alloc (by simp; omega) c)
  rw [ha] at HTH HBE
  clear h hs ha hS hb hd HV hst
  go_enter Try.func32, Try.ntmps32
  go_wp2_with (go_at_call 51; refine (HC.out _ _ _ HTH.out (HBE.out _ _)).mono ?_; rintro e w2 ⟨rfl, hg9, ht9⟩; have HG9 := Lib.hid hg9; have HT9 := Lib.hid ((Touch.of_below (fun k => k = g) (HBE.out _ _)).trans ht9 (fun _ h => .inl h)); clear hg9 ht9)
  go_end0
  exact ⟨rfl, HG9.out, HT9.out⟩

set_option maxHeartbeats 4000000 in
theorem visdeep_any (g : Nat) : VisOk (fun s _ d => max s d) 33 g := by
  intro S k w A na ca A2 nr cr t d s hs hS h hb hsb hd
  dsimp only at hb ⊢
  have hg := lt_of_block hs
  have HBX := Lib.hid (bx_start w #[.slice A na ca, .slice A2 nr cr] 25)
  have hb2 : (w.alloc (.cells #[.slice A na ca, .slice A2 nr cr] 25)).heap[g]? = some (.cells #[.int .i64 (s : Int)] 3 (0, 0)) := (HBX.out.b_bel.block _ hg).trans hs
  have HBG := Lib.hid hb2
  have s0 := obj_cell hb2 0
  have s1 := obj_free hb2 0
  clear h hs hS hb2 hg
  have HT : Hid (∀ u, Touch (fun k => k = g) w ((w.alloc (.cells #[.slice A na ca, .slice A2 nr cr] 25)).setCell ⟨g, 0, none⟩ u)) := Lib.hid (fun u => (Touch.of_below (fun k => k = g) HBX.out.b_bel).set (.inl rfl) u)
  by_cases hle : s ≤ d
  · have e1 : max s d = d := by omega
    have t1 : max (s : Int) (d : Int) = (d : Int) := by omega
    rw [e1]
    go_enter Try.func33, Try.ntmps33
    go_wp2
    go_end0
    exact ⟨rfl, obj_set HBG.out 0 _, HT.out _⟩
  · have e1 : max s d = s := by omega
    have t1 : max (s : Int) (d : Int) = (s : Int) := by omega
    rw [e1]
    go_enter Try.func33, Try.ntmps33
    go_wp2
    go_end0
    exact ⟨rfl, obj_set HBG.out 0 _, HT.out _⟩

set_option maxHeartbeats 4000000 in
theorem viscount_any (g : Nat) : VisOk (fun s t _ => s + ownC t) 34 g := by
  intro S k w A na ca A2 nr cr t d s hs hS h hb hsb hd
  dsimp only at hb ⊢
  obtain ⟨q1, q2, q3, q4⟩ := trAt_max h
  have hg := lt_of_block hs
  have hw : ownC t = nr + sumB (fun s : Slt => s.svals.length) t.slots := by unfold ownC; rw [h.t_nr]
  rw [hw] at hb ⊢
  have hnr : s + nr ≤ 1000 := by omega
  have HBX := Lib.hid (bx_start w #[.slice A na ca, .slice A2 nr cr] 25)
  obtain ⟨u0, hu0⟩ : ∃ u, u = w.alloc (.cells #[.slice A na ca, .slice A2 nr cr] 25) := ⟨_, rfl⟩
  have hb2 : u0.heap[g]? = some (.cells #[.int .i64 (s : Int)] 3 (0, 0)) := by rw [hu0]; exact (HBX.out.b_bel.block _ hg).trans hs
  have HBG := Lib.hid hb2
  have s0 := obj_cell hb2 0
  have s1 := obj_free hb2 0
  rw [← hu0] at HBX
  have r0 := obj_cell HBX.out.b_blk 0
  have r1 := obj_cell HBX.out.b_blk 1
  have HA := Lib.hid h
  have HS := Lib.hid hS
  have HBD := Lib.hid hb
  have HT : Hid (Touch (fun k => k = g) w (u0.setCell ⟨g, 0, none⟩ (.int .i64 ((s : Int) + (nr : Int))))) := Lib.hid ((Touch.of_below (fun k => k = g) HBX.out.b_bel).set (.inl rfl) _)
  have HG : Hid ((u0.setCell ⟨g, 0, none⟩ (.int .i64 ((s : Int) + (nr : Int)))).heap[g]? = some (numO (s + nr))) := Lib.hid (by
    have := obj_set hb2 0 (.int .i64 ((s : Int) + (nr : Int)))
    rw [this]
    unfold numO
    rw [show ((s + nr : Nat) : Int) = (s : Int) + (nr : Int) by omega]
    rfl)
  have hzne : w.heap.size ≠ g := by omega
  have r2 := obj_cell (set_else (p := ⟨g, 0, none⟩) (v := .int .i64 ((s : Int) + (nr : Int))) HBX.out.b_blk hzne) 0
  clear h hs hS hb2 hg hw hb
  subst hu0
  go_enter Try.func34, Try.ntmps34
  go_wp2
  clear r0 r1 r2 s0 s1
  go_loopg [15] na (fun gz x0 wr => ∃ (i a : Nat), x0 = .int .i64 (i : Int) ∧ i + gz = na ∧ a = s + nr + sumB (fun s : Slt => s.svals.length) (t.slots.take i) ∧ wr.heap[g]? = some (numO a) ∧ Touch (fun k => k = g) w wr)
  case atStart => exact ⟨0, s + nr, rfl, by omega, rfl, HG.out, HT.out⟩
  case round =>
    obtain ⟨i, a, rfl, hi, ha, hga, hta⟩ := hrel
    have HAV := Lib.hid ha
    have HGA := Lib.hid hga
    have HTA := Lib.hid hta
    clear ha hga hta
    obtain ⟨g1, hg1⟩ : ∃ g1, g1 = gk := ⟨_, rfl⟩
    subst hg1
    by_cases hlt : i < na
    · have ti : decide ((i : Int) < (na : Int)) = true := decide_eq_true (by omega)
      obtain ⟨x, hx⟩ : ∃ x, t.slots[i]? = some x := ⟨_, List.getElem?_eq_getElem (by have := HA.out.t_ns; omega)⟩
      obtain ⟨ga, oa, A1, c1, rfl, _, hc, hv⟩ := sl_at HA.out.t_s hx
      have z1 := hv.l_le
      have z2 := hv.l_max
      unfold maxLen at z2
      have HAN : Hid (s + nr + sumB (fun s : Slt => s.svals.length) (t.slots.take (i + 1)) = a + x.svals.length) := Lib.hid (by rw [sumB_take _ hx, HAV.out]; omega)
      have hab : a + x.svals.length ≤ 1000 := by
        rw [← HAN.out]
        have h1 := sumB_takele (fun s : Slt => s.svals.length) (l := t.slots) (i + 1)
        have h2 := HBD.out
        omega
      obtain ⟨nv, hnv⟩ : ∃ z, z = x.svals.length := ⟨_, rfl⟩
      obtain ⟨sn, hsn⟩ : ∃ z, z = x.snum := ⟨_, rfl⟩
      rw [← hnv, ← hsn] at hc
      rw [← hnv] at z1 HAN hab
      obtain ⟨a0, a1⟩ := hc _ (stay_touch HTA.out HS.out)
      obtain ⟨wb, hwb⟩ : ∃ z, z = wr.alloc (.cells #[.int .i64 sn, .slice A1 nv c1] 32) := ⟨_, rfl⟩
      have HTB : Hid (Touch (fun k => k = g) w wb) := Lib.hid (by rw [hwb]; exact HTA.out.alloc _)
      have hgb : wb.heap[g]? = some (numO a) := by rw [hwb]; exact (Below.heap_alloc _ _ _ (lt_of_block HGA.out)).trans HGA.out
      have HGB := Lib.hid hgb
      have hgb2 : ∀ o, (wr.alloc o).heap[g]? = some (numO a) := fun o => (Below.heap_alloc _ _ _ (lt_of_block HGA.out)).trans HGA.out
      have s0 : ∀ o, (wr.alloc o).cell? ⟨g, 0, none⟩ = some (.int .i64 (a : Int)) := fun o => obj_cell (hgb2 o) 0
      have s1 : ∀ o, (wr.alloc o).frozen? ⟨g, 0, none⟩ = false := fun o => obj_free (hgb2 o) 0
      have HT2 : Hid (Touch (fun k => k = g) w (wb.setCell ⟨g, 0, none⟩ (.int .i64 ((a : Int) + (nv : Int))))) := Lib.hid (HTB.out.set (.inl rfl) _)
      have HG2 : Hid ((wb.setCell ⟨g, 0, none⟩ (.int .i64 ((a : Int) + (nv : Int)))).heap[g]? = some (numO (a + nv))) := Lib.hid (by
        have := obj_set (show wb.heap[g]? = some (.cells #[.int .i64 (a : Int)] 3 (0, 0)) from HGB.out) 0 (.int .i64 ((a : Int) + (nv : Int)))
        rw [this]
        unfold numO
        rw [show ((a + nv : Nat) : Int) = (a : Int) + (nv : Int) by omega]
        rfl)
      rw [hwb] at HT2 HG2
      clear hx hc hv hnv hsn hgb hgb2 hwb
      go_wp2
      go_roundg (g1 - 1)
      case measure => omega
      case rel => exact ⟨i + 1, a + nv, by go_num, by omega, HAN.out.symm, HG2.out, HT2.out⟩
    · have ti : decide ((i : Int) < (na : Int)) = false := decide_eq_false (by omega)
      have HFI : Hid (a = s + (nr + sumB (fun s : Slt => s.svals.length) t.slots)) := Lib.hid (by rw [HAV.out, List.take_of_length_le (by have := HA.out.t_ns; omega)]; omega)
      go_wp2
      go_end0
      exact ⟨rfl, by rw [← HFI.out]; exact HGA.out, HTA.out⟩

set_option maxHeartbeats 4000000 in
theorem pdeep_any {k : Nat} {S : Nat → Prop} (w : World) {A : Option Addr} {na ca : Nat} {A2 : Option Addr} {nr cr : Nat} {t : Tr} (h : TrAt S k w A na ca A2 nr cr t) (hd : deepN (k + 1) t ≤ 900) :
    Calls Try.prog 11 #[.agg #[.slice A na ca, .slice A2 nr cr]] w fun e w' => e = .returned (.int .i64 ((deepN (k + 1) t : Nat) : Int)) ∧ Below w.heap.size w w' := by
  have hv : visN (fun s _ d => max s d) (k + 1) 0 t 1 = deepN (k + 1) t := by
    rcases vis_deep k 0 t 1 with h | h
    · rw [h]; omega
    · cases h
  have HBX := Lib.hid (bx2_start w #[.slice A na ca, .slice A2 nr cr] #[.int .i64 0] 25 3)
  have HC : Hid (∀ u, Bx2 w u (.cells #[.slice A na ca, .slice A2 nr cr] 25 (0, 0)) (.cells #[.int .i64 0] 3 (0, 0)) → Calls Try.prog 32 #[.agg #[.slice A na ca, .slice A2 nr cr], .func (.func 33) #[] #[.pointer (some ⟨w.heap.size + 1, 0, none⟩)]] u fun e w' => e = .returned (.tuple #[]) ∧ w'.heap[w.heap.size + 1]? = some (numO (deepN (k + 1) t)) ∧ Touch (fun k => k = w.heap.size + 1) u w') := Lib.hid (fun u hu => by
    have h9 := pthrough_any (fun s t d => Nat.le_max_left s d) (kv := 33) (g := w.heap.size + 1) (fun _ _ => rfl) (visdeep_any _) (s := 0) u hu.b2_two (S := fun g => S g ∧ g < w.heap.size) (fun b hb => by omega) (trAt_bel (trAt_lt h) hu.b2_bel) (by rw [hv]; omega) (by omega)
    rw [hv] at h9
    exact h9)
  have r0 := obj_cell HBX.out.b2_one 0
  have r1 := obj_cell HBX.out.b2_one 1
  obtain ⟨r, hr⟩ : ∃ z, z = deepN (k + 1) t := ⟨_, rfl⟩
  rw [← hr] at HC ⊢
  clear h hd hv hr
  go_enter Try.func11, Try.ntmps11
  go_wp2_with (go_at_call 32; refine (HC.out _ HBX.out).mono ?_; rintro e w2 ⟨rfl, hg9, ht9⟩; have z0 := obj_cell (show w2.heap[w.heap.size + 1]? = some (.cells #[.int .i64 (r : Int)] 3 (0, 0)) from hg9) 0; have HB := Lib.hid (HBX.out.b2_bel.trans (ht9.below (B := w.heap.size) (by simp; omega) (fun k hk => by omega))); clear hg9 ht9)
  go_ret
  exact ⟨rfl, HB.out⟩
set_option maxHeartbeats 4000000 in
theorem pcount_any {k : Nat} {S : Nat → Prop} (w : World) {A : Option Addr} {na ca : Nat} {A2 : Option Addr} {nr cr : Nat} {t : Tr} (h : TrAt S k w A na ca A2 nr cr t) (hd : deepN (k + 1) t ≤ 900) (hc : cntN (k + 1) t ≤ 1000) :
    Calls Try.prog 13 #[.agg #[.slice A na ca, .slice A2 nr cr]] w fun e w' => e = .returned (.int .i64 ((cntN (k + 1) t : Nat) : Int)) ∧ Below w.heap.size w w' := by
  have hv : visN (fun s t _ => s + ownC t) (k + 1) 0 t 1 = cntN (k + 1) t := by
    rw [vis_count, if_neg (by omega)]; omega
  have HBX := Lib.hid (bx2_start w #[.slice A na ca, .slice A2 nr cr] #[.int .i64 0] 25 3)
  have HC : Hid (∀ u, Bx2 w u (.cells #[.slice A na ca, .slice A2 nr cr] 25 (0, 0)) (.cells #[.int .i64 0] 3 (0, 0)) → Calls Try.prog 32 #[.agg #[.slice A na ca, .slice A2 nr cr], .func (.func 34) #[] #[.pointer (some ⟨w.heap.size + 1, 0, none⟩)]] u fun e w' => e = .returned (.tuple #[]) ∧ w'.heap[w.heap.size + 1]? = some (numO (cntN (k + 1) t)) ∧ Touch (fun k => k = w.heap.size + 1) u w') := Lib.hid (fun u hu => by
    have h9 := pthrough_any (fun s t d => Nat.le_add_right s (ownC t)) (kv := 34) (g := w.heap.size + 1) (fun _ _ => rfl) (viscount_any _) (s := 0) u hu.b2_two (S := fun g => S g ∧ g < w.heap.size) (fun b hb => by omega) (trAt_bel (trAt_lt h) hu.b2_bel) (by rw [hv]; omega) (by omega)
    rw [hv] at h9
    exact h9)
  have r0 := obj_cell HBX.out.b2_one 0
  have r1 := obj_cell HBX.out.b2_one 1
  obtain ⟨r, hr⟩ : ∃ z, z = cntN (k + 1) t := ⟨_, rfl⟩
  rw [← hr] at HC ⊢
  clear h hd hv hr hc
  go_enter Try.func13, Try.ntmps13
  go_wp2_with (go_at_call 32; refine (HC.out _ HBX.out).mono ?_; rintro e w2 ⟨rfl, hg9, ht9⟩; have z0 := obj_cell (show w2.heap[w.heap.size + 1]? = some (.cells #[.int .i64 (r : Int)] 3 (0, 0)) from hg9) 0; have HB := Lib.hid (HBX.out.b2_bel.trans (ht9.below (B := w.heap.size) (by simp; omega) (fun k hk => by omega))); clear hg9 ht9)
  go_ret
  exact ⟨rfl, HB.out⟩
end Go.Proofs.Ytakdkocobcicdaa

/- The page's example of layer 19; which trees are the same, how deep they are, and how much they have. Conditions: those that each theorem names. -/
namespace Go.Proofs.Ytakdkocobcicdaa
open Go.RowKit
set_option linter.unusedVariables false
set_option maxRecDepth 100000

theorem tree_came {H : Type} {enc : TypeId × Value → H} {w : World} {base : Nat} {spare : Nat → Bool} {held : Bool} {fuel : Nat} {cs : List Value} {x : DataW H × List MemPlace} (h : DataW.trod enc Try.prog w base spare held fuel 25 cs = some x) (hz : ∀ n ∈ x.1.weights Try.prog 25, n ≤ mxL) :
    ∃ (t : Tr) (n : Nat) (A : Option Addr) (na ca : Nat) (B : Option Addr) (nb cb : Nat), cs = [.slice A na ca, .slice B nb cb] ∧ TrAt (fun g => g < w.heap.size) n w A na ca B nb cb t ∧ OkT t := by
  obtain ⟨t, ht, ho⟩ := tr_came fuel cs x h hz
  match fuel, ht with
  | n + 1, ⟨A, na, ca, B, nb, cb, e, h⟩ => exact ⟨t, n, A, na, ca, B, nb, cb, e, h, ho⟩
theorem same_yes {f : FuncId} {args : Array Value} {w : World} {p : Prop} (h : Calls Try.prog f args w (SmTo w p)) (hp : p) : Calls Try.prog f args w fun e w' => e = .returned (.bool true) ∧ Below w.heap.size w w' :=
  h.mono fun e w' ⟨r, he, hr, hb⟩ => ⟨by rw [he, hr.2 hp], hb⟩
theorem same_no {f : FuncId} {args : Array Value} {w : World} {p : Prop} (h : Calls Try.prog f args w (SmTo w p)) (hp : ¬ p) : Calls Try.prog f args w fun e w' => e = .returned (.bool false) ∧ Below w.heap.size w w' :=
  h.mono fun e w' ⟨r, he, hr, hb⟩ => ⟨by rw [he, show r = false by cases r; rfl; exact absurd (hr.1 rfl) hp], hb⟩
theorem tr_nil (S : Nat → Prop) (w : World) : TrAt S 0 w none 0 0 none 0 0 (.mk [] []) := ⟨lst_empty _ _ _ (by decide) (fun _ => rfl), lst_empty _ _ _ (by decide) (fun _ => rfl), rfl, rfl⟩

set_option maxHeartbeats 4000000 in
theorem trlive_any (w : World) : Calls Try.prog 8 #[] w fun e w' => e = .returned (.bool true) ∧ Below w.heap.size w w' := by
  have HD := Lib.hid (fun u => pdeep_any u (tr_nil (fun _ => True) u) (by decide))
  have HC := Lib.hid (fun u => pcount_any u (tr_nil (fun _ => True) u) (by decide) (by decide))
  rw [show deepN (0 + 1) (.mk [] []) = 1 from rfl] at HD
  rw [show cntN (0 + 1) (.mk [] []) = 0 from rfl] at HC
  go_enter Try.func8, Try.ntmps8
  go_wp2_with (first
    | (go_at_call 11; refine (HD.out _).mono ?_; rintro e w1 ⟨rfl, hb⟩; have HB1 := Lib.hid hb; clear hb)
    | (go_at_call 13; refine (HC.out _).mono ?_; rintro e w2 ⟨rfl, hb⟩; have HB2 := Lib.hid (bel_more HB1.out hb); clear hb))
  go_ret
  exact ⟨rfl, HB2.out⟩

set_option maxHeartbeats 16000000 in
theorem treesame_walk (w : World) {S S' : Nat → Prop} {n m : Nat} {A : Option Addr} {na ca : Nat} {A2 : Option Addr} {nr cr : Nat} {B : Option Addr} {nb cb : Nat} {B2 : Option Addr} {ns cs : Nat} {x y : Tr} (h : TrAt S n w A na ca A2 nr cr x) (ho : OkT x) (h' : TrAt S' m w B nb cb B2 ns cs y) (ho' : OkT y) :
    Calls Try.prog 3 #[.agg #[.slice A na ca, .slice A2 nr cr], .agg #[.slice B nb cb, .slice B2 ns cs]] w fun e w' => e = .returned (.bool true) ∧ Below w.heap.size w w' := by
  have HLV := Lib.hid (fun u => trlive_any u)
  have HSX := Lib.hid (fun u (hb : Below w.heap.size w u) => rsmalltr_any u (trAt_bel h hb) ho)
  have HSY := Lib.hid (fun u (hb : Below w.heap.size w u) => rsmalltr_any u (trAt_bel h' hb) ho')
  have HBX := Lib.hid (bx2_start w #[.slice A na ca, .slice A2 nr cr] #[.slice B nb cb, .slice B2 ns cs] 25 25)
  have r0 := obj_cell (HBX.out).b2_one 0
  have s0 := obj_cell (HBX.out).b2_two 0
  have r1 := obj_cell (HBX.out).b2_one 1
  have s1 := obj_cell (HBX.out).b2_two 1
  cases hx : smallTr n x with
  | false =>
    rw [hx] at HSX
    clear h h' ho ho' hx
    go_enter Try.func3, Try.ntmps3
    go_wp2_with (first
      | (go_at_call 7; refine (HSX.out _ HBX.out.b2_bel).mono ?_; rintro e w1 ⟨rfl, hb⟩; replace HBX := Lib.hid (bx2_step HBX.out hb); clear hb)
      | (go_at_call 8; refine (HLV.out _).mono ?_; rintro e w2 ⟨rfl, hb⟩; replace HBX := Lib.hid (bx2_step HBX.out hb); clear hb))
    go_ret
    exact ⟨rfl, HBX.out.b2_bel⟩
  | true =>
    rw [hx] at HSX
    obtain ⟨fx1, fx2, fx3⟩ := small_fits hx
    cases hy : smallTr m y with
    | false =>
      rw [hy] at HSY
      clear h h' ho ho' hx hy
      go_enter Try.func3, Try.ntmps3
      go_wp2_with (first
        | (go_at_call 7; refine (HSX.out _ HBX.out.b2_bel).mono ?_; rintro e w1 ⟨rfl, hb⟩; replace HBX := Lib.hid (bx2_step HBX.out hb); have s0 := obj_cell (HBX.out).b2_two 0; have s1 := obj_cell (HBX.out).b2_two 1; replace HSX := HSY; clear hb)
        | (go_at_call 7; refine (HSY.out _ HBX.out.b2_bel).mono ?_; rintro e w1 ⟨rfl, hb⟩; replace HBX := Lib.hid (bx2_step HBX.out hb); clear hb)
        | (go_at_call 8; refine (HLV.out _).mono ?_; rintro e w2 ⟨rfl, hb⟩; replace HBX := Lib.hid (bx2_step HBX.out hb); clear hb))
      go_ret
      exact ⟨rfl, HBX.out.b2_bel⟩
    | true =>
      rw [hy] at HSY
      obtain ⟨d, hd⟩ : ∃ d, d = deepN (n + 1) x := ⟨_, rfl⟩
      obtain ⟨c, hc⟩ : ∃ c, c = cntN (n + 1) x := ⟨_, rfl⟩
      have HPD := Lib.hid (fun u (hb : Below w.heap.size w u) => pdeep_any u (trAt_bel h hb) (by omega))
      have HRD := Lib.hid (fun u (hb : Below w.heap.size w u) => rtdeepN_any n S u _ _ _ _ _ _ x (trAt_bel h hb) (by omega))
      have HPC := Lib.hid (fun u (hb : Below w.heap.size w u) => pcount_any u (trAt_bel h hb) (by omega) (by omega))
      have HRC := Lib.hid (fun u (hb : Below w.heap.size w u) => rtcntN_any n S u _ _ _ _ _ _ x (trAt_bel h hb) (by omega))
      rw [← hd] at HPD HRD
      rw [← hc] at HPC HRC
      have HAA := Lib.hid (fun u (hb : Below w.heap.size w u) => same_yes (psame_any u (trAt_bel h hb) (trAt_bel h hb)) rfl)
      obtain ⟨b0, HAB, HRB⟩ : ∃ b0 : Bool, Hid (∀ u, Below w.heap.size w u → Calls Try.prog 9 #[.agg #[.slice A na ca, .slice A2 nr cr], .agg #[.slice B nb cb, .slice B2 ns cs]] u fun e w' => e = .returned (.bool b0) ∧ Below u.heap.size u w') ∧ Hid (∀ u, Below w.heap.size w u → Calls Try.prog 10 #[.agg #[.slice A na ca, .slice A2 nr cr], .agg #[.slice B nb cb, .slice B2 ns cs]] u fun e w' => e = .returned (.bool b0) ∧ Below u.heap.size u w') := by
        by_cases he : x = y
        · exact ⟨true, Lib.hid (fun u hb => same_yes (psame_any u (trAt_bel h hb) (trAt_bel h' hb)) he), Lib.hid (fun u hb => same_yes (rtsame_any n S S' m u _ _ _ _ _ _ _ _ _ _ _ _ x y (trAt_bel h hb) (trAt_bel h' hb)) he)⟩
        · exact ⟨false, Lib.hid (fun u hb => same_no (psame_any u (trAt_bel h hb) (trAt_bel h' hb)) he), Lib.hid (fun u hb => same_no (rtsame_any n S S' m u _ _ _ _ _ _ _ _ _ _ _ _ x y (trAt_bel h hb) (trAt_bel h' hb)) he)⟩
      have HK : Hid (∀ u, Bx2 w u (.cells #[.slice A na ca, .slice A2 nr cr] 25 (0, 0)) (.cells #[.slice B nb cb, .slice B2 ns cs] 25 (0, 0)) → u.cell? ⟨w.heap.size, 0, none⟩ = some (.slice A na ca) ∧ u.cell? ⟨w.heap.size, 1, none⟩ = some (.slice A2 nr cr) ∧ u.cell? ⟨w.heap.size + 1, 0, none⟩ = some (.slice B nb cb) ∧ u.cell? ⟨w.heap.size + 1, 1, none⟩ = some (.slice B2 ns cs)) := Lib.hid (fun u hu => ⟨obj_cell hu.b2_one 0, obj_cell hu.b2_one 1, obj_cell hu.b2_two 0, obj_cell hu.b2_two 1⟩)
      clear h h' ho ho' hx hy hd hc fx1 fx2 fx3
      go_enter Try.func3, Try.ntmps3
      go_wp2_with (first
        | (go_at_call 7; refine (HSX.out _ HBX.out.b2_bel).mono ?_; rintro e w1 ⟨rfl, hb⟩; replace HBX := Lib.hid (bx2_step HBX.out hb); have r0 := obj_cell (HBX.out).b2_one 0; have r1 := obj_cell (HBX.out).b2_one 1; have s0 := obj_cell (HBX.out).b2_two 0; have s1 := obj_cell (HBX.out).b2_two 1; replace HSX := HSY; clear hb)
        | (go_at_call 7; refine (HSY.out _ HBX.out.b2_bel).mono ?_; rintro e w1 ⟨rfl, hb⟩; replace HBX := Lib.hid (bx2_step HBX.out hb); have r0 := obj_cell (HBX.out).b2_one 0; have r1 := obj_cell (HBX.out).b2_one 1; have s0 := obj_cell (HBX.out).b2_two 0; have s1 := obj_cell (HBX.out).b2_two 1; clear hb))
      have HBY := HBX
      replace HBX := Lib.hid (bx2_drew1 HBX.out)
      go_region_held3 (fun u => u.cell? ⟨w.heap.size, 0, none⟩ = some (.slice A na ca) ∧ u.cell? ⟨w.heap.size, 1, none⟩ = some (.slice A2 nr cr) ∧ u.cell? ⟨w.heap.size + 1, 0, none⟩ = some (.slice B nb cb) ∧ u.cell? ⟨w.heap.size + 1, 1, none⟩ = some (.slice B2 ns cs))
        (first | exact HK.out _ HBX.out | exact HK.out _ HBY.out)
        (first
          | (go_at_call 9; refine (HAB.out _ HBX.out.b2_bel).mono ?_; rintro e u1 ⟨rfl, hb⟩; replace HBX := Lib.hid (bx2_step HBX.out hb); clear hb HAB)
          | (go_at_call 10; refine (HRB.out _ HBX.out.b2_bel).mono ?_; rintro e u2 ⟨rfl, hb⟩; replace HBX := Lib.hid (bx2_step HBX.out hb); clear hb)
          | (go_at_call 9; refine (HAA.out _ HBX.out.b2_bel).mono ?_; rintro e u3 ⟨rfl, hb⟩; replace HBX := Lib.hid (bx2_step HBX.out hb); clear hb)
          | (go_at_call 11; refine (HPD.out _ HBX.out.b2_bel).mono ?_; rintro e u4 ⟨rfl, hb⟩; replace HBX := Lib.hid (bx2_step HBX.out hb); clear hb)
          | (go_at_call 12; refine (HRD.out _ HBX.out.b2_bel).mono ?_; rintro e u5 ⟨rfl, hb⟩; replace HBX := Lib.hid (bx2_step HBX.out hb); clear hb)
          | (go_at_call 13; refine (HPC.out _ HBX.out.b2_bel).mono ?_; rintro e u6 ⟨rfl, hb⟩; replace HBX := Lib.hid (bx2_step HBX.out hb); clear hb)
          | (go_at_call 14; refine (HRC.out _ HBX.out.b2_bel).mono ?_; rintro e u7 ⟨rfl, hb⟩; replace HBX := Lib.hid (bx2_step HBX.out hb); clear hb)
          | (go_at_call 8; refine (HLV.out _).mono ?_; rintro e u8 ⟨rfl, hb⟩; replace HBX := Lib.hid (bx2_step HBX.out hb); clear hb))
      go_wp2
      go_ret
      exact ⟨rfl, HBX.out.b2_bel⟩
end Go.Proofs.Ytakdkocobcicdaa
