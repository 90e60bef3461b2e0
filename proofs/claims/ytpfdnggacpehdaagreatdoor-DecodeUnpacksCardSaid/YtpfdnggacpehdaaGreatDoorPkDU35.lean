/- Several texts in one: TrIn, RtA, RtB. What each proves, and its conditions, stands at its own head. -/
import Derived.Test.YtpfdnggacpehdaaGreatDoorPkDU23
import Derived.Test.YtpfdnggacpehdaaGreatDoorPkDU31
import Derived.Test.YtpfdnggacpehdaaGreatDoorPkDU11
import Derived.Test.YtpfdnggacpehdaaGreatDoorPkDU16
import Derived.Test.YtpfdnggacpehdaaGreatDoorPkDU0
import Derived.OpenShut
import Derived.ProofKit
import Derived.SizedLaws
import Derived.Test.YtpfdnggacpehdaaGreatDoorPkDU33
import Derived.Deep.RegionHeld3
/- Trees in memory: what is read, what is kept, what came in. Conditions: those that each theorem names. -/
namespace Go.Proofs.YtpfdnggacpehdaaGreatDoor
open Go.RowKit Go.ChangeShapes Go.WideShapes
set_option linter.unusedVariables false
set_option maxRecDepth 100000

def rwR (w : World) (cs : List Value) (x : Rw) : Prop := cs = rawCells x
def vaR (R : World → List Value → Tr → Prop) (S : Nat → Prop) (w : World) (cs : List Value) (x : Va) : Prop := ∃ A cap, cs = [.int .u64 (x.vn : Int), .string (strOf x.vs), .slice A x.vm.length cap] ∧ Lst 2 S R w A cap x.vm
def slR (R : World → List Value → Tr → Prop) (S : Nat → Prop) (w : World) (cs : List Value) (x : Slt) : Prop := ∃ A cap, cs = [.int .i64 x.snum, .slice A x.svals.length cap] ∧ Lst 3 S (vaR R S) w A cap x.svals
/-- A tree as it is handed over: its trees within read by R, its blocks are of S. -/
structure TrL (R : World → List Value → Tr → Prop) (S : Nat → Prop) (w : World) (A : Option Addr) (na ca : Nat) (A2 : Option Addr) (nr cr : Nat) (x : Tr) : Prop where
  t_s : Lst 2 S (slR R S) w A ca x.slots
  t_r : Lst 4 S rwR w A2 cr x.rest
  t_ns : na = x.slots.length
  t_nr : nr = x.rest.length
/-- A tree, down to a level. -/
def trR (S : Nat → Prop) : Nat → World → List Value → Tr → Prop
  | 0 => fun _ _ _ => False
  | n + 1 => fun w cs x => ∃ A na ca A2 nr cr, cs = [.slice A na ca, .slice A2 nr cr] ∧ TrL (trR S n) S w A na ca A2 nr cr x
/-- What lies in these blocks stays. -/
def Stay (S : Nat → Prop) (w wr : World) : Prop := ∀ p : Addr, S p.block → p.block < w.heap.size → wr.cell? p = w.cell? p
theorem stay_bel {S : Nat → Prop} {w wr : World} (hb : Below w.heap.size w wr) : Stay S w wr := fun p _ hp => hb.cell hp
theorem stay_refl (S : Nat → Prop) (w : World) : Stay S w w := fun _ _ _ => rfl
theorem stay_touch {S D : Nat → Prop} {w wr : World} (h : Touch D w wr) (hd : ∀ k, S k → ¬ D k) : Stay S w wr := fun p hs hp => h.cell hp (hd _ hs)
section
variable {S S' : Nat → Prop} {R R' : World → List Value → Tr → Prop} {w w' : World}
theorem vaR_keep (hR : ∀ cs t, R w cs t → R' w' cs t) (hS : ∀ g, S g → S' g) (hk : Stay S w w') : ∀ cs x, vaR R S w cs x → vaR R' S' w' cs x :=
  fun cs x ⟨A, cap, e, h⟩ => ⟨A, cap, e, lst_keep h hR hS hk⟩
theorem slR_keep (hR : ∀ cs t, R w cs t → R' w' cs t) (hS : ∀ g, S g → S' g) (hk : Stay S w w') : ∀ cs x, slR R S w cs x → slR R' S' w' cs x :=
  fun cs x ⟨A, cap, e, h⟩ => ⟨A, cap, e, lst_keep h (vaR_keep hR hS hk) hS hk⟩
theorem trL_keep {A A2 : Option Addr} {na ca nr cr : Nat} {x : Tr} (hR : ∀ cs t, R w cs t → R' w' cs t) (hS : ∀ g, S g → S' g) (hk : Stay S w w') (h : TrL R S w A na ca A2 nr cr x) : TrL R' S' w' A na ca A2 nr cr x :=
  ⟨lst_keep h.t_s (slR_keep hR hS hk) hS hk, lst_keep h.t_r (fun _ _ h => h) hS hk, h.t_ns, h.t_nr⟩
theorem trR_keep (hS : ∀ g, S g → S' g) (hk : Stay S w w') : ∀ (n : Nat) cs t, trR S n w cs t → trR S' n w' cs t
  | 0, _, _, h => h.elim
  | n + 1, _, _, ⟨A, na, ca, A2, nr, cr, e, h⟩ => ⟨A, na, ca, A2, nr, cr, e, trL_keep (trR_keep hS hk n) hS hk h⟩
/-- A tree whose trees within are read down to a level. -/
def TrAt (S : Nat → Prop) (n : Nat) (w : World) (A : Option Addr) (na ca : Nat) (A2 : Option Addr) (nr cr : Nat) (x : Tr) : Prop := TrL (trR S n) S w A na ca A2 nr cr x
theorem trAt_keep {n : Nat} {A A2 : Option Addr} {na ca nr cr : Nat} {x : Tr} (h : TrAt S n w A na ca A2 nr cr x) (hS : ∀ g, S g → S' g) (hk : Stay S w w') : TrAt S' n w' A na ca A2 nr cr x :=
  trL_keep (trR_keep hS hk n) hS hk h
theorem trAt_bel {n : Nat} {A A2 : Option Addr} {na ca nr cr : Nat} {x : Tr} (h : TrAt S n w A na ca A2 nr cr x) (hb : Below w.heap.size w w') : TrAt S n w' A na ca A2 nr cr x := trAt_keep h (fun _ h => h) (stay_bel hb)
theorem trAt_max {n : Nat} {A A2 : Option Addr} {na ca nr cr : Nat} {x : Tr} (h : TrAt S n w A na ca A2 nr cr x) : na ≤ ca ∧ ca ≤ 9223372036854775807 ∧ nr ≤ cr ∧ cr ≤ 9223372036854775807 := by
  have h1 := h.t_s.l_le
  have h2 := h.t_s.l_max
  have h3 := h.t_r.l_le
  have h4 := h.t_r.l_max
  unfold maxLen at h2 h4
  rw [← h.t_ns] at h1
  rw [← h.t_nr] at h3
  exact ⟨h1, h2, h3, h4⟩
/-- Values: their trees read down to a level. -/
def VsAt (S : Nat → Prop) (n : Nat) (w : World) (A : Option Addr) (c : Nat) (l : List Va) : Prop := Lst 3 S (vaR (trR S n) S) w A c l
theorem vsAt_keep {n : Nat} {A : Option Addr} {c : Nat} {l : List Va} (h : VsAt S n w A c l) (hS : ∀ g, S g → S' g) (hk : Stay S w w') : VsAt S' n w' A c l :=
  lst_keep h (vaR_keep (trR_keep hS hk n) hS hk) hS hk
theorem vsAt_bel {n : Nat} {A : Option Addr} {c : Nat} {l : List Va} (h : VsAt S n w A c l) (hb : Below w.heap.size w w') : VsAt S n w' A c l := vsAt_keep h (fun _ h => h) (stay_bel hb)
def KsAt (S : Nat → Prop) (n : Nat) (w : World) (A : Option Addr) (c : Nat) (l : List Tr) : Prop := Lst 2 S (trR S n) w A c l
end

section
variable {S : Nat → Prop} {n : Nat} {w : World} {A : Option Addr} {cap i : Nat}
theorem rw_at {l : List Rw} {x : Rw} (h : Lst 4 S rwR w A cap l) (hi : l[i]? = some x) : ∃ g off, A = some ⟨g, off, none⟩ ∧ S g ∧ ∀ wr, Stay S w wr → wr.cell? ⟨g, off + i * 4, none⟩ = some (.int .i64 x.num) ∧ wr.cell? ⟨g, off + i * 4 + 1, none⟩ = some (.int .i64 x.wire) ∧ wr.cell? ⟨g, off + i * 4 + 2, none⟩ = some (.int .u64 (x.n : Int)) ∧ wr.cell? ⟨g, off + i * 4 + 3, none⟩ = some (.string (strOf x.s)) := by
  obtain ⟨g, off, cs, e, hs, _, rfl, hc⟩ := h.l_at i x hi
  exact ⟨g, off, e, hs, fun wr hb => ⟨(hb _ hs (lt_of_cell (hc 0 _ rfl))).trans (hc 0 _ rfl), (hb _ hs (lt_of_cell (hc 0 _ rfl))).trans (hc 1 _ rfl), (hb _ hs (lt_of_cell (hc 0 _ rfl))).trans (hc 2 _ rfl), (hb _ hs (lt_of_cell (hc 0 _ rfl))).trans (hc 3 _ rfl)⟩⟩
theorem sl_at {l : List Slt} {x : Slt} (h : Lst 2 S (slR (trR S n) S) w A cap l) (hi : l[i]? = some x) : ∃ g off A1 c1, A = some ⟨g, off, none⟩ ∧ S g ∧ (∀ wr, Stay S w wr → wr.cell? ⟨g, off + i * 2, none⟩ = some (.int .i64 x.snum) ∧ wr.cell? ⟨g, off + i * 2 + 1, none⟩ = some (.slice A1 x.svals.length c1)) ∧ VsAt S n w A1 c1 x.svals := by
  obtain ⟨g, off, cs, e, hs, _, ⟨A1, c1, rfl, h1⟩, hc⟩ := h.l_at i x hi
  exact ⟨g, off, A1, c1, e, hs, fun wr hb => ⟨(hb _ hs (lt_of_cell (hc 0 _ rfl))).trans (hc 0 _ rfl), (hb _ hs (lt_of_cell (hc 0 _ rfl))).trans (hc 1 _ rfl)⟩, h1⟩
theorem va_at {l : List Va} {x : Va} (h : VsAt S n w A cap l) (hi : l[i]? = some x) : ∃ g off A1 c1, A = some ⟨g, off, none⟩ ∧ S g ∧ (∀ wr, Stay S w wr → wr.cell? ⟨g, off + i * 3, none⟩ = some (.int .u64 (x.vn : Int)) ∧ wr.cell? ⟨g, off + i * 3 + 1, none⟩ = some (.string (strOf x.vs)) ∧ wr.cell? ⟨g, off + i * 3 + 2, none⟩ = some (.slice A1 x.vm.length c1)) ∧ KsAt S n w A1 c1 x.vm := by
  obtain ⟨g, off, cs, e, hs, _, ⟨A1, c1, rfl, h1⟩, hc⟩ := h.l_at i x hi
  exact ⟨g, off, A1, c1, e, hs, fun wr hb => ⟨(hb _ hs (lt_of_cell (hc 0 _ rfl))).trans (hc 0 _ rfl), (hb _ hs (lt_of_cell (hc 0 _ rfl))).trans (hc 1 _ rfl), (hb _ hs (lt_of_cell (hc 0 _ rfl))).trans (hc 2 _ rfl)⟩, h1⟩
theorem kid_at {l : List Tr} {x : Tr} (h : KsAt S n w A cap l) (hi : l[i]? = some x) : ∃ m g off A1 na c1 A2 nr c2, n = m + 1 ∧ A = some ⟨g, off, none⟩ ∧ S g ∧ (∀ wr, Stay S w wr → wr.cell? ⟨g, off + i * 2, none⟩ = some (.slice A1 na c1) ∧ wr.cell? ⟨g, off + i * 2 + 1, none⟩ = some (.slice A2 nr c2)) ∧ TrAt S m w A1 na c1 A2 nr c2 x := by
  obtain ⟨g, off, cs, e, hs, _, hr, hc⟩ := h.l_at i x hi
  match n, hr with
  | m + 1, ⟨A1, na, c1, A2, nr, c2, e2, h1⟩ =>
    subst e2
    exact ⟨m, g, off, A1, na, c1, A2, nr, c2, rfl, e, hs, fun wr hb => ⟨(hb _ hs (lt_of_cell (hc 0 _ rfl))).trans (hc 0 _ rfl), (hb _ hs (lt_of_cell (hc 0 _ rfl))).trans (hc 1 _ rfl)⟩, h1⟩
theorem raws_of {l : List Rw} (h : Lst 4 S rwR w A cap l) : Raws w A cap l :=
  ⟨h.l_le, by have := h.l_max; unfold maxLen at this; omega, fun j x hj => by
    obtain ⟨g, off, e, _, hc⟩ := rw_at h hj
    obtain ⟨c0, c1, c2, c3⟩ := hc w (stay_refl _ _)
    exact ⟨g, off, e, c0, c1, c2, c3⟩⟩
end

instance : Inhabited Rw := ⟨⟨0, 0, 0, []⟩⟩
section
variable {H : Type} {enc : TypeId × Value → H} {w : World} {base : Nat} {spare : Nat → Bool} {held : Bool}
end
end Go.Proofs.YtpfdnggacpehdaaGreatDoor

/- The document's layer 19: which trees are the same. Conditions: those that each theorem names. -/
namespace Go.Proofs.YtpfdnggacpehdaaGreatDoor
open Go.RowKit
set_option linter.unusedVariables false
set_option maxRecDepth 100000

/-- The bool says p. -/
def Tells (r : Bool) (p : Prop) : Prop := r = true ↔ p
theorem tells_yes {p : Prop} (h : p) : Tells true p := ⟨fun _ => h, fun _ => rfl⟩
theorem tells_no {p : Prop} (h : ¬ p) : Tells false p := ⟨(fun e => by cases e), fun e => absurd e h⟩
theorem tells_is {p : Prop} (h : Tells true p) : p := h.1 rfl
theorem tells_not {p : Prop} (h : Tells false p) : ¬ p := fun e => by have := h.2 e; cases this
/-- A bool that says p; nothing that was there has changed. -/
def SmTo (w : World) (p : Prop) (e : Ending) (w' : World) : Prop := ∃ r : Bool, e = .returned (.bool r) ∧ Tells r p ∧ Below w.heap.size w w'
def SameOk (n : Nat) : Prop := ∀ (S S' : Nat → Prop) (m : Nat) (w : World) (A : Option Addr) (na ca : Nat) (A2 : Option Addr) (nr cr : Nat) (B : Option Addr) (nb cb : Nat) (B2 : Option Addr) (ns cs : Nat) (x y : Tr),
  TrAt S n w A na ca A2 nr cr x → TrAt S' m w B nb cb B2 ns cs y → Calls Tryz.prog 12 #[.agg #[.slice A na ca, .slice A2 nr cr], .agg #[.slice B nb cb, .slice B2 ns cs]] w (SmTo w (x = y))
theorem bel_more {a b c : World} (h : Below a.heap.size a b) (k : Below b.heap.size b c) : Below a.heap.size a c := h.trans (k.mono h.size)
theorem strs_same {a b : List UInt8} : ((strOf a).toList == (strOf b).toList) = decide (a = b) := strOf_beq a b

set_option maxHeartbeats 8000000 in
theorem rsvals_any {S S' : Nat → Prop} {n m : Nat} (H : ∀ k, n = k + 1 → SameOk k) (w : World) {A B : Option Addr} {na ca nb cb : Nat} {l k : List Va} (h : VsAt S n w A ca l) (h' : VsAt S' m w B cb k) (hna : na = l.length) (hnb : nb = k.length) :
    Calls Tryz.prog 34 #[.slice A na ca, .slice B nb cb] w (SmTo w (l = k)) := by
  have q1 := h.l_le
  have q2 := h.l_max
  have q3 := h'.l_le
  have q4 := h'.l_max
  rw [← hna] at q1
  rw [← hnb] at q3
  unfold maxLen at q2 q4
  have HA := Lib.hid h
  have HB := Lib.hid h'
  have HN := Lib.hid hna
  have HM := Lib.hid hnb
  have HS := Lib.hid H
  clear h h' H
  by_cases hl : na = nb
  · subst hl
    clear hna hnb
    go_enter Tryz.func34, Tryz.ntmps34
    go_wp2
    go_loopg [5] na (fun gz x0 wr => ∃ i : Nat, x0 = .int .i64 (i : Int) ∧ i + gz = na ∧ (∀ (j : Nat) x y, j < i → l[j]? = some x → k[j]? = some y → x = y) ∧ Below w.heap.size w wr)
    case atStart => exact ⟨0, rfl, by omega, fun j x y hj => absurd hj (Nat.not_lt_zero _), Below.refl _ _⟩
    case round =>
      obtain ⟨i, rfl, hi, hall, hbel⟩ := hrel
      have HALL := Lib.hid hall
      have HBE := Lib.hid hbel
      clear hall hbel
      obtain ⟨g0, hg0⟩ : ∃ g0, g0 = gk := ⟨_, rfl⟩
      subst hg0
      by_cases hlti : i < na
      · have ti : decide ((i : Int) < (na : Int)) = true := decide_eq_true (by omega)
        obtain ⟨x, hx⟩ : ∃ x, l[i]? = some x := ⟨_, List.getElem?_eq_getElem (by have := HN.out; omega)⟩
        obtain ⟨y, hy⟩ : ∃ y, k[i]? = some y := ⟨_, List.getElem?_eq_getElem (by have := HM.out; omega)⟩
        have HXI := Lib.hid hx
        have HYI := Lib.hid hy
        obtain ⟨gx, ox, A1, c1, rfl, _, hcx, hkx⟩ := va_at HA.out hx
        obtain ⟨gy, oy, B1, d1, rfl, _, hcy, hky⟩ := va_at HB.out hy
        clear hx hy
        have HKX := Lib.hid hkx
        have HKY := Lib.hid hky
        have z1 := hkx.l_le
        have z2 := hkx.l_max
        have z3 := hky.l_le
        have z4 := hky.l_max
        unfold maxLen at z2 z4
        clear hkx hky
        obtain ⟨nx, sx, mx⟩ := x
        obtain ⟨ny, sy, my⟩ := y
        dsimp only at hcx hcy z1 z3
        obtain ⟨lx, hlx⟩ : ∃ z, z = mx.length := ⟨_, rfl⟩
        obtain ⟨ly, hly⟩ : ∃ z, z = my.length := ⟨_, rfl⟩
        rw [← hlx] at hcx z1
        rw [← hly] at hcy z3
        have HLX := Lib.hid hlx
        have HLY := Lib.hid hly
        clear hlx hly
        by_cases e1 : nx = ny
        · subst e1
          by_cases e2 : sx = sy
          · subst e2
            obtain ⟨st, hst⟩ : ∃ z, z = strOf sx := ⟨_, rfl⟩
            rw [← hst] at hcx hcy
            clear hst
            have HCX := Lib.hid hcx
            have HCY := Lib.hid hcy
            clear hcx hcy
            by_cases e3 : lx = ly
            · subst e3
              obtain ⟨c0, c1', c2⟩ := HCX.out _ (stay_bel HBE.out)
              obtain ⟨d0, d1', d2⟩ := HCY.out _ (stay_bel HBE.out)
              go_wp2
              go_quiet (fail)
              go_wp2
              clear c0 c1' c2 d0 d1' d2
              have HBQ := Lib.hid (bel_more HBE.out (drewN_under wr nq))
              go_loopg [6] lx (fun gz x0 wr => ∃ q : Nat, x0 = .int .i64 (q : Int) ∧ q + gz = lx ∧ (∀ (j : Nat) x y, j < q → mx[j]? = some x → my[j]? = some y → x = y) ∧ Below w.heap.size w wr)
              case atStart => exact ⟨0, rfl, by omega, fun j x y hj => absurd hj (Nat.not_lt_zero _), HBQ.out⟩
              case round =>
                obtain ⟨q, rfl, hq, hall2, hbel⟩ := hrel
                have HALM := Lib.hid hall2
                have HBF := Lib.hid hbel
                clear hall2 hbel
                obtain ⟨g1, hg1⟩ : ∃ g1, g1 = gk := ⟨_, rfl⟩
                subst hg1
                obtain ⟨c0, c1', c2⟩ := HCX.out _ (stay_bel HBF.out)
                obtain ⟨d0, d1', d2⟩ := HCY.out _ (stay_bel HBF.out)
                by_cases hltq : q < lx
                · have tq : decide ((q : Int) < (lx : Int)) = true := decide_eq_true (by omega)
                  obtain ⟨t, ht⟩ : ∃ t, mx[q]? = some t := ⟨_, List.getElem?_eq_getElem (by have := HLX.out; omega)⟩
                  obtain ⟨u, hu⟩ : ∃ u, my[q]? = some u := ⟨_, List.getElem?_eq_getElem (by have := HLY.out; omega)⟩
                  have HTI := Lib.hid ht
                  have HUI := Lib.hid hu
                  obtain ⟨k1, ga, oa, C1, n1, cc1, C2, n2, cc2, hk1, rfl, _, hca, hta⟩ := kid_at HKX.out ht
                  obtain ⟨k2, gb, ob, D1, m1, dd1, D2, m2, dd2, hk2, rfl, _, hcb, htb⟩ := kid_at HKY.out hu
                  have HC := Lib.hid (fun u (hb : Below w.heap.size w u) => HS.out k1 hk1 _ _ _ u _ _ _ _ _ _ _ _ _ _ _ _ _ _ (trAt_bel hta hb) (trAt_bel htb hb))
                  have HCA := Lib.hid hca
                  have HCB := Lib.hid hcb
                  obtain ⟨a0, a1⟩ := hca _ (stay_bel HBF.out)
                  obtain ⟨b0, b1⟩ := hcb _ (stay_bel HBF.out)
                  have HK : Hid (∀ u, Below w.heap.size w u → u.cell? ⟨gx, ox + i * 3 + 2, none⟩ = some (.slice (some ⟨ga, oa, none⟩) lx c1) ∧ u.cell? ⟨gy, oy + i * 3 + 2, none⟩ = some (.slice (some ⟨gb, ob, none⟩) lx d1) ∧ u.cell? ⟨ga, oa + q * 2, none⟩ = some (.slice C1 n1 cc1) ∧ u.cell? ⟨ga, oa + q * 2 + 1, none⟩ = some (.slice C2 n2 cc2) ∧ u.cell? ⟨gb, ob + q * 2, none⟩ = some (.slice D1 m1 dd1) ∧ u.cell? ⟨gb, ob + q * 2 + 1, none⟩ = some (.slice D2 m2 dd2)) :=
                    Lib.hid (fun u hb => ⟨(HCX.out _ (stay_bel hb)).2.2, (HCY.out _ (stay_bel hb)).2.2, (HCA.out _ (stay_bel hb)).1, (HCA.out _ (stay_bel hb)).2, (HCB.out _ (stay_bel hb)).1, (HCB.out _ (stay_bel hb)).2⟩)
                  have HBD := Lib.hid (bel_more HBF.out (drewN_under wr 1))
                  clear ht hu hta htb hk1 hk2 hca hcb
                  go_wp2
                  go_region_held3 (fun w' => w'.cell? ⟨gx, ox + i * 3 + 2, none⟩ = some (.slice (some ⟨ga, oa, none⟩) lx c1) ∧ w'.cell? ⟨gy, oy + i * 3 + 2, none⟩ = some (.slice (some ⟨gb, ob, none⟩) lx d1) ∧ w'.cell? ⟨ga, oa + q * 2, none⟩ = some (.slice C1 n1 cc1) ∧ w'.cell? ⟨ga, oa + q * 2 + 1, none⟩ = some (.slice C2 n2 cc2) ∧ w'.cell? ⟨gb, ob + q * 2, none⟩ = some (.slice D1 m1 dd1) ∧ w'.cell? ⟨gb, ob + q * 2 + 1, none⟩ = some (.slice D2 m2 dd2))
                    (first | exact HK.out _ HBG.out | exact HK.out _ HBF.out | exact HK.out _ HBD.out)
                    (first
                      | (go_at_call 12; refine (HC.out _ HBD.out).mono ?_; rintro e w2 ⟨r, rfl, hr, hb⟩; have HR := Lib.hid hr; have HBG := Lib.hid (bel_more HBD.out hb); clear hr hb))
                  cases r with
                  | true =>
                    go_wp2
                    go_roundg (g1 - 1)
                    case measure => omega
                    case rel => exact ⟨q + 1, by go_num, by omega, (fun j x y hj hx hy => by
                          by_cases hjq : j < q
                          · exact HALM.out j x y hjq hx hy
                          · have : j = q := by omega
                            subst this
                            have e1 := HTI.out.symm.trans hx
                            have e2 := HUI.out.symm.trans hy
                            injection e1 with e1
                            injection e2 with e2
                            rw [← e1, ← e2]
                            exact tells_is HR.out), HBG.out⟩
                  | false =>
                    have HO : Hid (¬ l = k) := Lib.hid (fun h => tells_not HR.out (by
                      have := HXI.out
                      rw [h] at this
                      have e1 := this.symm.trans HYI.out
                      injection e1 with e1
                      injection e1 with _ _ e4
                      have e5 := HTI.out
                      rw [e4] at e5
                      have e6 := e5.symm.trans HUI.out
                      injection e6))
                    go_wp2
                    go_ret
                    exact ⟨false, rfl, tells_no HO.out, HBG.out⟩
                · have tq : decide ((q : Int) < (lx : Int)) = false := decide_eq_false (by omega)
                  have HEQ : Hid (mx = my) := Lib.hid (lists_eq (by have := HLX.out; have := HLY.out; omega) (fun j x y hx hy => HALM.out j x y (by have := (List.getElem?_eq_some_iff.mp hx).1; have := HLX.out; omega) hx hy))
                  go_wp2
                  go_roundg (g0 - 1)
                  case measure => omega
                  case rel => exact ⟨i + 1, by go_num, by omega, (fun j x y hj hx hy => by
                          by_cases hji : j < i
                          · exact HALL.out j x y hji hx hy
                          · have : j = i := by omega
                            subst this
                            have e1 := HXI.out.symm.trans hx
                            have e2 := HYI.out.symm.trans hy
                            injection e1 with e1
                            injection e2 with e2
                            rw [← e1, ← e2, HEQ.out]), HBF.out⟩
            · have t3 : ((lx : Int) == (ly : Int)) = false := beq_false_of_ne (by omega)
              have t4 : ((lx : Int) != (ly : Int)) = true := by simp; omega
              have HO : Hid (¬ l = k) := Lib.hid (fun h => e3 (by
                have := HXI.out
                rw [h] at this
                have e1 := this.symm.trans HYI.out
                injection e1 with e1
                injection e1 with _ _ e4
                rw [HLX.out, HLY.out, e4]))
              obtain ⟨c0, c1', c2⟩ := HCX.out _ (stay_bel HBE.out)
              obtain ⟨d0, d1', d2⟩ := HCY.out _ (stay_bel HBE.out)
              go_wp2
              go_quiet (fail)
              go_wp2
              go_ret
              exact ⟨false, rfl, tells_no HO.out, bel_more HBE.out (drewN_under wr _)⟩
          · have t1 : ((strOf sx).toList == (strOf sy).toList) = false := by rw [strs_same]; exact decide_eq_false e2
            have t2 : ¬ (strOf sx).toList = (strOf sy).toList := by intro h; rw [h, beq_self_eq_true] at t1; cases t1
            have HO : Hid (¬ l = k) := Lib.hid (fun h => e2 (by
              have := HXI.out
              rw [h] at this
              have e1 := this.symm.trans HYI.out
              injection e1 with e1
              injection e1))
            obtain ⟨c0, c1', c2⟩ := hcx _ (stay_bel HBE.out)
            obtain ⟨d0, d1', d2⟩ := hcy _ (stay_bel HBE.out)
            obtain ⟨ssx, hsx⟩ : ∃ z, z = strOf sx := ⟨_, rfl⟩
            obtain ⟨ssy, hsy⟩ : ∃ z, z = strOf sy := ⟨_, rfl⟩
            rw [← hsx, ← hsy] at t1 t2
            rw [← hsx] at c1'
            rw [← hsy] at d1'
            clear hcx hcy hsx hsy
            go_wp2
            go_quiet (fail)
            go_wp2
            go_ret
            exact ⟨false, rfl, tells_no HO.out, bel_more HBE.out (drewN_under wr _)⟩
        · have t1 : ((nx : Int) == (ny : Int)) = false := beq_false_of_ne (by omega)
          have t2 : ((nx : Int) != (ny : Int)) = true := by simp; omega
          have HO : Hid (¬ l = k) := Lib.hid (fun h => e1 (by
            have := HXI.out
            rw [h] at this
            have e1 := this.symm.trans HYI.out
            injection e1 with e1
            injection e1))
          obtain ⟨c0, c1', c2⟩ := hcx _ (stay_bel HBE.out)
          obtain ⟨d0, d1', d2⟩ := hcy _ (stay_bel HBE.out)
          clear hcx hcy
          go_wp2
          go_quiet (fail)
          go_wp2
          go_ret
          exact ⟨false, rfl, tells_no HO.out, bel_more HBE.out (drewN_under wr _)⟩
      · have ti : decide ((i : Int) < (na : Int)) = false := decide_eq_false (by omega)
        have HO : Hid (l = k) := Lib.hid (lists_eq (by have := HN.out; have := HM.out; omega) (fun j x y hx hy => HALL.out j x y (by have := (List.getElem?_eq_some_iff.mp hx).1; have := HN.out; omega) hx hy))
        go_wp2
        go_ret
        exact ⟨true, rfl, tells_yes HO.out, HBE.out⟩
  · have t3 : ((na : Int) == (nb : Int)) = false := beq_false_of_ne (by omega)
    have t4 : ((na : Int) != (nb : Int)) = true := by simp; omega
    have t5 : ¬ na = nb := hl
    have HO : Hid (¬ l = k) := Lib.hid (fun e => hl (by rw [hna, hnb, e]))
    clear hna hnb
    go_enter Tryz.func34, Tryz.ntmps34
    go_wp2
    go_ret
    exact ⟨false, rfl, tells_no HO.out, Below.refl _ _⟩

set_option maxHeartbeats 8000000 in
theorem rsame_step {n : Nat} (H : ∀ k, n = k + 1 → SameOk k) : SameOk n := by
  intro S S' m w A na ca A2 nr cr B nb cb B2 ns cs x y h h'
  obtain ⟨q1, q2, q3, q4⟩ := trAt_max h
  obtain ⟨p1, p2, p3, p4⟩ := trAt_max h'
  have HA := Lib.hid h
  have HB := Lib.hid h'
  have HS := Lib.hid H
  have HW : Hid (∀ u, Below w.heap.size w u → Calls Tryz.prog 33 #[.slice A2 nr cr, .slice B2 ns cs] u fun e w' => e = .returned (.bool (sameR x.rest y.rest)) ∧ Below u.heap.size u w') :=
    Lib.hid (fun u hb => (rsame_raw u (raws_of (trAt_bel h hb).t_r) (raws_of (trAt_bel h' hb).t_r) h.t_nr h'.t_nr).mono fun e w' h => ⟨h.1, by obtain ⟨k, rfl⟩ := h.2; exact drewN_under u k⟩)
  have HBX := Lib.hid (bx2_start w #[.slice A na ca, .slice A2 nr cr] #[.slice B nb cb, .slice B2 ns cs] 33 33)
  have r0 := obj_cell (HBX.out).b2_one 0
  have s0 := obj_cell (HBX.out).b2_two 0
  have r1 := obj_cell (HBX.out).b2_one 1
  have s1 := obj_cell (HBX.out).b2_two 1
  by_cases hl : na = nb
  · subst hl
    cases hsr : sameR x.rest y.rest with
    | true =>
      rw [hsr] at HW
      have HRE := Lib.hid ((sameR_iff _ _).1 hsr)
      clear h h' H hsr
      go_enter Tryz.func12, Tryz.ntmps12
      go_wp2_with (first
        | (go_at_call 33; refine (HW.out _ HBX.out.b2_bel).mono ?_; rintro e w1 ⟨rfl, hb⟩; replace HBX := Lib.hid (bx2_step HBX.out hb); clear hb; have r0 := obj_cell HBX.out.b2_one 0; have s0 := obj_cell HBX.out.b2_two 0))
      clear r0 s0 r1 s1
      go_loopg [5] na (fun gz x0 wr => ∃ i : Nat, x0 = .int .i64 (i : Int) ∧ i + gz = na ∧ (∀ (j : Nat) a b, j < i → x.slots[j]? = some a → y.slots[j]? = some b → a = b) ∧ Bx2 w wr (.cells #[.slice A na ca, .slice A2 nr cr] 33 (0, 0)) (.cells #[.slice B na cb, .slice B2 ns cs] 33 (0, 0)))
      case atStart => exact ⟨0, rfl, by omega, fun j x y hj => absurd hj (Nat.not_lt_zero _), HBX.out⟩
      case round =>
        obtain ⟨i, rfl, hi, hall, hbx⟩ := hrel
        have HALL := Lib.hid hall
        have HBX := Lib.hid hbx
        clear hall hbx
        obtain ⟨g0, hg0⟩ : ∃ g0, g0 = gk := ⟨_, rfl⟩
        subst hg0
        have r0 := obj_cell HBX.out.b2_one 0
        have s0 := obj_cell HBX.out.b2_two 0
        by_cases hlti : i < na
        · have ti : decide ((i : Int) < (na : Int)) = true := decide_eq_true (by omega)
          obtain ⟨a, ha⟩ : ∃ a, x.slots[i]? = some a := ⟨_, List.getElem?_eq_getElem (by have := HA.out.t_ns; omega)⟩
          obtain ⟨b, hb⟩ : ∃ b, y.slots[i]? = some b := ⟨_, List.getElem?_eq_getElem (by have := HB.out.t_ns; omega)⟩
          have HAI := Lib.hid ha
          have HBI := Lib.hid hb
          obtain ⟨ga, oa, A1, c1, rfl, _, hca, hva⟩ := sl_at HA.out.t_s ha
          obtain ⟨gb, ob, B1, d1, rfl, _, hcb, hvb⟩ := sl_at HB.out.t_s hb
          obtain ⟨num1, vals1⟩ := a
          obtain ⟨num2, vals2⟩ := b
          dsimp only at hca hcb hva hvb
          obtain ⟨la, hla⟩ : ∃ z, z = vals1.length := ⟨_, rfl⟩
          obtain ⟨lb, hlb⟩ : ∃ z, z = vals2.length := ⟨_, rfl⟩
          have HC := Lib.hid (fun u (hb : Below w.heap.size w u) => rsvals_any HS.out u (vsAt_bel hva hb) (vsAt_bel hvb hb) hla hlb)
          rw [← hla] at hca
          rw [← hlb] at hcb
          have HCA := Lib.hid hca
          have HCB := Lib.hid hcb
          obtain ⟨a0, a1⟩ := hca _ (stay_bel HBX.out.b2_bel)
          obtain ⟨b0, b1⟩ := hcb _ (stay_bel HBX.out.b2_bel)
          clear ha hb hla hlb hca hcb hva hvb
          by_cases e1 : num1 = num2
          · subst e1
            have HBD := Lib.hid (bx2_step HBX.out (drewN_under wr 1))
            have HK : Hid (∀ u, Bx2 w u (.cells #[.slice (some ⟨ga, oa, none⟩) na ca, .slice A2 nr cr] 33 (0, 0)) (.cells #[.slice (some ⟨gb, ob, none⟩) na cb, .slice B2 ns cs] 33 (0, 0)) → u.cell? ⟨w.heap.size, 0, none⟩ = some (.slice (some ⟨ga, oa, none⟩) na ca) ∧ u.cell? ⟨w.heap.size + 1, 0, none⟩ = some (.slice (some ⟨gb, ob, none⟩) na cb) ∧ u.cell? ⟨ga, oa + i * 2, none⟩ = some (.int .i64 num1) ∧ u.cell? ⟨ga, oa + i * 2 + 1, none⟩ = some (.slice A1 la c1) ∧ u.cell? ⟨gb, ob + i * 2, none⟩ = some (.int .i64 num1) ∧ u.cell? ⟨gb, ob + i * 2 + 1, none⟩ = some (.slice B1 lb d1)) :=
              Lib.hid (fun u hu => ⟨obj_cell hu.b2_one 0, obj_cell hu.b2_two 0, (HCA.out _ (stay_bel hu.b2_bel)).1, (HCA.out _ (stay_bel hu.b2_bel)).2, (HCB.out _ (stay_bel hu.b2_bel)).1, (HCB.out _ (stay_bel hu.b2_bel)).2⟩)
            go_wp2
            go_region_held3 (fun u => u.cell? ⟨w.heap.size, 0, none⟩ = some (.slice (some ⟨ga, oa, none⟩) na ca) ∧ u.cell? ⟨w.heap.size + 1, 0, none⟩ = some (.slice (some ⟨gb, ob, none⟩) na cb) ∧ u.cell? ⟨ga, oa + i * 2, none⟩ = some (.int .i64 num1) ∧ u.cell? ⟨ga, oa + i * 2 + 1, none⟩ = some (.slice A1 la c1) ∧ u.cell? ⟨gb, ob + i * 2, none⟩ = some (.int .i64 num1) ∧ u.cell? ⟨gb, ob + i * 2 + 1, none⟩ = some (.slice B1 lb d1))
              (first | exact HK.out _ HBG.out | exact HK.out _ HBX.out | exact HK.out _ HBD.out)
              (first
                | (go_at_call 34; refine (HC.out _ HBD.out.b2_bel).mono ?_; rintro e w2 ⟨r, rfl, hr, hb⟩; have HR := Lib.hid hr; have HBG := Lib.hid (bx2_step HBD.out hb); clear hr hb))
            cases r with
            | true =>
              go_wp2
              go_roundg (g0 - 1)
              case measure => omega
              case rel => exact ⟨i + 1, by go_num, by omega, (fun j a b hj hx hy => by
                    by_cases hjq : j < i
                    · exact HALL.out j a b hjq hx hy
                    · have : j = i := by omega
                      subst this
                      have e1 := HAI.out.symm.trans hx
                      have e2 := HBI.out.symm.trans hy
                      injection e1 with e1
                      injection e2 with e2
                      rw [← e1, ← e2, tells_is HR.out]), HBG.out⟩
            | false =>
              have HO : Hid (¬ x = y) := Lib.hid (fun h => tells_not HR.out (by
                have := HAI.out
                rw [h] at this
                have e1 := this.symm.trans HBI.out
                injection e1 with e1
                injection e1))
              go_wp2
              go_ret
              exact ⟨false, rfl, tells_no HO.out, HBG.out.b2_bel⟩
          · have t1 : (num1 == num2) = false := beq_false_of_ne e1
            have t2 : (num1 != num2) = true := by simp [e1]
            have HO : Hid (¬ x = y) := Lib.hid (fun h => e1 (by
                have := HAI.out
                rw [h] at this
                have e1 := this.symm.trans HBI.out
                injection e1 with e1
                injection e1))
            go_wp2
            go_quiet (fail)
            go_wp2
            go_ret
            exact ⟨false, rfl, tells_no HO.out, bel_more HBX.out.b2_bel (drewN_under wr _)⟩
        · have ti : decide ((i : Int) < (na : Int)) = false := decide_eq_false (by omega)
          have HO : Hid (x = y) := Lib.hid (tr_ext (lists_eq (by have := HA.out.t_ns; have := HB.out.t_ns; omega) (fun j a b hx hy => HALL.out j a b (by have := (List.getElem?_eq_some_iff.mp hx).1; have := HA.out.t_ns; omega) hx hy)) HRE.out)
          go_wp2
          go_ret
          exact ⟨true, rfl, tells_yes HO.out, HBX.out.b2_bel⟩
    | false =>
      rw [hsr] at HW
      have HO : Hid (¬ x = y) := Lib.hid (fun e => by rw [e, sameR_self] at hsr; cases hsr)
      clear h h' H hsr
      go_enter Tryz.func12, Tryz.ntmps12
      go_wp2_with (first
        | (go_at_call 33; refine (HW.out _ HBX.out.b2_bel).mono ?_; rintro e w1 ⟨rfl, hb⟩; replace HBX := Lib.hid (bx2_step HBX.out hb); clear hb))
      go_ret
      exact ⟨false, rfl, tells_no HO.out, HBX.out.b2_bel⟩
  · have t3 : ((na : Int) == (nb : Int)) = false := beq_false_of_ne (by omega)
    have t4 : ((na : Int) != (nb : Int)) = true := by simp; omega
    have t5 : ¬ na = nb := hl
    have HO : Hid (¬ x = y) := Lib.hid (fun e => hl (by rw [h.t_ns, h'.t_ns, e]))
    clear h h' H
    go_enter Tryz.func12, Tryz.ntmps12
    go_wp2
    go_ret
    exact ⟨false, rfl, tells_no HO.out, HBX.out.b2_bel⟩
theorem rtsame_any : ∀ n, SameOk n
  | 0 => rsame_step (fun k h => by cases h)
  | n + 1 => rsame_step (fun k h => by cases h; exact rtsame_any n)
end Go.Proofs.YtpfdnggacpehdaaGreatDoor

/- The document's layer 19: which trees are small. Conditions: those that each theorem names. -/
namespace Go.Proofs.YtpfdnggacpehdaaGreatDoor
open Go.RowKit
set_option linter.unusedVariables false
set_option maxRecDepth 100000

theorem st_size (l : List UInt8) : (strOf l).size = l.length := by simp [strOf, ByteArray.size]
end Go.Proofs.YtpfdnggacpehdaaGreatDoor
