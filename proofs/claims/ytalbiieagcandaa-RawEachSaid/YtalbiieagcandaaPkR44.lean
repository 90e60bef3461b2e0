/- Several texts in one: RawLaw. What each proves, and its conditions, stands at its own head. -/
import Derived.Test.YtalbiieagcandaaPkR20
import Derived.Test.YtalbiieagcandaaPkR35
import Derived.Test.YtalbiieagcandaaPkR43
import Derived.Test.YtalbiieagcandaaPkR37
import Derived.Test.YtalbiieagcandaaPkR1
import Derived.Deep.RegionHeld3
/- What is asked of the program's layer 7, and the page's example. Conditions: those that each theorem names. -/
namespace Go.Proofs.Ytalbiieagcandaa
open Go.RowKit
set_option linter.unusedVariables false
set_option maxRecDepth 100000

def PutTo (w : World) (l : List Rw) (e : Ending) (w' : World) : Prop :=
  ∃ (A : Option Addr) (n cap : Nat) (k : Int), e = .returned (.tuple #[.slice A n cap, .int .i64 k]) ∧ Below w.heap.size w w' ∧ (allR l = true → k = 0 ∧ n = (putR l).length ∧ Bs w' A cap (putR l)) ∧ (allR l = false → k = 1 ∧ n = 0)
def GetTo (w : World) (bs : List UInt8) (e : Ending) (w' : World) : Prop :=
  ∃ (A : Option Addr) (n cap : Nat) (k : Int), e = .returned (.tuple #[.slice A n cap, .int .i64 k]) ∧ Below w.heap.size w w' ∧ ((getR bs).2 = true → k = 0 ∧ n = (getR bs).1.length ∧ Raws w' A cap ((getR bs).1.map Prod.fst)) ∧ ((getR bs).2 = false → k = 8 ∧ n = 0)
/-- What is asked. -/
structure RawOk : Prop where
  right : ∀ x w, x.n < 18446744073709551616 → Calls Try.prog 8 #[rawV x] w fun e w' => e = .returned (.bool (okR x)) ∧ Below w.heap.size w w'
  put : ∀ w A cap n l, Raws w A cap l → n = l.length → (∀ x ∈ l, x.n < 18446744073709551616 ∧ x.s.length ≤ 1000) → l.length ≤ 1000 → Calls Try.prog 10 #[.slice A n cap] w (PutTo w l)
  get : ∀ w A cap n bs, Bs w A cap bs → n = bs.length → bs.length ≤ 1000000 → Calls Try.prog 15 #[.slice A n cap] w (GetTo w bs)
  same : ∀ w A cap n l A' cap' n' m, Raws w A cap l → Raws w A' cap' m → n = l.length → n' = m.length → Calls Try.prog 11 #[.slice A n cap, .slice A' n' cap'] w fun e w' => e = .returned (.bool (sameR l m)) ∧ Below w.heap.size w w'

theorem raws_lit (w : World) (l : List Rw) (t : TypeId) (h : l.length ≤ 1000) : Raws (w.alloc (.cells (rawRow l).toArray t)) (some ⟨w.heap.size, 0, none⟩) l.length l := by
  refine ⟨Nat.le_refl _, by omega, fun j x hj => ?_⟩
  have hjl := (List.getElem?_eq_some_iff.mp hj).1
  have hget : ∀ i, i < 4 → (rawRow l)[j * 4 + i]? = (rawCells x)[i]? := fun i hi => by rw [Nat.mul_comm j 4]; exact flat_get rawCells 4 rawCells_length l j x i hj hi
  have hc : ∀ i u, i < 4 → (rawCells x)[i]? = some u → (w.alloc (.cells (rawRow l).toArray t)).cell? ⟨w.heap.size, j * 4 + i, none⟩ = some u := fun i u hi hu => by
    rw [cell_of_row _ _ _ _ _ _ (heap_alloc_new w _)]
    simpa using (hget i hi).trans hu
  refine ⟨w.heap.size, 0, rfl, ?_, ?_, ?_, ?_⟩
  · have := hc 0 _ (by omega) rfl; rwa [Nat.zero_add]
  · have := hc 1 _ (by omega) rfl; rwa [Nat.zero_add]
  · have := hc 2 _ (by omega) rfl; rwa [Nat.zero_add]
  · have := hc 3 _ (by omega) rfl; rwa [Nat.zero_add]
def exL : List Rw := [⟨1, 0, 1, []⟩, ⟨2, 2, 0, [97]⟩]
theorem ex_get : getR [8, 1, 18, 1, 97] = ([(⟨1, 0, 1, []⟩, 0), (⟨2, 2, 0, [97]⟩, 2)], true) := by rfl
theorem num_any (k : Int) (w : World) : Calls Try.prog 14 #[.int .i64 k] w fun e w' => e = .returned (.int .i64 k) ∧ w = w' := by
  go_enter Try.func14, Try.ntmps14
  go_wp2
  go_ret
  exact ⟨rfl, rfl⟩
theorem rawlive_any (ok : RawOk) (w : World) : Calls Try.prog 7 #[] w fun e w' => e = .returned (.bool true) ∧ Below w.heap.size w w' := by
  have hb0 : Below w.heap.size w (w.alloc (.cells #[.int .u8 8, .int .u8 1, .int .u8 18, .int .u8 1, .int .u8 97] 5)) := (Below.refl _ w).alloc (Nat.le_refl _) _
  have HG := Lib.hid (ok.get (w.alloc (.cells #[.int .u8 8, .int .u8 1, .int .u8 18, .int .u8 1, .int .u8 97] 5)) (some ⟨w.heap.size, 0, none⟩) 5 5 [8, 1, 18, 1, 97] (Bs.lit w _ _ [8, 1, 18, 1, 97] rfl (by decide)) rfl (by decide))
  have HB0 := Lib.hid hb0
  clear hb0
  go_enter Try.func7, Try.ntmps7
  go_wp2_with (first
    | (go_at_call 15
       refine HG.out.mono ?_
       rintro e w1 ⟨A1, n1, cap1, k1, rfl, hb1, ht1, _⟩
       obtain ⟨hk, hn, hr1⟩ := ht1 (by rw [ex_get])
       rw [ex_get] at hn hr1
       subst hk hn
       have HB1 := Lib.hid (HB0.out.trans (hb1.mono HB0.out.size))
       have HR1 := Lib.hid hr1
       clear hb1 ht1 hr1)
    | (go_at_call 14; refine (num_any _ _).mono ?_; rintro e w2 ⟨rfl, rfl⟩)
    | (go_at_call 12; refine (rsame_raw _ (HR1.out.bel ((Below.refl _ _).alloc (Nat.le_refl _) _)) (raws_lit _ exL 28 (by decide)) rfl rfl).mono ?_; rintro e w3 ⟨rfl, k3, rfl⟩))
  go_ret
  exact ⟨ret_bool' (sameR_self exL), ((HB1.out.alloc HB1.out.size _).trans ((drawn_bel _ _).mono (by have := HB1.out.size; simp; omega)))⟩

set_option maxHeartbeats 1000000 in
theorem rawgets_walk (ok : RawOk) (w : World) (A : Option Addr) (cap : Nat) (bs : List UInt8) (hb : Bs w A cap bs) (hl : bs.length ≤ 140737488351232) :
    Calls Try.prog 4 #[.slice A bs.length cap] w fun e w' => e = .returned (.bool true) ∧ Below w.heap.size w w' := by
  have HLV : Hid (∀ w, Calls Try.prog 7 #[] w fun e w' => e = .returned (.bool true) ∧ Below w.heap.size w w') := Lib.hid (rawlive_any ok)
  have hle := hb.le
  have hmx := hb.max
  unfold maxLen at hmx
  have OK := Lib.hid ok
  obtain ⟨n, hn⟩ : ∃ n, n = bs.length := ⟨_, rfl⟩
  rw [← hn] at hle hl ⊢
  have HB := Lib.hid hb
  have HN := Lib.hid hn
  clear ok hb hn
  by_cases h1000 : n ≤ 1000
  · have g0 : decide ((n : Int) > 1000) = false := decide_eq_false (by omega)
    have HG := Lib.hid (OK.out.get w A cap n bs HB.out HN.out (by have := HN.out; omega))
    cases hok : (getR bs).2 with
    | false =>
      have HK := Lib.hid hok
      clear hok
      go_enter Try.func4, Try.ntmps4
      go_wp2_with (first
        | (go_at_call 15
           refine HG.out.mono ?_
           rintro e w1 ⟨A1, n1, cap1, k1, rfl, hb1, _, ht1⟩
           obtain ⟨hk, hn1⟩ := ht1 HK.out
           subst hk hn1
           have HB1 := Lib.hid hb1
           clear hb1 ht1)
        | (go_at_call 18
           refine (rget_raw _ (HB.out.below HB1.out (Nat.le_refl _)) HN.out (by have := HN.out; omega)).mono ?_
           rintro e w2 ⟨A2, cap2, A3, cap3, rfl, hr2, hs2, hb2⟩
           rw [HK.out]
           have HB2 := Lib.hid (HB1.out.trans (hb2.mono HB1.out.size))
           clear hr2 hs2 hb2)
        | (go_at_call 14; refine (num_any _ _).mono ?_; rintro e w2 ⟨rfl, rfl⟩)
        | (go_at_call 7; refine (HLV.out _).mono ?_; rintro e w5 ⟨rfl, hb5⟩))
      go_ret
      exact ⟨rfl, HB2.out.trans (hb5.mono HB2.out.size)⟩
    | true =>
      have HK := Lib.hid hok
      have HRT := Lib.hid (get_right hok)
      obtain ⟨l, hl2⟩ : ∃ l, l = (getR bs).1.map Prod.fst := ⟨_, rfl⟩
      obtain ⟨m, hm⟩ : ∃ m, m = (getR bs).1.length := ⟨_, rfl⟩
      have hlm : m = l.length := by rw [hl2, hm, List.length_map]
      rw [← hl2] at HRT
      have hall : allR l = true := allR_all (fun k a ha => (HRT.out.1 a (List.mem_of_getElem? ha)).1)
      obtain ⟨pn, hpn⟩ : ∃ pn, pn = (putR l).length := ⟨_, rfl⟩
      have hple : pn ≤ n := by have := HRT.out.2; have := HN.out; omega
      have hml : l.length ≤ 1000 := by have := putR_many l; have := HRT.out.2; have := HN.out; omega
      have HL2 := Lib.hid hl2
      have HM := Lib.hid hm
      have HLM := Lib.hid hlm
      have HALL := Lib.hid hall
      have HPN := Lib.hid hpn
      have HML := Lib.hid hml
      have g7 : decide ((pn : Int) ≤ (n : Int)) = true := decide_eq_true (by omega)
      clear hok hl2 hm hlm hall hpn hml
      go_enter Try.func4, Try.ntmps4
      go_wp2_with (first
        | (go_at_call 15
           refine HG.out.mono ?_
           rintro e w1 ⟨A1, n1, cap1, k1, rfl, hb1, ht1, _⟩
           obtain ⟨hk, hn1, hr1⟩ := ht1 HK.out
           rw [← HM.out] at hn1
           rw [← HL2.out] at hr1
           subst hk hn1
           have HB1 := Lib.hid hb1
           have HR1 := Lib.hid hr1
           clear hb1 ht1 hr1)
        | (go_at_call 18
           refine (rget_raw _ (HB.out.below HB1.out (Nat.le_refl _)) HN.out (by have := HN.out; omega)).mono ?_
           rintro e w2 ⟨A2, cap2, A3, cap3, rfl, hr2, hs2, hb2⟩
           rw [← HL2.out] at hr2
           rw [HK.out, ← HM.out]
           have HB2 := Lib.hid (HB1.out.trans (hb2.mono HB1.out.size))
           have HR2 := Lib.hid hr2
           have HRA := Lib.hid (HR1.out.bel hb2)
           clear hr2 hs2 hb2)
        | (go_at_call 10
           refine (OK.out.put _ _ _ _ l HRA.out HLM.out (fun x hx => ⟨(HRT.out.1 x hx).2.1, by have := (HRT.out.1 x hx).2.2; have := HN.out; omega⟩) HML.out).mono ?_
           rintro e w3 ⟨A4, n4, cap4, k4, rfl, hb4, ht4, _⟩
           obtain ⟨hk4, hn4, _⟩ := ht4 HALL.out
           rw [← HPN.out] at hn4
           subst hk4 hn4
           have HB4 := Lib.hid (HB2.out.trans (hb4.mono HB2.out.size))
           have HR3 := Lib.hid (HRA.out.bel hb4)
           have HR4 := Lib.hid (HR2.out.bel hb4)
           clear hb4 ht4)
        | (go_at_call 14; refine (num_any _ _).mono ?_; rintro e w2 ⟨rfl, rfl⟩)
        | (go_at_call 12; refine (rsame_raw _ HR3.out HR4.out HLM.out HLM.out).mono ?_; rintro e w5 ⟨rfl, k5, rfl⟩; rw [sameR_self])
        | (go_at_call 7; refine (HLV.out _).mono ?_; rintro e w6 ⟨rfl, hb6⟩))
      go_ret
      exact ⟨rfl, HB4.out.trans (((drawn_bel _ _).trans hb6).mono HB4.out.size)⟩
  · have g0 : decide ((n : Int) > 1000) = true := decide_eq_true (by omega)
    go_enter Try.func4, Try.ntmps4
    go_wp2_with (go_at_call 7; refine (HLV.out _).mono ?_; rintro e w5 ⟨rfl, hb5⟩)
    go_ret
    exact ⟨rfl, hb5⟩

set_option maxHeartbeats 1000000 in
theorem rawputs_walk (ok : RawOk) (w : World) {A A' : Option Addr} {cap cap' : Nat} {l m : List Rw} (h : Raws w A cap l) (hx : ∀ x ∈ l, x.n < 18446744073709551616) (h' : Raws w A' cap' m) (hx' : ∀ x ∈ m, x.n < 18446744073709551616) :
    Calls Try.prog 3 #[.slice A l.length cap, .slice A' m.length cap'] w fun e w' => e = .returned (.bool true) ∧ Below w.heap.size w w' := by
  have HLV : Hid (∀ w, Calls Try.prog 7 #[] w fun e w' => e = .returned (.bool true) ∧ Below w.heap.size w w') := Lib.hid (rawlive_any ok)
  have hle := h.le
  have hmx := h.max
  have hle' := h'.le
  have hmx' := h'.max
  have OK := Lib.hid ok
  obtain ⟨n, hn⟩ : ∃ n, n = l.length := ⟨_, rfl⟩
  obtain ⟨n', hn'⟩ : ∃ n', n' = m.length := ⟨_, rfl⟩
  rw [← hn] at hle ⊢
  rw [← hn'] at hle' ⊢
  have HS1 := Lib.hid (small_any h hn)
  have HS2 := Lib.hid (small_any h' hn')
  have H := Lib.hid h
  have H' := Lib.hid h'
  have HX := Lib.hid hx
  have HN := Lib.hid hn
  have HN' := Lib.hid hn'
  clear ok h hx h' hx' hn hn'
  go_enter Try.func3, Try.ntmps3
  go_wp2_with (go_at_call 6; refine HS1.out.mono ?_; rintro e w' ⟨b, rfl, hb, rfl⟩; have HB := Lib.hid hb; clear hb HS1; cases b)
  · go_wp2_with (go_at_call 7; refine (HLV.out _).mono ?_; rintro e w5 ⟨rfl, hb5⟩)
    go_ret
    exact ⟨rfl, hb5⟩
  · go_wp2_with (go_at_call 6; refine HS2.out.mono ?_; rintro e w' ⟨b, rfl, hb, rfl⟩; clear hb HS2; cases b)
    · go_wp2_with (go_at_call 7; refine (HLV.out _).mono ?_; rintro e w5 ⟨rfl, hb5⟩)
      go_ret
      exact ⟨rfl, hb5⟩
    · have HSM : Hid (n ≤ 50 ∧ ∀ a ∈ l, a.s.length ≤ 300) := Lib.hid (HB.out trivial)
      go_wp2
      go_loopw [5] (fun x wr => ∃ k : Nat, k ≤ n ∧ x = .int .i64 (k : Int) ∧ Below w.heap.size w wr) (fun x _ => n - (intOf x).toNat)
      case atStart => exact ⟨0, Nat.zero_le _, rfl, Below.refl _ _⟩
      case round =>
        obtain ⟨k, hk, rfl, hbel⟩ := hrel
        have HBE := Lib.hid hbel
        clear hbel
        by_cases hlt : k < n
        · have g1 : decide ((k : Int) < (n : Int)) = true := decide_eq_true (by omega)
          obtain ⟨x, hx⟩ : ∃ x, l[k]? = some x := ⟨_, List.getElem?_eq_getElem (by have := HN.out; omega)⟩
          obtain ⟨g, off, rfl, c0, c1, c2, c3⟩ := H.out.at_ k x hx
          have hxn := HX.out x (List.mem_of_getElem? hx)
          have hgl := lt_of_cell c0
          have HCC : Hid (∀ w2, Below w.heap.size w w2 → w2.cell? ⟨g, off + k * 4, none⟩ = some (.int .i64 x.num) ∧ w2.cell? ⟨g, off + k * 4 + 1, none⟩ = some (.int .i64 x.wire) ∧ w2.cell? ⟨g, off + k * 4 + 2, none⟩ = some (.int .u64 (x.n : Int)) ∧ w2.cell? ⟨g, off + k * 4 + 3, none⟩ = some (.string (strOf x.s))) :=
            Lib.hid (fun w2 hb => ⟨(hb.cell (p := ⟨g, off + k * 4, none⟩) hgl).trans c0, (hb.cell (p := ⟨g, off + k * 4 + 1, none⟩) hgl).trans c1, (hb.cell (p := ⟨g, off + k * 4 + 2, none⟩) hgl).trans c2, (hb.cell (p := ⟨g, off + k * 4 + 3, none⟩) hgl).trans c3⟩)
          have HR := Lib.hid (fun w => OK.out.right x w hxn)
          have HRR := Lib.hid (fun w => rraw_right x w)
          obtain ⟨r, hr⟩ : ∃ r, r = okR x := ⟨_, rfl⟩
          rw [← hr] at HR HRR
          clear c0 c1 c2 c3 hx hxn hgl hr
          obtain ⟨num, wire, m1, s⟩ := x
          have C0 := Lib.hid (HCC.out wr HBE.out)
          have C0d := Lib.hid (HCC.out wr.drew HBE.out.drew)
          obtain ⟨c0, c1, c2, c3⟩ := HCC.out wr HBE.out
          cases r <;>
          · go_wp2
            go_region_held3 (fun w' => w'.cell? ⟨g, off + k * 4, none⟩ = some (.int .i64 num) ∧ w'.cell? ⟨g, off + k * 4 + 1, none⟩ = some (.int .i64 wire) ∧ w'.cell? ⟨g, off + k * 4 + 2, none⟩ = some (.int .u64 (m1 : Int)) ∧ w'.cell? ⟨g, off + k * 4 + 3, none⟩ = some (.string (strOf s)))
              (first | exact C2.out | exact C1.out | exact C0.out | exact C0d.out)
              (first
                | (go_at_call 8; refine (HR.out _).mono ?_; rintro e w2 ⟨rfl, hb2⟩; have HB1 := Lib.hid (HBE.out.drew.trans (hb2.mono HBE.out.size)); have C1 := Lib.hid (HCC.out w2 HB1.out); clear hb2)
                | (go_at_call 9; refine (HRR.out _).mono ?_; rintro e w3 ⟨rfl, hw3⟩; have hb3 : Below w.heap.size w w3 := hw3 ▸ HB1.out.alloc HB1.out.size _; have HB3 := Lib.hid hb3; have C2 := Lib.hid (HCC.out w3 HB3.out); clear hb3 hw3))
            go_wp2
            go_roundw
            case rel => exact ⟨k + 1, by omega, by go_num, HB3.out⟩
            case measure => simp [intOf]; omega
        · have g1 : decide ((k : Int) < (n : Int)) = false := decide_eq_false (by omega)
          obtain rfl : k = n := by omega
          have HP := Lib.hid (OK.out.put wr A cap k l (H.out.bel (HBE.out)) HN.out (fun x hx => ⟨HX.out x hx, by have := HSM.out.2 x hx; omega⟩) (by have := HSM.out.1; have := HN.out; omega))
          obtain ⟨sm, hsm⟩ : ∃ sm, sm = sameR l m := ⟨_, rfl⟩
          have HSAME := Lib.hid hsm
          clear hsm hlt hk
          cases hal : allR l with
          | false =>
            have HAL := Lib.hid hal
            have HTK := HN'
            have HTK2 := HN'
            clear hal
            go_wp2_with (first
              | (go_at_call 10
                 refine HP.out.mono ?_
                 rintro e w1 ⟨A4, n4, cap4, k4, rfl, hb4, _, ht4⟩
                 obtain ⟨hk4, hn4⟩ := ht4 HAL.out
                 subst hk4 hn4
                 have HB1 := Lib.hid (HBE.out.trans (hb4.mono HBE.out.size))
                 clear hb4 ht4)
              | (go_at_call 11
                 refine (OK.out.same _ _ _ _ l _ _ _ m (H.out.bel HB1.out) (H'.out.bel HB1.out) HN.out HTK.out).mono ?_
                 rintro e w2 ⟨rfl, hb2⟩
                 rw [← HSAME.out]
                 have HB2 := Lib.hid (HB1.out.trans (hb2.mono HB1.out.size))
                 clear HTK hb2)
              | (go_at_call 12
                 refine (rsame_raw _ (H.out.bel HB2.out) (H'.out.bel HB2.out) HN.out HTK2.out).mono ?_
                 rintro e w3 ⟨rfl, k3, rfl⟩
                 rw [← HSAME.out]
                 have HB3 := Lib.hid (HB2.out.trans ((drawn_bel w2 k3).mono HB2.out.size))
                 clear HTK2)
              | (go_at_call 11
                 refine (OK.out.same _ _ _ _ l _ _ _ l (H.out.bel HB3.out) (H.out.bel HB3.out) HN.out HN.out).mono ?_
                 rintro e w4 ⟨rfl, hb4⟩
                 rw [sameR_self]
                 have HB4 := Lib.hid (HB3.out.trans (hb4.mono HB3.out.size))
                 clear hb4)
              | (go_at_call 13
                 refine (rall_raw _ (H.out.bel HB4.out) HN.out).mono ?_
                 rintro e w5 ⟨rfl, hb5⟩
                 rw [HAL.out]
                 have HB5 := Lib.hid (HB4.out.trans (hb5.mono HB4.out.size))
                 clear hb5)
              | (go_at_call 14; refine (num_any _ _).mono ?_; rintro e w6 ⟨rfl, rfl⟩)
              | (go_at_call 7; refine (HLV.out _).mono ?_; rintro e w7 ⟨rfl, hb7⟩))
            go_ret
            exact ⟨rfl, HB5.out.trans (hb7.mono HB5.out.size)⟩
          | true =>
            have HAL := Lib.hid hal
            have HTK := HN'
            have HTK2 := HN'
            have hokx : ∀ x ∈ l, okR x = true := fun x hx => by rw [allR, List.all_eq_true] at hal; exact hal x hx
            have hgp := get_put_raw l (fun x hx => ⟨hokx x hx, HX.out x hx, by have := HSM.out.2 x hx; omega⟩)
            have hpl := putR_length l (fun x hx => ⟨HX.out x hx, HSM.out.2 x hx⟩)
            have hpl2 : (putR l).length ≤ 20000 := by have := HSM.out.1; have := HN.out; omega
            obtain ⟨pb, hpb⟩ : ∃ pb, pb = putR l := ⟨_, rfl⟩
            obtain ⟨pn, hpn⟩ : ∃ pn, pn = pb.length := ⟨_, rfl⟩
            have hln : (getR pb).1.length = k := by rw [hpb, ← List.length_map (f := Prod.fst), hgp.1, HN.out]
            rw [← hpb] at hgp hpl2
            have HOKX := Lib.hid hokx
            have HGP := Lib.hid hgp
            have HPL := Lib.hid hpl2
            have HPB := Lib.hid hpb
            have HPN := Lib.hid hpn
            have HLN := Lib.hid hln
            clear hal hokx hgp hpl hpl2 hpb hpn hln
            go_wp2_with (first
              | (go_at_call 10
                 refine HP.out.mono ?_
                 rintro e w1 ⟨A4, n4, cap4, k4, rfl, hb4, ht4, _⟩
                 obtain ⟨hk4, hn4, hbs4⟩ := ht4 HAL.out
                 rw [← HPB.out] at hn4 hbs4
                 rw [← HPN.out] at hn4
                 subst hk4 hn4
                 have HB1 := Lib.hid (HBE.out.trans (hb4.mono HBE.out.size))
                 have HBS1 := Lib.hid hbs4
                 have HSZ1 := Lib.hid (Nat.le_refl w1.heap.size)
                 clear hb4 ht4 hbs4)
              | (go_at_call 11
                 refine (OK.out.same _ _ _ _ l _ _ _ m (H.out.bel HB1.out) (H'.out.bel HB1.out) HN.out HTK.out).mono ?_
                 rintro e w2 ⟨rfl, hb2⟩
                 rw [← HSAME.out]
                 have HB2 := Lib.hid (HB1.out.trans (hb2.mono HB1.out.size)); have HBS2 := Lib.hid (HBS1.out.below hb2 (Nat.le_refl _))
                 clear HTK hb2)
              | (go_at_call 12
                 refine (rsame_raw _ (H.out.bel HB2.out) (H'.out.bel HB2.out) HN.out HTK2.out).mono ?_
                 rintro e w3 ⟨rfl, k3, rfl⟩
                 rw [← HSAME.out]
                 have HB3 := Lib.hid (HB2.out.trans ((drawn_bel w2 k3).mono HB2.out.size)); have HBS3 := Lib.hid (HBS2.out.below (drawn_bel w2 k3) (Nat.le_refl _))
                 clear HTK2)
              | (go_at_call 11
                 refine (OK.out.same _ _ _ _ l _ _ _ l (H.out.bel HB3.out) (H.out.bel HB3.out) HN.out HN.out).mono ?_
                 rintro e w4 ⟨rfl, hb4⟩
                 rw [sameR_self]
                 have HB4 := Lib.hid (HB3.out.trans (hb4.mono HB3.out.size)); have HBS4 := Lib.hid (HBS3.out.below hb4 (Nat.le_refl _))
                 clear hb4)
              | (go_at_call 13
                 refine (rall_raw _ (H.out.bel HB4.out) HN.out).mono ?_
                 rintro e w5 ⟨rfl, hb5⟩
                 rw [HAL.out]
                 have HB5 := Lib.hid (HB4.out.trans (hb5.mono HB4.out.size)); have HBS5 := Lib.hid (HBS4.out.below hb5 (Nat.le_refl _))
                 clear hb5)
              | (go_at_call 14; refine (num_any _ _).mono ?_; rintro e w6 ⟨rfl, rfl⟩)
              | (go_at_call 15
                 refine (OK.out.get _ _ _ _ pb HBS5.out HPN.out (by have := HPL.out; omega)).mono ?_
                 rintro e w6 ⟨A6, n6, cap6, k6, rfl, hb6, ht6, _⟩
                 obtain ⟨hk6, hn6, hr6⟩ := ht6 HGP.out.2
                 rw [HGP.out.1] at hr6
                 rw [HLN.out] at hn6
                 subst hk6 hn6
                 have HB6 := Lib.hid (HB5.out.trans (hb6.mono HB5.out.size))
                 have HR6 := Lib.hid hr6
                 have HBS6 := Lib.hid (HBS5.out.below hb6 (Nat.le_refl _))
                 clear hb6 ht6 hr6)
              | (go_at_call 17
                 refine (rput_raw _ (H.out.bel HB6.out) HN.out HOKX.out (fun x hx => ⟨HX.out x hx, HSM.out.2 x hx⟩) (by have := HSM.out.1; have := HN.out; omega)).mono ?_
                 rintro e w7 ⟨v7, n7, rfl, ho7, hb7⟩
                 rw [← HPB.out] at ho7
                 obtain ⟨hn7, A7, cap7, hv7, hB7⟩ := Bs.own ho7
                 subst hv7
                 have HB7 := Lib.hid (HB6.out.trans (hb7.mono HB6.out.size))
                 have HR7 := Lib.hid (HR6.out.bel hb7)
                 have HBS7 := Lib.hid (HBS6.out.below hb7 (Nat.le_refl _))
                 have HBP7 := Lib.hid hB7
                 clear ho7 hb7 hB7 hn7)
              | (go_at_call 16; refine (bytes_n _ _ _ _ _ _ pb pb _ HPN.out rfl HBS7.out HBP7.out).mono ?_; rintro e w8 ⟨rfl, rfl⟩)
              | (go_at_call 12
                 refine (rsame_raw _ HR7.out (H.out.bel HB7.out) HN.out HN.out).mono ?_
                 rintro e w9 ⟨rfl, k9, rfl⟩
                 rw [sameR_self])
              | (go_at_call 7; refine (HLV.out _).mono ?_; rintro e w10 ⟨rfl, hb10⟩))
            go_ret
            exact ⟨rfl, HB7.out.trans (((drawn_bel _ _).trans hb10).mono HB7.out.size)⟩
end Go.Proofs.Ytalbiieagcandaa
