/- Several texts in one: VdB. What each proves, and its conditions, stands at its own head. -/
import Derived.Test.YtmdekdmcnnbofaaDoorPkVD21
import Derived.Test.YtmdekdmcnnbofaaDoorPkVD22
import Derived.Test.YtmdekdmcnnbofaaDoorPkVD29
import Derived.Deep.RegionHeld3
/- The program's layer 20: its message, knows, Knows, zero, rise. Conditions: those that each theorem names. -/
namespace Go.Proofs.YtmdekdmcnnbofaaDoor
open Go.RowKit
set_option linter.unusedVariables false
set_option maxRecDepth 100000

def zMsg : Array Value := #[.string ⟨#[]⟩, .slice none 0 0, .slice none 0 0]
set_option maxHeartbeats 4000000 in
theorem pvmsg_none {S : Nat → Nat → Prop} (w : World) {A A2 : Option Addr} {n cap n2 cap2 : Nat} {s : Sc} (h : ScAt S w A n cap A2 n2 cap2 s) (t : List UInt8) (hm : messageT s t = -1) :
    Calls Tryd.prog 17 #[.agg #[.slice A n cap, .slice A2 n2 cap2], .string (strOf t)] w fun e w' => e = .returned (.tuple #[.agg zMsg, .bool false]) ∧ Below w.heap.size w w' := by
  obtain ⟨w2, hw2⟩ : ∃ w2, w2 = (w.alloc (.cells #[.slice A n cap, .slice A2 n2 cap2] 25)).alloc (.cells zMsg 52) := ⟨_, rfl⟩
  obtain ⟨k1, k2, hb⟩ := box_two w (.cells #[.slice A n cap, .slice A2 n2 cap2] 25) (.cells zMsg 52)
  rw [heap_alloc_new] at k1 k2
  rw [← hw2] at k1 k2 hb
  have HI := Lib.hid (fxmessage_any w2 (scAt_bel h hb) t)
  rw [hm] at HI
  have HRS : Hid (Tryd.f17.results = #[.cell 4 52, .tmp 5]) := Lib.hid (by kernel_rfl)
  have r0 := obj_cell k1 0
  have r1 := obj_cell k1 1
  have HB := Lib.hid hb
  have HW2 := Lib.hid hw2
  have HK2 := Lib.hid k2
  unfold zMsg at *
  rw [hw2] at r0 r1
  obtain ⟨st, hst⟩ : ∃ st, st = strOf t := ⟨_, rfl⟩
  rw [← hst] at HI ⊢
  clear h k1 k2 hb hw2 hst hm
  go_enter Tryd.func17, Tryd.ntmps17
  go_wp2_with (go_at_call 36; (with_reducible rw [← HW2.out]); refine HI.out.mono ?_; rintro e w3 ⟨rfl, hb⟩; have hbx := (hb.block _ (lt_of_block HK2.out)).trans HK2.out; have q0 := obj_free hbx 0; have q1 := obj_free hbx 1; have q2 := obj_free hbx 2; have d0 := obj_cell hbx 0; have d1 := obj_cell hbx 1; have d2 := obj_cell hbx 2; have HB3 := Lib.hid (HB.out.trans (hb.mono HB.out.size)); clear hb hbx)
  refine bodyPost_ret (v := .tuple #[.agg #[.string ⟨#[]⟩, .slice none 0 0, .slice none 0 0], .bool false]) ?_ rfl ⟨rfl, ((HB3.out.setCell (Nat.le_succ _) _).setCell (Nat.le_succ _) _).setCell (Nat.le_succ _) _⟩
  simp only [results, HRS.out]
  go_simp
set_option maxHeartbeats 4000000 in
theorem pvmsg_some {S : Nat → Nat → Prop} (w : World) {A : Option Addr} {n cap n2 cap2 ge oe i : Nat} {s : Sc} (h : ScAt S w A n cap (some ⟨ge, oe, none⟩) n2 cap2 s) (t : List UInt8) (hm : messageT s t = (i : Int)) (hi : i < n2) {sn : ByteArray} {A1 A3 : Option Addr} {nf c1 nb c3 : Nat}
    (hc : ∀ wr, Below w.heap.size w wr → wr.cell? ⟨ge, oe + i * 3, none⟩ = some (.string sn) ∧ wr.cell? ⟨ge, oe + i * 3 + 1, none⟩ = some (.slice A1 nf c1) ∧ wr.cell? ⟨ge, oe + i * 3 + 2, none⟩ = some (.slice A3 nb c3)) :
    Calls Tryd.prog 17 #[.agg #[.slice A n cap, .slice (some ⟨ge, oe, none⟩) n2 cap2], .string (strOf t)] w fun e w' => e = .returned (.tuple #[.agg #[.string sn, .slice A1 nf c1, .slice A3 nb c3], .bool true]) ∧ Below w.heap.size w w' := by
  obtain ⟨m1, m2, m3, m4⟩ := scAt_max h
  obtain ⟨w2, hw2⟩ : ∃ w2, w2 = (w.alloc (.cells #[.slice A n cap, .slice (some ⟨ge, oe, none⟩) n2 cap2] 25)).alloc (.cells zMsg 52) := ⟨_, rfl⟩
  obtain ⟨k1, k2, hb⟩ := box_two w (.cells #[.slice A n cap, .slice (some ⟨ge, oe, none⟩) n2 cap2] 25) (.cells zMsg 52)
  rw [heap_alloc_new] at k1 k2
  rw [← hw2] at k1 k2 hb
  have HI := Lib.hid (fxmessage_any w2 (scAt_bel h hb) t)
  rw [hm] at HI
  have HRS : Hid (Tryd.f17.results = #[.cell 4 52, .tmp 5]) := Lib.hid (by kernel_rfl)
  have r0 := obj_cell k1 0
  have r1 := obj_cell k1 1
  have HB := Lib.hid hb
  have HW2 := Lib.hid hw2
  have HK2 := Lib.hid k2
  have HK1 := Lib.hid k1
  have HC := Lib.hid hc
  have g1 : decide ((i : Int) < 0) = false := decide_eq_false (by omega)
  have g2 : decide ((i : Int) < (n2 : Int)) = true := decide_eq_true (by omega)
  unfold zMsg at *
  rw [hw2] at r0 r1
  obtain ⟨st, hst⟩ : ∃ st, st = strOf t := ⟨_, rfl⟩
  rw [← hst] at HI ⊢
  clear h k1 k2 hb hw2 hst hm hc
  go_enter Tryd.func17, Tryd.ntmps17
  go_wp2_with (go_at_call 36; (with_reducible rw [← HW2.out]); refine HI.out.mono ?_; rintro e w3 ⟨rfl, hb⟩; have hbx := (hb.block _ (lt_of_block HK2.out)).trans HK2.out; have hby := (hb.block _ (lt_of_block HK1.out)).trans HK1.out; have q0 := obj_free hbx 0; have q1 := obj_free hbx 1; have q2 := obj_free hbx 2; have d0 := obj_cell hbx 0; have d1 := obj_cell hbx 1; have d2 := obj_cell hbx 2; have e0 := obj_cell hby 0; have e1 := obj_cell hby 1; have HB3 := Lib.hid (HB.out.trans (hb.mono HB.out.size)); obtain ⟨c0, c1', c2⟩ := HC.out _ HB3.out; clear hb hbx hby)
  refine bodyPost_ret (v := .tuple #[.agg #[.string sn, .slice A1 nf c1, .slice A3 nb c3], .bool true]) ?_ rfl ⟨rfl, ((HB3.out.setCell (Nat.le_succ _) _).setCell (Nat.le_succ _) _).setCell (Nat.le_succ _) _⟩
  simp only [results, HRS.out]
  go_simp
theorem pvknow_any {S T : Nat → Prop} (w : World) {A1 A2 : Option Addr} {nf ca nb cb : Nat} {x : Ms} (sn : ByteArray) (hl : Lst 7 S fdR w A1 ca x.fields) (hl2 : Lst 1 T inR w A2 cb x.barred) (hnf : nf = x.fields.length) (hnb : nb = x.barred.length) (t : Int) :
    Calls Tryd.prog 24 #[.agg #[.string sn, .slice A1 nf ca, .slice A2 nb cb], .int .i64 t] w fun e w' => e = .returned (.bool (decide (0 ≤ numAtT x t))) ∧ Below w.heap.size w w' := by
  have HBX := Lib.hid (bx_start w #[.string sn, .slice A1 nf ca, .slice A2 nb cb] 52)
  have r0 := obj_cell HBX.out.b_blk 0
  have r1 := obj_cell HBX.out.b_blk 1
  have r2 := obj_cell HBX.out.b_blk 2
  have HI := Lib.hid (fxnumber_any _ sn (lst_keep (S' := S) hl fdR_keep (fun _ h => h) (bel_keep HBX.out.b_bel)) (lst_keep (S' := T) hl2 inR_keep (fun _ h => h) (bel_keep HBX.out.b_bel)) hnf hnb t)
  generalize numAtT x t = v at *
  clear hl hl2 hnf hnb
  go_enter Tryd.func24, Tryd.ntmps24
  go_wp2_with (go_at_call 20; refine HI.out.mono ?_; rintro e w3 ⟨rfl, hb⟩; have HB3 := Lib.hid (vbel HBX.out.b_bel hb); clear hb)
  go_ret
  exact ⟨rfl, HB3.out⟩
theorem pvzero_any (x : Va) (A : Option Addr) (n c : Nat) (w : World) :
    Calls Tryd.prog 42 #[.agg #[.int .u64 (x.vn : Int), .string (strOf x.vs), .slice A n c]] w fun e w' => e = .returned (.bool (zeroT x)) ∧ Below w.heap.size w w' := by
  have HO : Hid (zeroT x = (decide (x.vn = 0) && decide (x.vs = []))) := Lib.hid rfl
  have HB : Hid (∀ o, Below w.heap.size w (w.alloc o)) := Lib.hid (fun o => (Below.refl _ w).alloc (Nat.le_refl _) o)
  have he := tw_facts x.vs
  obtain ⟨vn, vs, vm⟩ := x
  dsimp only at HO he ⊢
  obtain ⟨so, hso⟩ : ∃ so, so = strOf vs := ⟨_, rfl⟩
  obtain ⟨oe, hoe⟩ : ∃ oe, oe = decide (vs = []) := ⟨_, rfl⟩
  rw [← hoe] at HO he
  rw [← hso] at he ⊢
  clear hoe hso
  have ho : (oe = true ∧ so.toList = [] ∧ so.toList.isEmpty = true) ∨ (oe = false ∧ ¬ so.toList = [] ∧ so.toList.isEmpty = false) := by
    cases oe with
    | true => exact .inl ⟨rfl, beq_iff_eq.1 he, by rw [beq_iff_eq.1 he]; rfl⟩
    | false => exact .inr ⟨rfl, (fun e => by rw [e] at he; cases he), (by rw [List.isEmpty_eq_false_iff]; intro e; rw [e] at he; cases he)⟩
  by_cases hn : vn = 0
  · subst hn
    rcases ho with ⟨rfl, o3, o2⟩ | ⟨rfl, o3, o2⟩
    all_goals
      go_enter Tryd.func42, Tryd.ntmps42
      go_wp2
      go_ret
      exact ⟨by rw [HO.out]; rfl, HB.out _⟩
  · have en : ((vn : Int) == 0) = false := beq_false_of_ne (by omega)
    have en2 : ¬ (vn : Int) = 0 := by omega
    rw [decide_eq_false hn] at HO
    clear hn
    go_enter Tryd.func42, Tryd.ntmps42
    go_wp2
    go_ret
    exact ⟨by rw [HO.out]; rfl, HB.out _⟩

set_option maxHeartbeats 4000000 in
theorem pvrise_any {S : Nat → Prop} {m : Nat} (w : World) {A : Option Addr} {cap n : Nat} {l : List Slt} (h : Lst 2 S (slR (trR S m) S) w A cap l) (hn : n = l.length) :
    Calls Tryd.prog 25 #[.slice A n cap] w fun e w' => e = .returned (.bool (risesB (l.map (·.snum)))) ∧ Below w.heap.size w w' := by
  have hle := h.l_le
  have hmx := h.l_max
  rw [← hn] at hle
  unfold maxLen at hmx
  have H := Lib.hid h
  have HN := Lib.hid hn
  clear h hn
  go_enter Tryd.func25, Tryd.ntmps25
  go_wp2
  go_loopw [3] (fun x wr => ∃ k : Nat, x = .int .i64 ((k + 1 : Nat) : Int) ∧ k ≤ n ∧ Below w.heap.size w wr ∧ ∀ (j : Nat) a b, j < k → (l.map (·.snum))[j]? = some a → (l.map (·.snum))[j + 1]? = some b → a < b) (fun x _ => n + 1 - (intOf x).toNat)
  case atStart => exact ⟨0, rfl, Nat.zero_le _, Below.refl _ _, fun j a b hj => absurd hj (Nat.not_lt_zero _)⟩
  case round =>
    obtain ⟨k, rfl, hk, hbel, hall⟩ := hrel
    have HALL := Lib.hid hall
    have HBE := Lib.hid hbel
    clear hall hbel
    obtain ⟨k1, hk1⟩ : ∃ k1, k1 = k + 1 := ⟨_, rfl⟩
    rw [← hk1]
    by_cases hlt : k1 < n
    · have g1 : decide ((k1 : Int) < (n : Int)) = true := decide_eq_true (by omega)
      obtain ⟨a, ha⟩ : ∃ a, l[k]? = some a := ⟨_, List.getElem?_eq_getElem (by have := HN.out; omega)⟩
      obtain ⟨b, hb⟩ : ∃ b, l[k + 1]? = some b := ⟨_, List.getElem?_eq_getElem (by have := HN.out; omega)⟩
      obtain ⟨g, off, A1, c1, rfl, _, q0, _⟩ := sl_at H.out ha
      obtain ⟨g', off', A1', c1', e', _, q1, _⟩ := sl_at H.out hb
      cases e'
      have c0 := (q0 _ (stay_bel HBE.out)).1
      have c1 := (q1 _ (stay_bel HBE.out)).1
      rw [← hk1] at c1
      have HA : Hid ((l.map (·.snum))[k]? = some a.snum) := Lib.hid (by rw [List.getElem?_map, ha]; rfl)
      have HB : Hid ((l.map (·.snum))[k + 1]? = some b.snum) := Lib.hid (by rw [List.getElem?_map, hb]; rfl)
      have gw : IntKind.i64.wrap ((k1 : Int) - 1) = (k : Int) := by rw [show (k1 : Int) - 1 = (k : Int) by omega]; exact IntWalk.i64_in _ (by omega)
      have gx : (k1 : Int) - 1 = (k : Int) := by omega
      have gw2 : IntKind.i64.wrap (k : Int) = (k : Int) := IntWalk.i64_in _ (by omega)
      have hkk : k < n := by omega
      have HK1 := Lib.hid hk1
      obtain ⟨za, hza⟩ : ∃ za, za = a.snum := ⟨_, rfl⟩
      obtain ⟨zb, hzb⟩ : ∃ zb, zb = b.snum := ⟨_, rfl⟩
      rw [← hza] at c0 HA
      rw [← hzb] at c1 HB
      clear ha hb q0 q1 hk1 hk hza hzb
      by_cases hab : za < zb
      · have g2 : decide (zb ≤ za) = false := decide_eq_false (by omega)
        have g3 : decide (za ≥ zb) = false := decide_eq_false (by omega)
        have HAB := Lib.hid hab
        clear hab
        go_wp2
        go_quiet (fail)
        go_wp2
        go_roundw
        case rel =>
          refine ⟨k + 1, by have := HK1.out; go_num, by have := HK1.out; omega, vbel HBE.out (drewN_under wr nq), fun j x y hj hx hy => ?_⟩
          by_cases hjk : j < k
          · exact HALL.out j x y hjk hx hy
          · have : j = k := by omega
            subst this
            have e1 := HA.out.symm.trans hx
            have e2 := HB.out.symm.trans hy
            injection e1 with e1
            injection e2 with e2
            subst e1 e2
            exact HAB.out
        case measure => simp [intOf]; omega
      · have g2 : decide (zb ≤ za) = true := decide_eq_true (by omega)
        have g3 : decide (za ≥ zb) = true := decide_eq_true (by omega)
        have HO := Lib.hid (risesB_off HA.out HB.out hab)
        clear hab
        go_wp2
        go_quiet (fail)
        go_wp2
        go_ret
        exact ⟨ret_bool' HO.out.symm, vbel HBE.out (drewN_under wr nq)⟩
    · have g1 : decide ((k1 : Int) < (n : Int)) = false := decide_eq_false (by omega)
      have HO : Hid (risesB (l.map (·.snum)) = true) := Lib.hid ((risesB_iff _).2 (fun j a b ha hb => HALL.out j a b (by have := (List.getElem?_eq_some_iff.mp hb).1; rw [List.length_map] at this; have := HN.out; omega) ha hb))
      clear hk1
      go_wp2
      go_ret
      exact ⟨ret_bool' HO.out.symm, HBE.out⟩
end Go.Proofs.YtmdekdmcnnbofaaDoor
