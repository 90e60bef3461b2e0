/- Several texts in one: VdF, VdG, VdL, EncLaw, EncPt. What each proves, and its conditions, stands at its own head. -/
import Derived.Test.YtloheacncefkgaaGreatDoorPkEU44
import Derived.Test.YtloheacncefkgaaGreatDoorPkEU39
import Derived.Test.YtloheacncefkgaaGreatDoorPkEU14
import Derived.Test.YtloheacncefkgaaGreatDoorPkEU32
import Derived.Test.YtloheacncefkgaaGreatDoorPkEU42
import Derived.Test.YtloheacncefkgaaGreatDoorPkEU22
import Derived.Test.YtloheacncefkgaaGreatDoorPkEU0
import Derived.Test.YtloheacncefkgaaGreatDoorPkEU26
/- The program's layer 20: the closures of Tree. Conditions: those that each theorem names. -/
namespace Go.Proofs.YtloheacncefkgaaGreatDoor
open Go.RowKit
set_option linter.unusedVariables false
set_option maxRecDepth 100000

set_option maxHeartbeats 4000000 in
theorem pvrest_any {T T2 : Nat → Prop} (w : World) {A1 A3 : Option Addr} {nf c1 nb c3 : Nat} {m : Ms} (sn : ByteArray) (hl : Lst 7 T fdR w A1 c1 m.fields) (hl2 : Lst 1 T2 inR w A3 c3 m.barred) (hnf : nf = m.fields.length) (hnb : nb = m.barred.length) (x : Rw) (pm : Nat) (hpm : w.heap[pm]? = some (.cells #[.string sn, .slice A1 nf c1, .slice A3 nb c3] 57 (0, 0))) :
 Calls Tryz.prog 62 #[rawV x, .pointer (some ⟨pm, 0, none⟩)] w fun e w' => e = .returned (.bool (restT m x)) ∧ Below w.heap.size w w' := by
 have HE : Hid (restT m x = (okR x && decide (numAtT m x.num < 0))) := Lib.hid rfl
 have hneg : decide (numAtT m x.num < 0) = !decide (0 ≤ numAtT m x.num) := by
  by_cases h : numAtT m x.num < 0
  ·rw [decide_eq_true h, decide_eq_false (by omega)]; rfl
  ·rw [decide_eq_false h, decide_eq_true (by omega)]; rfl
 rw [hneg] at HE
 have HR := Lib.hid (fun u => raw_right x u)
 have HN := Lib.hid (fun u (hb : Below w.heap.size w u) => pvknow_any u sn (lst_keep (S' := T) hl fdR_keep (fun _ h => h) (bel_keep hb)) (lst_keep (S' := T2) hl2 inR_keep (fun _ h => h) (bel_keep hb)) hnf hnb x.num)
 have HBX := Lib.hid (bx_start w (rawCells x).toArray 93)
 unfold rawV at HR
 unfold rawV
 unfold rawCells at HBX HR
 have HK : Hid (∀ u, Bx w u (.cells #[.int .i64 x.num, .int .i64 x.wire, .int .u64 (x.n : Int), .string (strOf x.s)] 93 (0, 0)) → (u.cell? ⟨pm, 0, none⟩ = some (.string sn) ∧ u.cell? ⟨pm, 1, none⟩ = some (.slice A1 nf c1) ∧ u.cell? ⟨pm, 2, none⟩ = some (.slice A3 nb c3)) ∧ (u.cell? ⟨w.heap.size, 0, none⟩ = some (.int .i64 x.num) ∧ u.cell? ⟨w.heap.size, 1, none⟩ = some (.int .i64 x.wire) ∧ u.cell? ⟨w.heap.size, 2, none⟩ = some (.int .u64 (x.n : Int)) ∧ u.cell? ⟨w.heap.size, 3, none⟩ = some (.string (strOf x.s)))) := Lib.hid (fun u hu => by
  have e1 := (hu.b_bel.block _ (lt_of_block hpm)).trans hpm
  exact ⟨⟨obj_cell e1 0, obj_cell e1 1, obj_cell e1 2⟩, obj_cell hu.b_blk 0, obj_cell hu.b_blk 1, obj_cell hu.b_blk 2, obj_cell hu.b_blk 3⟩)
 obtain ⟨⟨p0, p1, p2⟩, v0, v1, v2, v3⟩ := HK.out _ HBX.out
 generalize restT m x = ANS at *
 generalize okR x = ok at *
 generalize decide (0 ≤ numAtT m x.num) = kn at *
 clear hl hl2 hnf hnb hpm hneg
 generalize strOf x.s = ss at *
 generalize x.num = z0 at *
 generalize x.wire = z1 at *
 generalize (x.n : Int) = z2 at *
 cases ok with
 | false =>
   go_enter Tryz.func62, Tryz.ntmps62
   go_wp2_with (go_at_call 63; refine (HR.out _).mono ?_; rintro e w1 ⟨rfl, rfl⟩)
   go_ret
   refine ⟨?_, HBX.out.b_bel.alloc (HBX.out.b_bel.size) _⟩
   rw [HE.out]
   rfl
 | true =>
   go_enter Tryz.func62, Tryz.ntmps62
   go_wp2_with (first
    | (go_at_call 63; refine (HR.out _).mono ?_; rintro e w1 ⟨rfl, hw1⟩; replace HBX := Lib.hid (bx_step HBX.out (show Below _ _ w1 by rw [hw1]; exact (Below.refl _ _).alloc (Nat.le_refl _) _)); obtain ⟨⟨p0, p1, p2⟩, v0, v1, v2, v3⟩ := HK.out _ HBX.out; clear hw1)
    | (go_at_call 64; refine (HN.out _ HBX.out.b_bel).mono ?_; rintro e w2 ⟨rfl, hb⟩; replace HBX := Lib.hid (bx_step HBX.out hb); clear hb))
   go_ret
   refine ⟨?_, HBX.out.b_bel⟩
   rw [HE.out]
   cases kn <;> rfl

set_option maxHeartbeats 16000000 in
theorem pvslot_any {s : Sc} {n : Nat} {SS : Nat → Nat → Prop} {S T T2 : Nat → Prop} (H : ∀ k, n = k + 1 → PTree s k) (w0 : World) (env : VdEnv w0) {A A2 : Option Addr} {ne ca nm ca2 : Nat} (h : ScAt SS w0 A ne ca A2 nm ca2 s) {A1 A3 : Option Addr} {nf c1 nb c3 : Nat} {m : Ms} (hmo : MsOk m) (sn : ByteArray) (hl : Lst 7 T fdR w0 A1 c1 m.fields) (hl2 : Lst 1 T2 inR w0 A3 c3 m.barred) (hnf : nf = m.fields.length) (hnb : nb = m.barred.length)
 (w : World) (hb0 : Below w0.heap.size w0 w) (pm pa ps pk bm k : Nat) (done : List (List UInt8)) (hbm : w0.heap.size ≤ bm) (hne : pm ≠ bm ∧ pa ≠ bm ∧ ps ≠ bm ∧ pk ≠ bm)
 (hpm : w.heap[pm]? = some (.cells #[.string sn, .slice A1 nf c1, .slice A3 nb c3] 57 (0, 0))) (hpa : w.heap[pa]? = some (.cells #[.func (.func 100) #[] #[.pointer (some ⟨pk, 0, none⟩)]] 98 (0, 0))) (hps : w.heap[ps]? = some (.cells #[.slice A ne ca, .slice A2 nm ca2] 25 (0, 0))) (hpk : w.heap[pk]? = some (.cells #[.map (some bm)] 135 (0, 0)))
 (hmap : MapAt w bm k (cntF done)) (hk : k ≤ 10000) (hd : done.length ≤ 10000) (x : Slt) {B1 : Option Addr} {d1 : Nat} (hv : VsAt S n w B1 d1 x.svals) (hS : ∀ g, S g → g ≠ bm) (hf : FitS n x) (ho : BitS n x) :
 Calls Tryz.prog 59 #[.agg #[.int .i64 x.snum, .slice B1 x.svals.length d1], .pointer (some ⟨pm, 0, none⟩), .pointer (some ⟨pa, 0, none⟩), .pointer (some ⟨ps, 0, none⟩)] w fun e w' => e = .returned (.bool (slotT (treeN s n) m x && aloneB done (oneAt m x))) ∧ Touch (fun g => g = bm) w w' ∧ ((slotT (treeN s n) m x && aloneB done (oneAt m x)) = true → MapAt w' bm (k + 1) (cntF (done ++ [oneAt m x]))) := by
 obtain ⟨w1, hw1⟩ : ∃ w1, w1 = w.alloc (.cells #[.int .i64 x.snum, .slice B1 x.svals.length d1] 67) := ⟨_, rfl⟩
 have hx1 := bx_start w #[.int .i64 x.snum, .slice B1 x.svals.length d1] 67
 rw [← hw1] at hx1
 have hbmw : bm < w.heap.size := hmap.lt
 have HBL : Hid (∀ u, Touch (fun g => g = bm) w1 u → Below w0.heap.size w0 u) := Lib.hid (fun u hu => (hb0.trans (hx1.b_bel.mono hb0.size)).trans (hu.below (Nat.le_trans hb0.size hx1.b_bel.size) (fun k hk => by rw [hk]; exact hbm)))
 have HOB : Hid (∀ u, Touch (fun g => g = bm) w1 u → ∀ (p : Nat) o, p ≠ bm → w.heap[p]? = some o → u.heap[p]? = some o) := Lib.hid (fun u hu p o hp ho => (hu.block _ (Nat.lt_of_lt_of_le (lt_of_block ho) hx1.b_bel.size) hp).trans ((hx1.b_bel.block _ (lt_of_block ho)).trans ho))
 have HXB : Hid (∀ u, Touch (fun g => g = bm) w1 u → u.heap[w.heap.size]? = some (.cells #[.int .i64 x.snum, .slice B1 x.svals.length d1] 67 (0, 0))) := Lib.hid (fun u hu => (hu.block _ (lt_of_block hx1.b_blk) (by omega)).trans hx1.b_blk)
 have HNU := Lib.hid (fun u (hu : Touch (fun g => g = bm) w1 u) => fxnumber_any u sn (lst_keep (S' := T) hl fdR_keep (fun _ h => h) (bel_keep (HBL.out u hu))) (lst_keep (S' := T2) hl2 inR_keep (fun _ h => h) (bel_keep (HBL.out u hu))) hnf hnb x.snum)
 have hT0 := Touch.refl (fun g => g = bm) w1
 have HMP := Lib.hid (hmap.bel hx1.b_bel)
 have hT1 : Touch (fun g => g = bm) w w1 := Touch.of_below _ hx1.b_bel
 have q1 := hl.l_le
 have q2 := hl.l_max
 rw [← hnf] at q1
 unfold maxLen at q2
 have m0 := obj_cell (HOB.out _ hT0 pm _ hne.1 hpm) 0
 have m1 := obj_cell (HOB.out _ hT0 pm _ hne.1 hpm) 1
 have m2 := obj_cell (HOB.out _ hT0 pm _ hne.1 hpm) 2
 have x0 := obj_cell (HXB.out _ hT0) 0
 have HT := Lib.hid hT0
 have HT1 := Lib.hid hT1
 have HW1 := Lib.hid hw1
 rw [hw1] at m0 m1 m2 x0
 rcases fld_way m x.snum with ⟨hn1, hn2⟩ | ⟨i, f, hn1, hif, hn2⟩
 ·have hsl : slotT (treeN s n) m x = false := by unfold slotT; rw [hn2]
  rw [hsl, Bool.false_and]
  rw [hn1] at HNU
  clear H env h hmo hl hl2 hnf hnb hb0 hbm hne hpm hpa hps hpk hmap hk hd hv hS hf ho hx1 hT0 hT1 hw1 hn1 hn2 hsl
  generalize x.svals.length = lv at *
  generalize x.snum = zn at *
  go_enter Tryz.func59, Tryz.ntmps59
  go_wp2_with (go_at_call 60; (with_reducible rw [← HW1.out]); refine (HNU.out _ HT.out).mono ?_; rintro e w2 ⟨rfl, hb⟩; replace HT := Lib.hid (HT.out.then_below hb); clear hb)
  go_quiet (fail)
  go_wp2
  go_ret
  exact ⟨rfl, touch_more HT1.out (HT.out.then_below (drewN_under _ nq)), fun h => by cases h⟩
 ·have hif2 := (List.getElem?_eq_some_iff.mp hif).1
  have hfm := List.mem_of_getElem? hif
  have hsl : slotT (treeN s n) m x = slotF (treeN s n) f x := by unfold slotT; rw [hn2]
  have hon : oneAt m x = f.one := by unfold oneAt; rw [hn2]
  rw [hsl, hon]
  rw [hn1] at HNU
  obtain ⟨gf, of, rfl, _, hcf⟩ := fd_at hl hif
  have HAL := Lib.hid (fun u (hu : Touch (fun g => g = bm) w1 u) (hm : MapAt u bm k (cntF done)) => palone_any u pk bm k f done (HOB.out _ hu pk _ hne.2.2.2 hpk) hm hk hd (hmo.2.2.2.1 f hfm).2.2.2.2 hne.2.2.2)
  have HSL := Lib.hid (fun u (hu : Touch (fun g => g = bm) w1 u) => pvslotf_any H u (env.rolls (HBL.out u hu)) (scAt_bel h (HBL.out u hu)) f x (vsAt_keep (S' := S) hv (fun _ h => h) (stay_touch ((Touch.of_below (fun g => g = bm) hx1.b_bel).trans hu (fun _ h => .inl h)) hS)) hf ho)
  have HK : Hid (∀ u, Touch (fun g => g = bm) w1 u → u.cell? ⟨pa, 0, none⟩ = some (.func (.func 100) #[] #[.pointer (some ⟨pk, 0, none⟩)]) ∧ u.cell? ⟨pm, 1, none⟩ = some (.slice (some ⟨gf, of, none⟩) nf c1) ∧ (u.cell? ⟨gf, of + i * 7, none⟩ = some (.string (strOf f.name)) ∧ u.cell? ⟨gf, of + i * 7 + 1, none⟩ = some (.int .i64 f.num) ∧ u.cell? ⟨gf, of + i * 7 + 2, none⟩ = some (.int .i64 f.ty) ∧ u.cell? ⟨gf, of + i * 7 + 3, none⟩ = some (.string (strOf f.ref)) ∧ u.cell? ⟨gf, of + i * 7 + 4, none⟩ = some (.bool f.rep) ∧ u.cell? ⟨gf, of + i * 7 + 5, none⟩ = some (.bool f.loose) ∧ u.cell? ⟨gf, of + i * 7 + 6, none⟩ = some (.string (strOf f.one))) ∧ u.cell? ⟨ps, 0, none⟩ = some (.slice A ne ca) ∧ u.cell? ⟨ps, 1, none⟩ = some (.slice A2 nm ca2) ∧ u.cell? ⟨w.heap.size, 0, none⟩ = some (.int .i64 x.snum) ∧ u.cell? ⟨w.heap.size, 1, none⟩ = some (.slice B1 x.svals.length d1)) := Lib.hid (fun u hu => ⟨obj_cell (HOB.out _ hu pa _ hne.2.1 hpa) 0, obj_cell (HOB.out _ hu pm _ hne.1 hpm) 1, hcf u (HBL.out u hu), obj_cell (HOB.out _ hu ps _ hne.2.2.1 hps) 0, obj_cell (HOB.out _ hu ps _ hne.2.2.1 hps) 1, obj_cell (HXB.out _ hu) 0, obj_cell (HXB.out _ hu) 1⟩)
  have hi9 : i < nf := by omega
  unfold fdV at HAL HSL
  generalize slotF (treeN s n) f x = sl at *
  generalize aloneB done f.one = al at *
  generalize done ++ [f.one] = dn at *
  clear H env h hmo hl hl2 hnf hnb hb0 hbm hne hpm hpa hps hpk hmap hk hd hv hS hf ho hx1 hT0 hT1 hw1 hn1 hn2 hsl hon hif hif2 hfm hcf
  generalize x.svals.length = lv at *
  generalize x.snum = zn at *
  generalize strOf f.name = s0 at *
  generalize strOf f.ref = s3 at *
  generalize strOf f.one = s6 at *
  generalize f.num = z1 at *
  generalize f.ty = z2 at *
  generalize f.rep = b4 at *
  generalize f.loose = b5 at *
  have g2 : decide ((i : Int) ≥ 0) = true := decide_eq_true (by omega)
  have g3 : decide (0 ≤ (i : Int)) = true := decide_eq_true (by omega)
  have g4 : decide ((i : Int) < (nf : Int)) = true := decide_eq_true (by omega)
  cases al with
  | true =>
    go_enter Tryz.func59, Tryz.ntmps59
    go_wp2_with (go_at_call 60; (with_reducible rw [← HW1.out]); refine (HNU.out _ HT.out).mono ?_; rintro e w2 ⟨rfl, hb⟩; replace HT := Lib.hid (HT.out.then_below hb); replace HMP := Lib.hid (HMP.out.bel hb); clear hb)
    have HTY := HT
    replace HT := Lib.hid (HT.out.then_below (drewN_under _ 1))
    replace HMP := Lib.hid (HMP.out.bel (drewN_under _ 1))
    go_region_held3 (fun u => u.cell? ⟨pa, 0, none⟩ = some (.func (.func 100) #[] #[.pointer (some ⟨pk, 0, none⟩)]) ∧ u.cell? ⟨pm, 1, none⟩ = some (.slice (some ⟨gf, of, none⟩) nf c1) ∧ (u.cell? ⟨gf, of + i * 7, none⟩ = some (.string s0) ∧ u.cell? ⟨gf, of + i * 7 + 1, none⟩ = some (.int .i64 z1) ∧ u.cell? ⟨gf, of + i * 7 + 2, none⟩ = some (.int .i64 z2) ∧ u.cell? ⟨gf, of + i * 7 + 3, none⟩ = some (.string s3) ∧ u.cell? ⟨gf, of + i * 7 + 4, none⟩ = some (.bool b4) ∧ u.cell? ⟨gf, of + i * 7 + 5, none⟩ = some (.bool b5) ∧ u.cell? ⟨gf, of + i * 7 + 6, none⟩ = some (.string s6)) ∧ u.cell? ⟨ps, 0, none⟩ = some (.slice A ne ca) ∧ u.cell? ⟨ps, 1, none⟩ = some (.slice A2 nm ca2) ∧ u.cell? ⟨w.heap.size, 0, none⟩ = some (.int .i64 zn) ∧ u.cell? ⟨w.heap.size, 1, none⟩ = some (.slice B1 lv d1))
     (first | exact HK.out _ HT.out | exact HK.out _ HTY.out)
     (first
      | (go_at_call 100; refine (HAL.out _ HT.out HMP.out).mono ?_; rintro e w3 ⟨rfl, hb, hm⟩; have HM3 := Lib.hid hm; replace HT := Lib.hid (touch_more HT.out hb); clear hb hm)
      | (go_at_call 61; refine (HSL.out _ HT.out).mono ?_; rintro e w4 ⟨rfl, hb⟩; replace HM3 := Lib.hid (HM3.out.bel hb); replace HT := Lib.hid (HT.out.then_below hb); clear hb))
    go_wp2
    go_ret
    refine ⟨?_, touch_more HT1.out HT.out, fun _ => HM3.out⟩
    cases sl <;> rfl
  | false =>
    go_enter Tryz.func59, Tryz.ntmps59
    go_wp2_with (go_at_call 60; (with_reducible rw [← HW1.out]); refine (HNU.out _ HT.out).mono ?_; rintro e w2 ⟨rfl, hb⟩; replace HT := Lib.hid (HT.out.then_below hb); replace HMP := Lib.hid (HMP.out.bel hb); clear hb)
    replace HT := Lib.hid (HT.out.then_below (drewN_under _ 1))
    replace HMP := Lib.hid (HMP.out.bel (drewN_under _ 1))
    refine wp_region_noPanic ?_
    refine wp_region_held_drew (S := fun u => u.cell? ⟨pa, 0, none⟩ = some (.func (.func 100) #[] #[.pointer (some ⟨pk, 0, none⟩)]) ∧ u.cell? ⟨pm, 1, none⟩ = some (.slice (some ⟨gf, of, none⟩) nf c1) ∧ (u.cell? ⟨gf, of + i * 7, none⟩ = some (.string s0) ∧ u.cell? ⟨gf, of + i * 7 + 1, none⟩ = some (.int .i64 z1) ∧ u.cell? ⟨gf, of + i * 7 + 2, none⟩ = some (.int .i64 z2) ∧ u.cell? ⟨gf, of + i * 7 + 3, none⟩ = some (.string s3) ∧ u.cell? ⟨gf, of + i * 7 + 4, none⟩ = some (.bool b4) ∧ u.cell? ⟨gf, of + i * 7 + 5, none⟩ = some (.bool b5) ∧ u.cell? ⟨gf, of + i * 7 + 6, none⟩ = some (.string s6)) ∧ u.cell? ⟨ps, 0, none⟩ = some (.slice A ne ca) ∧ u.cell? ⟨ps, 1, none⟩ = some (.slice A2 nm ca2) ∧ u.cell? ⟨w.heap.size, 0, none⟩ = some (.int .i64 zn) ∧ u.cell? ⟨w.heap.size, 1, none⟩ = some (.slice B1 lv d1)) (by kernel_rfl) (HK.out _ HT.out) (fun hHeld => ?_)
    refine take_at (i := 0) (v := ?_) rfl (by kernel_rfl) (by kernel_rfl) (by kernel_rfl) (fun _ _ _ h => h) (Or.inl ⟨by rfl, ?_⟩) hHeld ?_
    case refine_2 => (intro w hSw; (try dsimp only at hSw); go_simp <;> with_reducible rfl)
    try simp only [Act.put, List.setIfInBounds_toArray, List.set_cons_zero, List.set_cons_succ]
    refine take_at (i := 1) (v := ?_) rfl (by kernel_rfl) (by kernel_rfl) (by kernel_rfl) (fun _ _ _ h => h) (Or.inl ⟨by rfl, ?_⟩) hHeld ?_
    case refine_2 => (intro w hSw; (try dsimp only at hSw); go_simp <;> with_reducible rfl)
    try simp only [Act.put, List.setIfInBounds_toArray, List.set_cons_zero, List.set_cons_succ]
    refine take_at (i := 2) (v := ?_) rfl (by kernel_rfl) (by kernel_rfl) (by kernel_rfl) (fun _ _ _ h => h) (Or.inl ⟨by rfl, ?_⟩) hHeld ?_
    case refine_2 => (intro w hSw; (try dsimp only at hSw); go_simp <;> with_reducible rfl)
    try simp only [Act.put, List.setIfInBounds_toArray, List.set_cons_zero, List.set_cons_succ]
    refine take_at (i := 3) (v := ?_) rfl (by kernel_rfl) (by kernel_rfl) (by kernel_rfl) (fun _ _ _ h => h) (Or.inl ⟨by rfl, ?_⟩) hHeld ?_
    case refine_2 => (intro w hSw; (try dsimp only at hSw); go_simp <;> with_reducible rfl)
    try simp only [Act.put, List.setIfInBounds_toArray, List.set_cons_zero, List.set_cons_succ]
    refine take_at (i := 4) (v := ?_) rfl (by kernel_rfl) (by kernel_rfl) (by kernel_rfl) (fun _ _ _ h => h) (Or.inl ⟨by rfl, ?_⟩) hHeld ?_
    case refine_2 => (intro w hSw; (try dsimp only at hSw); go_simp <;> with_reducible rfl)
    try simp only [Act.put, List.setIfInBounds_toArray, List.set_cons_zero, List.set_cons_succ]
    refine take_at (i := 5) (v := ?_) rfl (by kernel_rfl) (by kernel_rfl) (by kernel_rfl) (fun _ _ _ h => h) (Or.inl ⟨by rfl, ?_⟩) hHeld ?_
    case refine_2 => (intro w hSw; (try dsimp only at hSw); go_simp <;> with_reducible rfl)
    try simp only [Act.put, List.setIfInBounds_toArray, List.set_cons_zero, List.set_cons_succ]
    refine take_at (i := 6) (v := ?_) rfl (by kernel_rfl) (by kernel_rfl) (by kernel_rfl) (fun _ _ _ h => h) (Or.inl ⟨by rfl, ?_⟩) hHeld ?_
    case refine_2 => (intro w hSw; (try dsimp only at hSw); go_simp <;> with_reducible rfl)
    try simp only [Act.put, List.setIfInBounds_toArray, List.set_cons_zero, List.set_cons_succ]
    refine take_at (i := 7) (v := ?_) rfl (by kernel_rfl) (by kernel_rfl) (by kernel_rfl) (fun _ _ _ h => h) (Or.inl ⟨by rfl, ?_⟩) hHeld ?_
    case refine_2 => (intro w hSw; (try dsimp only at hSw); go_simp <;> with_reducible rfl)
    try simp only [Act.put, List.setIfInBounds_toArray, List.set_cons_zero, List.set_cons_succ]
    refine take_at (i := 8) (v := ?_) rfl (by kernel_rfl) (by kernel_rfl) (by kernel_rfl) (fun _ _ _ h => h) (Or.inl ⟨by rfl, ?_⟩) hHeld ?_
    case refine_2 => (intro w hSw; (try dsimp only at hSw); go_simp <;> with_reducible rfl)
    try simp only [Act.put, List.setIfInBounds_toArray, List.set_cons_zero, List.set_cons_succ]
    refine wpAnyH_ready (rs := [9]) (by kernel_rfl) (by simp) ?_
    refine ready_at (i := 9) rfl (fun K hK => ?_)
    go_simp
    go_at_call 100; refine (HAL.out _ HT.out HMP.out).mono ?_; rintro e w3 ⟨rfl, hb, hm⟩; have HM3 := Lib.hid hm; replace HT := Lib.hid (touch_more HT.out hb); clear hb hm
    clear hHeld
    refine hK.out _ _ (HK.out _ HT.out) (fun hHeld => ?_)
    clear hK K
    try simp only [Act.put, List.setIfInBounds_toArray, List.set_cons_zero, List.set_cons_succ]
    refine take_at (i := 10) (v := ?_) rfl (by kernel_rfl) (by kernel_rfl) (by kernel_rfl) (fun _ _ _ h => h) (Or.inl ⟨by rfl, ?_⟩) hHeld ?_
    case refine_2 => (intro w hSw; (try dsimp only at hSw); go_simp <;> with_reducible rfl)
    try simp only [Act.put, List.setIfInBounds_toArray, List.set_cons_zero, List.set_cons_succ]
    refine take_at (i := 11) (v := ?_) rfl (by kernel_rfl) (by kernel_rfl) (by kernel_rfl) (fun _ _ _ h => h) (Or.inl ⟨by rfl, ?_⟩) hHeld ?_
    case refine_2 => (intro w hSw; (try dsimp only at hSw); go_simp <;> with_reducible rfl)
    try simp only [Act.put, List.setIfInBounds_toArray, List.set_cons_zero, List.set_cons_succ]
    refine take_at (i := 12) (v := undef) rfl (by kernel_rfl) (by kernel_rfl) (by kernel_rfl) (fun _ _ _ h => h) (Or.inr ⟨by rfl, rfl⟩) hHeld ?_
    try simp only [Act.put, List.setIfInBounds_toArray, List.set_cons_zero, List.set_cons_succ]
    refine take_at (i := 13) (v := undef) rfl (by kernel_rfl) (by kernel_rfl) (by kernel_rfl) (fun _ _ _ h => h) (Or.inr ⟨by rfl, rfl⟩) hHeld ?_
    try simp only [Act.put, List.setIfInBounds_toArray, List.set_cons_zero, List.set_cons_succ]
    refine take_at (i := 14) (v := undef) rfl (by kernel_rfl) (by kernel_rfl) (by kernel_rfl) (fun _ _ _ h => h) (Or.inr ⟨by rfl, rfl⟩) hHeld ?_
    try simp only [Act.put, List.setIfInBounds_toArray, List.set_cons_zero, List.set_cons_succ]
    refine take_at (i := 15) (v := undef) rfl (by kernel_rfl) (by kernel_rfl) (by kernel_rfl) (fun _ _ _ h => h) (Or.inr ⟨by rfl, rfl⟩) hHeld ?_
    try simp only [Act.put, List.setIfInBounds_toArray, List.set_cons_zero, List.set_cons_succ]
    refine take_at (i := 16) (v := undef) rfl (by kernel_rfl) (by kernel_rfl) (by kernel_rfl) (fun _ _ _ h => h) (Or.inr ⟨by rfl, rfl⟩) hHeld ?_
    try simp only [Act.put, List.setIfInBounds_toArray, List.set_cons_zero, List.set_cons_succ]
    refine take_at (i := 17) (v := undef) rfl (by kernel_rfl) (by kernel_rfl) (by kernel_rfl) (fun _ _ _ h => h) (Or.inr ⟨by rfl, rfl⟩) hHeld ?_
    try simp only [Act.put, List.setIfInBounds_toArray, List.set_cons_zero, List.set_cons_succ]
    refine take_at (i := 18) (v := undef) rfl (by kernel_rfl) (by kernel_rfl) (by kernel_rfl) (fun _ _ _ h => h) (Or.inr ⟨by rfl, rfl⟩) hHeld ?_
    try simp only [Act.put, List.setIfInBounds_toArray, List.set_cons_zero, List.set_cons_succ]
    refine take_at (i := 19) (v := undef) rfl (by kernel_rfl) (by kernel_rfl) (by kernel_rfl) (fun _ _ _ h => h) (Or.inr ⟨by rfl, rfl⟩) hHeld ?_
    try simp only [Act.put, List.setIfInBounds_toArray, List.set_cons_zero, List.set_cons_succ]
    refine take_at (i := 20) (v := ?_) rfl (by kernel_rfl) (by kernel_rfl) (by kernel_rfl) (fun _ _ _ h => h) (Or.inl ⟨by rfl, ?_⟩) hHeld ?_
    case refine_2 => (intro w hSw; (try dsimp only at hSw); go_simp <;> with_reducible rfl)
    try simp only [Act.put, List.setIfInBounds_toArray, List.set_cons_zero, List.set_cons_succ]
    refine take_at (i := 21) (v := ?_) rfl (by kernel_rfl) (by kernel_rfl) (by kernel_rfl) (fun _ _ _ h => h) (Or.inl ⟨by rfl, ?_⟩) hHeld ?_
    case refine_2 => (intro w hSw; (try dsimp only at hSw); go_simp <;> with_reducible rfl)
    try simp only [Act.put, List.setIfInBounds_toArray, List.set_cons_zero, List.set_cons_succ]
    refine wpAnyH_done (by kernel_rfl) ?_ _
    refine NoPanic.normal ?_
    clear hHeld
    go_wp2
    go_ret
    refine ⟨?_, touch_more HT1.out HT.out, fun hx => ?_⟩
    ·cases sl <;> rfl
    ·cases sl <;> cases hx
end Go.Proofs.YtloheacncefkgaaGreatDoor

/- The program's layer 20: which trees are a message's values; Knows. Conditions: those that each theorem names. -/
namespace Go.Proofs.YtloheacncefkgaaGreatDoor
open Go.RowKit
set_option linter.unusedVariables false
set_option maxRecDepth 100000

/-- The boxes of a call of Tree. -/
structure VdW (w : World) (pm pa pk bm : Nat) (M SCH TRE : Array Value) (u : World) : Prop where
 v_bel : Below w.heap.size w u
 v_s : u.heap[w.heap.size]? = some (.cells SCH 25 (0, 0))
 v_x : u.heap[w.heap.size + 1]? = some (.cells TRE 29 (0, 0))
 v_m : u.heap[pm]? = some (.cells M 57 (0, 0))
 v_a : u.heap[pa]? = some (.cells #[.func (.func 100) #[] #[.pointer (some ⟨pk, 0, none⟩)]] 98 (0, 0))
 v_k : u.heap[pk]? = some (.cells #[.map (some bm)] 135 (0, 0))
 v_map : MapAt u bm 0 (cntF [])
 v_ne : w.heap.size ≤ bm ∧ pm ≠ bm ∧ pa ≠ bm ∧ w.heap.size ≠ bm ∧ pk ≠ bm ∧ w.heap.size + 1 ≠ bm
section
variable {w u u' : World} {pm pa pk bm : Nat} {M SCH TRE : Array Value}
theorem VdW.more (h : VdW w pm pa pk bm M SCH TRE u) (hb : Below u.heap.size u u') : VdW w pm pa pk bm M SCH TRE u' :=
 ⟨vbel h.v_bel hb, (hb.block _ (lt_of_block h.v_s)).trans h.v_s, (hb.block _ (lt_of_block h.v_x)).trans h.v_x, (hb.block _ (lt_of_block h.v_m)).trans h.v_m, (hb.block _ (lt_of_block h.v_a)).trans h.v_a, (hb.block _ (lt_of_block h.v_k)).trans h.v_k, h.v_map.bel hb, h.v_ne⟩
theorem VdW.touched (h : VdW w pm pa pk bm M SCH TRE u) (ht : Touch (fun g => g = bm) u u') : Below w.heap.size w u' ∧ u'.heap[w.heap.size + 1]? = some (.cells TRE 29 (0, 0)) ∧ u'.heap[pm]? = some (.cells M 57 (0, 0)) :=
 ⟨h.v_bel.trans (ht.below h.v_bel.size (fun k hk => by rw [hk]; exact h.v_ne.1)), (ht.block _ (lt_of_block h.v_x) h.v_ne.2.2.2.2.2).trans h.v_x, (ht.block _ (lt_of_block h.v_m) h.v_ne.2.1).trans h.v_m⟩
end
def gS (V : List UInt8 → Tr → Bool) (m : Ms) (l : List Slt) (i : Nat) : Bool := ((l[i]?).map fun x => okS V m l x i).getD true
theorem gS_some {V : List UInt8 → Tr → Bool} {m : Ms} {l : List Slt} {i : Nat} {x : Slt} (h : l[i]? = some x) : gS V m l i = okS V m l x i := by unfold gS; rw [h]; rfl
theorem gS_no {V : List UInt8 → Tr → Bool} {m : Ms} {l : List Slt} {i : Nat} (hi : i < l.length) (h : gS V m l i = false) : decide (AllS V m l) = false := by
 rw [gS_some (List.getElem?_eq_getElem hi)] at h
 refine decide_eq_false (fun ha => ?_)
 have := ha i _ (List.getElem?_eq_getElem hi)
 rw [h] at this
 cases this
theorem gS_yes {V : List UInt8 → Tr → Bool} {m : Ms} {l : List Slt} (h : ∀ i, i < l.length → gS V m l i = true) : decide (AllS V m l) = true := by
 refine decide_eq_true (fun i x hx => ?_)
 have := h i (List.getElem?_eq_some_iff.mp hx).1
 rw [gS_some hx] at this
 exact this
theorem palones_at (u : World) (q : Nat) (hq : u.heap.size = q) :
 Calls Tryz.prog 58 #[] u fun e w' => e = .returned (.func (.func 100) #[] #[.pointer (some ⟨q + 1, 0, none⟩)]) ∧ w'.heap[q + 1]? = some (.cells #[.map (some q)] 135 (0, 0)) ∧ MapAt w' q 0 (cntF []) ∧ Below u.heap.size u w' := by
 subst hq
 exact palones_any u
theorem two_boxes (w : World) (o1 o2 : Obj) : Below w.heap.size w ((w.alloc o1).alloc o2) ∧ ((w.alloc o1).alloc o2).heap.size = w.heap.size + 1 + 1 := ⟨((Below.refl _ w).alloc (Nat.le_refl _) _).alloc (by simp) _, by simp⟩

/-- All slots. -/
theorem pvslots_any {s : Sc} {n : Nat} {SS : Nat → Nat → Prop} {S : Nat → Prop} (H : ∀ k, n = k + 1 → PTree s k) (w : World) (env : VdEnv w) {A A2 : Option Addr} {ne ca nm ca2 : Nat} (h : ScAt SS w A ne ca A2 nm ca2 s) {A1 A3 : Option Addr} {nf c1 nb c3 : Nat} {m : Ms} (hmo : MsOk m) (sn : ByteArray) (hl : Lst 7 (SS 1) fdR w A1 c1 m.fields) (hl2 : Lst 1 (SS 2) inR w A3 c3 m.barred) (hnf : nf = m.fields.length) (hnb : nb = m.barred.length)
 {B : Option Addr} {na cb : Nat} {l : List Slt} (hs : Lst 2 S (slR (trR S n) S) w B cb l) (hna : na = l.length) (hS : ∀ g, S g → g < w.heap.size) (h1000 : na ≤ 1000) (hf : ∀ x ∈ l, FitS n x) (ho : ∀ x ∈ l, BitS n x) {TRE : Array Value} (pm pa pk bm : Nat) (u : World) (hu : VdW w pm pa pk bm #[.string sn, .slice A1 nf c1, .slice A3 nb c3] #[.slice A ne ca, .slice A2 nm ca2] TRE u) :
 Calls Tryz.prog 66 #[.slice B na cb, .func (.func 59) #[] #[.pointer (some ⟨pm, 0, none⟩), .pointer (some ⟨pa, 0, none⟩), .pointer (some ⟨w.heap.size, 0, none⟩)]] u fun e w' => e = .returned (.bool (decide (AllS (treeN s n) m l))) ∧ Touch (fun g => g = bm) u w' := by
 have hne := hu.v_ne
 refine vall_sl u (lst_keep hs (slR_keep (trR_keep (fun _ h => h) (stay_bel hu.v_bel) n) (fun _ h => h) (stay_bel hu.v_bel)) (fun _ h => h) (stay_bel hu.v_bel)) hna 59 _ (fun _ _ => rfl) (fun g => g = bm) (fun g hg e => by have := hS g hg; omega) (fun g hg => by rw [hg]; exact hu.v_map.lt)
  (fun i W => MapAt W bm i (cntF ((l.take i).map (oneAt m)))) (fun i W W' hm hb => hm.bel hb) hu.v_map (gS (treeN s n) m l) _ (fun i hi hg => gS_no (by omega) hg) (fun hg => gS_yes (fun i hi => hg i (by omega))) ?_
 intro i x hx hall wr B1 d1 ht hj hv
 have hi := (List.getElem?_eq_some_iff.mp hx).1
 have hm := List.mem_of_getElem? hx
 have hbl : Below w.heap.size w wr := hu.v_bel.trans (ht.below hu.v_bel.size (fun k hk => by rw [hk]; exact hne.1))
 rw [gS_some hx]
 have hlen : ((l.take i).map (oneAt m)).length ≤ 10000 := by rw [List.length_map, List.length_take]; omega
 refine (pvslot_any H w env h hmo sn hl hl2 hnf hnb wr hbl pm pa w.heap.size pk bm i ((l.take i).map (oneAt m)) hne.1 ⟨hne.2.1, hne.2.2.1, hne.2.2.2.1, hne.2.2.2.2.1⟩
  ((ht.block _ (lt_of_block hu.v_m) hne.2.1).trans hu.v_m) ((ht.block _ (lt_of_block hu.v_a) hne.2.2.1).trans hu.v_a) ((ht.block _ (lt_of_block hu.v_s) hne.2.2.2.1).trans hu.v_s) ((ht.block _ (lt_of_block hu.v_k) hne.2.2.2.2.1).trans hu.v_k) hj (by omega) hlen x hv (fun g hg e => by have := hS g hg; omega) (hf x hm) (ho x hm)).mono ?_
 rintro e w' ⟨he, ht2, hj2⟩
 refine ⟨he, ht2, fun hg => ?_⟩
 have := hj2 hg
 rw [take_snoc' hx, List.map_append]
 exact this
theorem pvrests_any {S T T2 : Nat → Prop} {m : Ms} (w : World) {A1 A3 : Option Addr} {nf c1 nb c3 : Nat} (sn : ByteArray) (hl : Lst 7 T fdR w A1 c1 m.fields) (hl2 : Lst 1 T2 inR w A3 c3 m.barred) (hnf : nf = m.fields.length) (hnb : nb = m.barred.length) {B2 : Option Addr} {nr cr : Nat} {l : List Rw} (hr : Lst 4 S rwR w B2 cr l) (hnr : nr = l.length) (pm : Nat) (u : World) (hb : Below w.heap.size w u) (hpm : u.heap[pm]? = some (.cells #[.string sn, .slice A1 nf c1, .slice A3 nb c3] 57 (0, 0))) :
 Calls Tryz.prog 67 #[.slice B2 nr cr, .func (.func 62) #[] #[.pointer (some ⟨pm, 0, none⟩)]] u fun e w' => e = .returned (.bool (l.all (restT m))) ∧ Below u.heap.size u w' := by
 refine (vall_rw u (lst_keep (w' := u) hr (fun _ _ h => h) (fun _ h => h) (stay_bel hb)) hnr 62 _ (fun _ _ => rfl) (fun _ => False) (fun _ _ h => h) (fun _ h => h.elim) (fun _ _ => True) (fun _ _ _ _ _ => trivial) trivial (gAt (restT m) l) _ (fun i hi hg => gAt_no (by omega) hg) (fun hg => gAt_yes (fun i hi => hg i (by omega))) ?_).mono (fun e w' h => ⟨h.1, touch_pure h.2⟩)
 intro i x hx _ wr ht _
 have hq := touch_pure ht
 rw [gAt_some hx]
 refine (pvrest_any wr sn (lst_keep (S' := T) hl fdR_keep (fun _ h => h) (bel_keep (vbel hb hq))) (lst_keep (S' := T2) hl2 inR_keep (fun _ h => h) (bel_keep (vbel hb hq))) hnf hnb x pm ((hq.block _ (lt_of_block hpm)).trans hpm)).mono ?_
 rintro e w' ⟨he, hb⟩
 exact ⟨he, pure_touch hb, fun _ => trivial⟩

/-- The world behind alones, in which its box is made. -/
theorem vdw_made {w w1 w2 w4 : World} {M SCH TRE : Array Value} (hx : Bx2 w w1 (.cells SCH 25 (0, 0)) (.cells TRE 29 (0, 0))) (hz : w1.heap.size = w.heap.size + 1 + 1) (h2 : Bx2 w w2 (.cells SCH 25 (0, 0)) (.cells TRE 29 (0, 0))) (hk : w4.heap[w2.heap.size + 1 + 1]? = some (.cells #[.map (some (w2.heap.size + 1))] 135 (0, 0))) (hm : MapAt w4 (w2.heap.size + 1) 0 (cntF []))
 (hb : Below (w2.alloc (.cells M 57)).heap.size (w2.alloc (.cells M 57)) w4) : VdW w w2.heap.size w4.heap.size (w2.heap.size + 1 + 1) (w2.heap.size + 1) M SCH TRE (w4.alloc (.cells #[.func (.func 100) #[] #[.pointer (some ⟨w2.heap.size + 1 + 1, 0, none⟩)]] 98)) := by
 have h3 := bx2_step h2 ((Below.refl _ w2).alloc (Nat.le_refl _) (.cells M 57))
 have h4 := bx2_step h3 hb
 have hm3 := heap_alloc_new w2 (.cells M 57)
 have hm4 := (hb.block _ (lt_of_block hm3)).trans hm3
 have l1 := lt_of_block h2.b2_two
 have l2 := lt_of_block hk
 have hb5 : Below w4.heap.size w4 (w4.alloc (.cells #[.func (.func 100) #[] #[.pointer (some ⟨w2.heap.size + 1 + 1, 0, none⟩)]] 98)) := (Below.refl _ _).alloc (Nat.le_refl _) _
 have h5 := bx2_step h4 hb5
 exact ⟨h5.b2_bel, h5.b2_one, h5.b2_two, (hb5.block _ (lt_of_block hm4)).trans hm4, heap_alloc_new _ _, (hb5.block _ (lt_of_block hk)).trans hk, hm.bel hb5, by omega, by omega, by omega, by omega, by omega, by omega⟩

set_option maxHeartbeats 16000000 in
theorem pvtree_step {s : Sc} (hok : ScOk s) {n : Nat} (H : ∀ k, n = k + 1 → PTree s k) : PTree s n := by
 intro SS S0 w A ne ca A2 nm ca2 name B na cb B2 nr cr x env h hx hf ho
 have hx := trAt_lt hx
 obtain ⟨S, hS⟩ : ∃ S : Nat → Prop, S = fun g => S0 g ∧ g < w.heap.size := ⟨_, rfl⟩
 rw [← hS] at hx
 obtain ⟨w1, hw1⟩ : ∃ w1, w1 = (w.alloc (.cells #[.slice A ne ca, .slice A2 nm ca2] 25)).alloc (.cells #[.slice B na cb, .slice B2 nr cr] 29) := ⟨_, rfl⟩
 obtain ⟨hb1, hz1⟩ := two_boxes w (.cells #[.slice A ne ca, .slice A2 nm ca2] 25) (.cells #[.slice B na cb, .slice B2 nr cr] 29)
 have h2 := bx2_start w #[.slice A ne ca, .slice A2 nm ca2] #[.slice B na cb, .slice B2 nr cr] 25 29
 rw [← hw1] at hb1 hz1 h2
 have s0 := obj_cell h2.b2_one 0
 have s1 := obj_cell h2.b2_one 1
 rw [hw1] at s0 s1
 have HW1 := Lib.hid hw1
 have HBX := Lib.hid h2
 have HZ1 := Lib.hid hz1
 have HALN := Lib.hid (fun u q hq => palones_at u q hq)
 obtain ⟨q1, q2, q3, q4⟩ := trAt_max hx
 rcases msg_way s name with ⟨hn1, hn2⟩ | ⟨i, m, hn1, him, hn2⟩
 ·rw [treeN_none hn2]
  have HM := Lib.hid (pvmsg_none w1 (scAt_bel h hb1) name hn1)
  unfold zMsg at HM
  clear H env h hx hf ho hS hw1 hb1 hz1 h2 hn1 hn2 hok
  generalize strOf name = sm at *
  go_enter Tryz.func28, Tryz.ntmps28
  go_wp2_with (first
   | (go_at_call 57; (with_reducible rw [← HW1.out]); refine HM.out.mono ?_; rintro e w2 ⟨rfl, hb⟩; have HB2 := Lib.hid (bx2_step HBX.out hb); clear hb)
   | (go_at_call 58; refine (HALN.out _ _ rfl).mono ?_; rintro e w4 ⟨rfl, _, _, hb⟩; have HB4 := Lib.hid (bx2_step (bx2_step HB2.out ((Below.refl _ _).alloc (Nat.le_refl _) _)) hb); clear hb))
  go_ret
  exact ⟨rfl, HB4.out.b2_bel.alloc HB4.out.b2_bel.size _⟩
 ·rw [treeN_some hn2]
  have hmm := List.mem_of_getElem? him
  have hmo := hok.2.2.2 m hmm
  have hi2 := (List.getElem?_eq_some_iff.mp him).1
  obtain ⟨ge, oe, A1, c1, A3, c3, rfl, _, hc, hl, hl2⟩ := ms_at h.s_m him
  have HM := Lib.hid (pvmsg_some w1 (scAt_bel h hb1) name hn1 (by have := h.s_nm; omega) (fun wr hb => hc wr (hb1.trans (hb.mono hb1.size))))
  have HRI := Lib.hid (fun u (hb : Below w.heap.size w u) => pvrise_any (S := S) (m := n) u (lst_keep hx.t_s (slR_keep (trR_keep (fun _ h => h) (stay_bel hb) n) (fun _ h => h) (stay_bel hb)) (fun _ h => h) (stay_bel hb)) hx.t_ns)
  have HSL := Lib.hid (fun pm pa pk bm u hu => pvslots_any (TRE := #[.slice B na cb, .slice B2 nr cr]) H w env h hmo (strOf m.name) hl hl2 rfl rfl hx.t_s hx.t_ns (fun g hg => by rw [hS] at hg; exact hg.2) (by have := hf.1; have := hx.t_ns; omega) (fun y hy => fit_slots hf hy) (fun y hy => bit_slots ho hy) pm pa pk bm u hu)
  have HRS := Lib.hid (fun pm u hb hpm => pvrests_any w (strOf m.name) hl hl2 rfl rfl hx.t_r hx.t_nr pm u hb hpm)
  obtain ⟨r, hr⟩ : ∃ r, r = risesB (x.slots.map (·.snum)) := ⟨_, rfl⟩
  obtain ⟨al, hal⟩ : ∃ al, al = decide (AllS (treeN s n) m x.slots) := ⟨_, rfl⟩
  obtain ⟨rs, hrs⟩ : ∃ rs, rs = x.rest.all (restT m) := ⟨_, rfl⟩
  rw [← hr] at HRI ⊢
  rw [← hal] at HSL ⊢
  rw [← hrs] at HRS ⊢
  clear H env h hx hf ho hS hw1 hb1 hz1 h2 hn1 hn2 hok hmm hmo hi2 hc hl hl2 hr hal hrs him
  generalize strOf name = sm at *
  generalize strOf m.name = sn at *
  generalize m.fields.length = nf at *
  generalize m.barred.length = nb at *
  cases r with
  | false =>
    clear HSL HRS
    go_enter Tryz.func28, Tryz.ntmps28
    go_wp2_with (first
     | (go_at_call 57; (with_reducible rw [← HW1.out]); refine HM.out.mono ?_; rintro e w2 ⟨rfl, hb⟩; have HB2 := Lib.hid (bx2_step HBX.out hb); clear hb)
     | (go_at_call 58; refine (HALN.out _ (w2.heap.size + 1) (World.size_alloc _ _)).mono ?_; rintro e w4 ⟨rfl, hk, hm, hb⟩; have HVW := Lib.hid (vdw_made HBX.out HZ1.out HB2.out hk hm hb); have t0 := obj_cell HVW.out.v_x 0; have t1 := obj_cell HVW.out.v_x 1; clear hb hk hm)
     | (go_at_call 65; refine (HRI.out _ HVW.out.v_bel).mono ?_; rintro e w6 ⟨rfl, hb⟩; replace HVW := Lib.hid (HVW.out.more hb); have t0 := obj_cell HVW.out.v_x 0; clear hb))
    go_ret
    refine ⟨?_, HVW.out.v_bel⟩
    first | rfl | (cases rs <;> rfl)
  | true =>
    cases al with
    | false =>
      clear HRS
      go_enter Tryz.func28, Tryz.ntmps28
      go_wp2_with (first
       | (go_at_call 57; (with_reducible rw [← HW1.out]); refine HM.out.mono ?_; rintro e w2 ⟨rfl, hb⟩; have HB2 := Lib.hid (bx2_step HBX.out hb); clear hb)
       | (go_at_call 58; refine (HALN.out _ (w2.heap.size + 1) (World.size_alloc _ _)).mono ?_; rintro e w4 ⟨rfl, hk, hm, hb⟩; have HVW := Lib.hid (vdw_made HBX.out HZ1.out HB2.out hk hm hb); have t0 := obj_cell HVW.out.v_x 0; have t1 := obj_cell HVW.out.v_x 1; clear hb hk hm)
       | (go_at_call 65; refine (HRI.out _ HVW.out.v_bel).mono ?_; rintro e w6 ⟨rfl, hb⟩; replace HVW := Lib.hid (HVW.out.more hb); have t0 := obj_cell HVW.out.v_x 0; clear hb)
       | (go_at_call 66; refine (HSL.out _ _ _ _ _ HVW.out).mono ?_; rintro e w7 ⟨rfl, ht⟩; have HVT := Lib.hid (HVW.out.touched ht); have t1 := obj_cell HVT.out.2.1 1; clear ht))
      go_ret
      refine ⟨?_, HVT.out.1⟩
      first | rfl | (cases rs <;> rfl)
    | true =>
      go_enter Tryz.func28, Tryz.ntmps28
      go_wp2_with (first
       | (go_at_call 57; (with_reducible rw [← HW1.out]); refine HM.out.mono ?_; rintro e w2 ⟨rfl, hb⟩; have HB2 := Lib.hid (bx2_step HBX.out hb); clear hb)
       | (go_at_call 58; refine (HALN.out _ (w2.heap.size + 1) (World.size_alloc _ _)).mono ?_; rintro e w4 ⟨rfl, hk, hm, hb⟩; have HVW := Lib.hid (vdw_made HBX.out HZ1.out HB2.out hk hm hb); have t0 := obj_cell HVW.out.v_x 0; have t1 := obj_cell HVW.out.v_x 1; clear hb hk hm)
       | (go_at_call 65; refine (HRI.out _ HVW.out.v_bel).mono ?_; rintro e w6 ⟨rfl, hb⟩; replace HVW := Lib.hid (HVW.out.more hb); have t0 := obj_cell HVW.out.v_x 0; clear hb)
       | (go_at_call 66; refine (HSL.out _ _ _ _ _ HVW.out).mono ?_; rintro e w7 ⟨rfl, ht⟩; have HVT := Lib.hid (HVW.out.touched ht); have t1 := obj_cell HVT.out.2.1 1; clear ht)
       | (go_at_call 67; refine (HRS.out _ _ HVT.out.1 HVT.out.2.2).mono ?_; rintro e w8 ⟨rfl, hb⟩; have HB8 := Lib.hid (vbel HVT.out.1 hb); clear hb))
      go_ret
      refine ⟨?_, HB8.out⟩
      first | rfl | (cases rs <;> rfl)
theorem pvtree_any {s : Sc} (hok : ScOk s) : ∀ n, PTree s n
 | 0 => pvtree_step hok (fun k hk => by omega)
 | n + 1 => pvtree_step hok (fun k hk => by
     obtain rfl : n = k := by omega
     exact pvtree_any hok n)

end Go.Proofs.YtloheacncefkgaaGreatDoor

/- Layer 20: the page's example ('live'); which trees are a message's values, the law's walk. Conditions: VdEnv; those that each theorem names. -/
namespace Go.Proofs.YtloheacncefkgaaGreatDoor
open Go.RowKit
set_option linter.unusedVariables false
set_option maxRecDepth 100000

def allocs (w : World) : List Obj → World
 | [] => w
 | o :: r => allocs (w.alloc o) r
theorem allocs_bel : ∀ (l : List Obj) (w : World), Below w.heap.size w (allocs w l)
 | [], w => Below.refl _ _
 | o :: r, w => vbel ((Below.refl _ w).alloc (Nat.le_refl _) o) (allocs_bel r (w.alloc o))
theorem allocs_at : ∀ (l : List Obj) (w : World) (i : Nat) (cs : Array Value) (t : TypeId), l[i]? = some (.cells cs t) → (allocs w l).heap[w.heap.size + i]? = some (.cells cs t (0, 0))
 | [], w, i, cs, t, h => by simp at h
 | o :: r, w, 0, cs, t, h => by
   simp at h
   subst h
   exact ((allocs_bel r _).block _ (by simp)).trans (heap_alloc_new w _)
 | o :: r, w, i + 1, cs, t, h => by
   have := allocs_at r (w.alloc o) i cs t (by simpa using h)
   rw [World.size_alloc] at this
   rw [show w.heap.size + (i + 1) = w.heap.size + 1 + i by omega]
   exact this
/-- A list that lies in a block of its own, whole. -/
theorem vd_block {α : Type} {k : Nat} {S : Nat → Prop} {R : World → List Value → α → Prop} {w : World} {g : Nat} {cs : Array Value} {t : TypeId} {l : List α} {f : α → List Value} (h : w.heap[g]? = some (.cells cs t (0, 0))) (hc : cs.toList = l.flatMap f) (hf : ∀ x, (f x).length = k) (hR : ∀ x ∈ l, R w (f x) x) (hS : S g) (hm : l.length ≤ maxLen) :
 Lst k S R w (some ⟨g, 0, none⟩) l.length l :=
 ⟨Nat.le_refl _, hm, (fun e => by cases e), fun j x hj => ⟨g, 0, f x, rfl, hS, hf x, hR x (List.mem_of_getElem? hj), fun i u hu => by
  have hi : i < k := by have := (List.getElem?_eq_some_iff.mp hu).1; rw [hf] at this; exact this
  rw [cell_of_row _ g (0 + j * k + i) cs t (0, 0) h, ← Array.getElem?_toList, hc, Nat.zero_add, Nat.mul_comm j k]
  exact (flat_get f k hf l j x i hj hi).trans hu⟩⟩
def vlF : Fd := ⟨[97], 1, 1, [], false, false, []⟩
def vlS : Sc := ⟨[], [⟨[77], [vlF], []⟩]⟩
def vlT (n : Nat) : Tr := .mk [⟨1, [⟨n, [], []⟩]⟩] []
theorem vl_ok : ScOk vlS := by
 unfold ScOk vlS MsOk FdOk vlF lenM Int64
 simp
theorem vdl_at {wr : World} (g b : Nat) (h1 : wr.heap[g]? = some (.cells #[.string ⟨#[97]⟩, .int .i64 1, .int .i64 1, .string ⟨#[]⟩, .bool false, .bool false, .string ⟨#[]⟩] 44 (0, 0)))
 (h2 : wr.heap[b]? = some (.cells #[.string ⟨#[77]⟩, .slice (some ⟨g, 0, none⟩) 1 1, .slice none 0 0] 57 (0, 0))) : ScAt (fun _ _ => True) wr none 0 0 (some ⟨b, 0, none⟩) 1 1 vlS where
 s_e := lst_empty _ _ _ (by decide) (fun _ => rfl)
 s_m := vd_block (l := vlS.msgs) (f := fun _ => [.string ⟨#[77]⟩, .slice (some ⟨g, 0, none⟩) 1 1, .slice none 0 0]) h2 rfl (fun _ => rfl) (fun x hx => by
  obtain rfl : x = ⟨[77], [vlF], []⟩ := by simpa [vlS] using hx
  exact ⟨_, _, _, _, rfl, vd_block (l := [vlF]) (f := fdCells) h1 rfl (fun _ => rfl) (fun _ _ => rfl) trivial (by decide), lst_empty _ _ _ (by decide) (fun _ => rfl)⟩) trivial (by decide)
 s_ne := rfl
 s_nm := rfl
theorem vl_tree {wr : World} (n g b : Nat) (h1 : wr.heap[g]? = some (.cells #[.int .u64 (n : Int), .string ⟨#[]⟩, .slice none 0 0] 64 (0, 0))) (h2 : wr.heap[b]? = some (.cells #[.int .i64 1, .slice (some ⟨g, 0, none⟩) 1 1] 67 (0, 0))) : TrAt (fun _ => True) 0 wr (some ⟨b, 0, none⟩) 1 1 none 0 0 (vlT n) where
 t_s := vd_block (l := (vlT n).slots) (f := fun (_ : Slt) => [Value.int .i64 1, Value.slice (some ⟨g, 0, none⟩) 1 1]) h2 rfl (fun _ => rfl) (fun x hx => by
  obtain rfl : x = ⟨1, [⟨n, [], []⟩]⟩ := by simpa [vlT, Tr.slots] using hx
  exact ⟨_, _, rfl, vd_block (l := ([⟨n, [], []⟩] : List Va)) (f := fun (_ : Va) => [Value.int .u64 (n : Int), Value.string ⟨#[]⟩, Value.slice none 0 0]) h1 rfl (fun _ => rfl) (fun y hy => by
   obtain rfl : y = ⟨n, [], []⟩ := by simpa using hy
   exact ⟨none, 0, rfl, lst_empty _ _ _ (by decide) (fun _ => rfl)⟩) trivial (by show 1 ≤ maxLen; decide)⟩) trivial (by show 1 ≤ maxLen; decide)
 t_r := lst_empty _ _ _ (by decide) (fun _ => rfl)
 t_ns := rfl
 t_nr := rfl
theorem vl_fit (n : Nat) : FitN 1 (vlT n) := by
 refine ⟨by simp [vlT, Tr.slots], by simp [vlT, Tr.rest], fun r hr => by simp [vlT, Tr.rest] at hr, fun s hs => ?_⟩
 obtain rfl : s = ⟨1, [⟨n, [], []⟩]⟩ := by simpa [vlT, Tr.slots] using hs
 refine ⟨by simp, fun v hv => ?_⟩
 obtain rfl : v = ⟨n, [], []⟩ := by simpa using hv
 exact ⟨by simp, by simp, fun u hu => by simp at hu⟩
theorem vl_bit (n : Nat) (h : n < 18446744073709551616) : OkN 1 (vlT n) := by
 refine ⟨by simp [vlT, Tr.slots], by simp [vlT, Tr.rest], fun r hr => by simp [vlT, Tr.rest] at hr, fun s hs => ?_⟩
 obtain rfl : s = ⟨1, [⟨n, [], []⟩]⟩ := by simpa [vlT, Tr.slots] using hs
 refine ⟨by simp, fun v hv => ?_⟩
 obtain rfl : v = ⟨n, [], []⟩ := by simpa using hv
 exact ⟨⟨by simp, h⟩, by simp, fun u hu => by simp at hu⟩

end Go.Proofs.YtloheacncefkgaaGreatDoor

/- Layer 21: what the program's calls give (EncOk), the page's example ('live'), all values packed. Conditions: EncOk's, and those that each theorem names. -/
namespace Go.Proofs.YtloheacncefkgaaGreatDoor
open Go.RowKit
set_option linter.unusedVariables false
set_option maxRecDepth 100000

/-- The program's answers for layer 21, in a world that meets E. -/
structure EncOk (E : World → Prop) : Prop where
 erolls : ∀ {w w' : World}, E w → Below w.heap.size w w' → E w'
 eenv : ∀ {w : World}, E w → U8Env w
 eput : ∀ {s : Sc} {n : Nat} {SS : Nat → Nat → Prop} {S : Nat → Prop} (w : World) {A A2 : Option Addr} {ne ca nm ca2 : Nat} (name : List UInt8) {B B2 : Option Addr} {na cb nr cr : Nat} {x : Tr}, E w → ScOk s → checkT s = 0 → ScAt SS w A ne ca A2 nm ca2 s → TrAt S n w B na cb B2 nr cr x → FitN (n + 1) x → OkN (n + 1) x → deepN (n + 1) x ≤ 900 → costN (n + 1) x ≤ 1000000000 →
  Calls Tryz.prog 11 #[.agg #[.slice A ne ca, .slice A2 nm ca2], .string (strOf name), .agg #[.slice B na cb, .slice B2 nr cr]] w (EnPut w (putB s (n + 1) name x) (putC s (n + 1) name x))
 epack : ∀ (w : World) (f : Fd) {A : Option Addr} {cap n : Nat} {l : List Nat}, E w → Sl w A cap (u64s l) → n = l.length → l.length ≤ 1000 → (∀ x ∈ l, x < 18446744073709551616) →
  Calls Tryz.prog 15 #[fdV f, .slice A n cap] w fun e w' => e = .returned (.string (strOf (packB f l))) ∧ Below w.heap.size w w'
theorem el_check : checkT vlS = 0 := by decide +kernel
theorem el_code : putC vlS 1 [77] (vlT 300) = 0 := by decide +kernel
theorem el_bytes : putB vlS 1 [77] (vlT 300) = [8, 172, 2] := by decide +kernel
theorem el_deep : deepN 1 (vlT 300) ≤ 900 := by decide +kernel
theorem el_cost : costN 1 (vlT 300) ≤ 1000000000 := by decide +kernel
theorem ennum_any (k : Int) (w : World) : Calls Tryz.prog 14 #[.int .i64 k] w fun e w' => e = .returned (.int .i64 k) ∧ w = w' := by
 go_enter Tryz.func14, Tryz.ntmps14
 go_wp2
 go_ret
 exact ⟨rfl, rfl⟩
set_option maxHeartbeats 8000000 in
theorem enlive_any {E : World → Prop} (ok : EncOk E) (w : World) (env : E w) : Calls Tryz.prog 10 #[] w fun e w' => e = .returned (.bool true) ∧ Below w.heap.size w w' := by
 obtain ⟨W, hW⟩ : ∃ W, W = allocs w [.cells #[.string ⟨#[97]⟩, .int .i64 1, .int .i64 1, .string ⟨#[]⟩, .bool false, .bool false, .string ⟨#[]⟩] 44, .cells #[.string ⟨#[77]⟩, .slice (some ⟨w.heap.size, 0, none⟩) 1 1, .slice none 0 0] 57, .cells #[.slice none 0 0, .slice (some ⟨w.heap.size + 1, 0, none⟩) 1 1] 25, .cells #[.int .u64 300, .string ⟨#[]⟩, .slice none 0 0] 64, .cells #[.int .i64 1, .slice (some ⟨w.heap.size + 1 + 1 + 1, 0, none⟩) 1 1] 67] := ⟨_, rfl⟩
 have hb := allocs_bel [.cells #[.string ⟨#[97]⟩, .int .i64 1, .int .i64 1, .string ⟨#[]⟩, .bool false, .bool false, .string ⟨#[]⟩] 44, .cells #[.string ⟨#[77]⟩, .slice (some ⟨w.heap.size, 0, none⟩) 1 1, .slice none 0 0] 57, .cells #[.slice none 0 0, .slice (some ⟨w.heap.size + 1, 0, none⟩) 1 1] 25, .cells #[.int .u64 300, .string ⟨#[]⟩, .slice none 0 0] 64, .cells #[.int .i64 1, .slice (some ⟨w.heap.size + 1 + 1 + 1, 0, none⟩) 1 1] 67] w
 have hat := fun i cs t h => allocs_at [.cells #[.string ⟨#[97]⟩, .int .i64 1, .int .i64 1, .string ⟨#[]⟩, .bool false, .bool false, .string ⟨#[]⟩] 44, .cells #[.string ⟨#[77]⟩, .slice (some ⟨w.heap.size, 0, none⟩) 1 1, .slice none 0 0] 57, .cells #[.slice none 0 0, .slice (some ⟨w.heap.size + 1, 0, none⟩) 1 1] 25, .cells #[.int .u64 300, .string ⟨#[]⟩, .slice none 0 0] 64, .cells #[.int .i64 1, .slice (some ⟨w.heap.size + 1 + 1 + 1, 0, none⟩) 1 1] 67] w i cs t h
 rw [← hW] at hb hat
 have h0 := hat 0 _ _ rfl
 rw [Nat.add_zero] at h0
 have h1 := hat 1 _ _ rfl
 have h2 := hat 2 _ _ rfl
 rw [show w.heap.size + 2 = w.heap.size + 1 + 1 from rfl] at h2
 have h3 := hat 3 _ _ rfl
 rw [show w.heap.size + 3 = w.heap.size + 1 + 1 + 1 from rfl] at h3
 have h4 := hat 4 _ _ rfl
 rw [show w.heap.size + 4 = w.heap.size + 1 + 1 + 1 + 1 from rfl] at h4
 have hs := vdl_at _ _ h0 h1
 have t3 := vl_tree 300 _ _ h3 h4
 have HC := Lib.hid (ok.eput W [77] (ok.erolls env hb) vl_ok el_check hs t3 (vl_fit 300) (vl_bit 300 (by decide)) el_deep el_cost)
 rw [el_code, el_bytes, show strOf [77] = ⟨#[77]⟩ from rfl] at HC
 have r20 := obj_cell h2 0
 have r21 := obj_cell h2 1
 have HBW := Lib.hid hb
 simp only [allocs] at hW
 have HW := Lib.hid hW
 rw [hW] at r20 r21
 clear hat h0 h1 h2 h3 h4 hs t3 env hb hW ok
 go_enter Tryz.func10, Tryz.ntmps10
 go_wp2_with (first
  | (go_at_call 11; (with_reducible rw [← HW.out]); refine HC.out.mono ?_; rintro e w1 ⟨A, cap, rfl, hB, hb⟩; have HB := Lib.hid hB; have HB1 := Lib.hid hb; have HL := Lib.hid (Bs.lit w1 #[.int .u8 8, .int .u8 172, .int .u8 2] 5 [8, 172, 2] rfl (by decide)); clear hB hb HC)
  | (go_at_call 14; refine (ennum_any _ _).mono ?_; rintro e wn ⟨rfl, rfl⟩)
  | (go_at_call 13; refine (bytes_n _ _ _ _ _ _ [8, 172, 2] [8, 172, 2] _ rfl rfl (HB.out.below ((Below.refl _ w1).alloc (Nat.le_refl _) _) (Nat.le_refl _)) HL.out).mono ?_; rintro e w2 ⟨rfl, rfl⟩))
 go_ret
 exact ⟨rfl, vbel HBW.out (HB1.out.alloc HB1.out.size _)⟩
end Go.Proofs.YtloheacncefkgaaGreatDoor

/- Layer 21: every value's bytes, the law's walk. Conditions: EncOk's; those that each theorem names. -/
namespace Go.Proofs.YtloheacncefkgaaGreatDoor
open Go.RowKit
set_option linter.unusedVariables false
set_option maxRecDepth 100000
theorem small_cost {k : Nat} {x : Tr} (h : smallTr k x = true) : costN (k + 1) x ≤ 400 := by
 have h0 := of_decide_eq_true h
 have := cost_left (k + 1) x 400 40 h0
 omega
set_option maxHeartbeats 16000000 in
theorem encodeputs_walk {E : World → Prop} (ok : EncOk E) (w : World) (env : E w) {SS : Nat → Nat → Prop} {A A2 : Option Addr} {ne ca nm ca2 : Nat} {s : Sc} (h : ScAt SS w A ne ca A2 nm ca2 s) (hok : ScOk s) (t : List UInt8) (htl : t.length ≤ 140737488351232) {S : Nat → Prop} {n : Nat} {B : Option Addr} {na cb : Nat} {B2 : Option Addr} {nr cr : Nat} {x : Tr} (hx : TrAt S n w B na cb B2 nr cr x) (ho : OkT x) :
 Calls Tryz.prog 3 #[.agg #[.slice A ne ca, .slice A2 nm ca2], .string (strOf t), .agg #[.slice B na cb, .slice B2 nr cr]] w fun e w' => e = .returned (.bool true) ∧ Below w.heap.size w w' := by
 have HLV := Lib.hid (fun u (hb : Below w.heap.size w u) => enlive_any ok u (ok.erolls env hb))
 have HSM := Lib.hid (fun u (hb : Below w.heap.size w u) => rvsmall_any u (scAt_bel h hb) hok)
 have HCH := Lib.hid (fun u (hb : Below w.heap.size w u) => rvcheck_any u (scAt_bel h hb))
 have HST := Lib.hid (fun u (hb : Below w.heap.size w u) => rsmalltr_any u (trAt_bel hx hb) ho)
 have HBX := Lib.hid (bx2_start w #[.slice A ne ca, .slice A2 nm ca2] #[.slice B na cb, .slice B2 nr cr] 25 29)
 have HK : Hid (∀ u, Bx2 w u (.cells #[.slice A ne ca, .slice A2 nm ca2] 25 (0, 0)) (.cells #[.slice B na cb, .slice B2 nr cr] 29 (0, 0)) → u.cell? ⟨w.heap.size, 0, none⟩ = some (.slice A ne ca) ∧ u.cell? ⟨w.heap.size, 1, none⟩ = some (.slice A2 nm ca2) ∧ u.cell? ⟨w.heap.size + 1, 0, none⟩ = some (.slice B na cb) ∧ u.cell? ⟨w.heap.size + 1, 1, none⟩ = some (.slice B2 nr cr)) := Lib.hid (fun u hu => ⟨obj_cell hu.b2_one 0, obj_cell hu.b2_one 1, obj_cell hu.b2_two 0, obj_cell hu.b2_two 1⟩)
 obtain ⟨r0, r1, s0, s1⟩ := HK.out _ HBX.out
 cases hs : smallT s with
 | false =>
   rw [hs] at HSM
   clear ok env h hok hx ho hs HST HCH
   generalize strOf t = st at *
   go_enter Tryz.func3, Tryz.ntmps3
   go_wp2_with (first
    | (go_at_call 7; refine (HSM.out _ HBX.out.b2_bel).mono ?_; rintro e w9 ⟨rfl, hb⟩; replace HBX := Lib.hid (bx2_step HBX.out hb); obtain ⟨r0, r1, s0, s1⟩ := HK.out _ HBX.out; clear hb)
    | (go_at_call 10; refine (HLV.out _ HBX.out.b2_bel).mono ?_; rintro e w9 ⟨rfl, hb⟩; replace HBX := Lib.hid (bx2_step HBX.out hb); obtain ⟨r0, r1, s0, s1⟩ := HK.out _ HBX.out; clear hb))
   go_ret
   exact ⟨rfl, HBX.out.b2_bel⟩
 | true =>
   rw [hs] at HSM
   by_cases hc : checkT s = 0
   case neg =>
    obtain ⟨c, hcc⟩ : ∃ c, c = checkT s := ⟨_, rfl⟩
    rw [← hcc] at HCH hc
    have g1 : (c != 0) = true := bne_iff_ne.2 hc
    clear ok env h hok hx ho hs HST hcc
    generalize strOf t = st at *
    go_enter Tryz.func3, Tryz.ntmps3
    go_wp2_with (first
     | (go_at_call 7; refine (HSM.out _ HBX.out.b2_bel).mono ?_; rintro e w9 ⟨rfl, hb⟩; replace HBX := Lib.hid (bx2_step HBX.out hb); obtain ⟨r0, r1, s0, s1⟩ := HK.out _ HBX.out; clear hb)
     | (go_at_call 8; refine (HCH.out _ HBX.out.b2_bel).mono ?_; rintro e w9 ⟨rfl, hb⟩; replace HBX := Lib.hid (bx2_step HBX.out hb); obtain ⟨r0, r1, s0, s1⟩ := HK.out _ HBX.out; clear hb)
     | (go_at_call 10; refine (HLV.out _ HBX.out.b2_bel).mono ?_; rintro e w9 ⟨rfl, hb⟩; replace HBX := Lib.hid (bx2_step HBX.out hb); obtain ⟨r0, r1, s0, s1⟩ := HK.out _ HBX.out; clear hb))
    go_ret
    exact ⟨rfl, HBX.out.b2_bel⟩
   case pos =>
    rw [hc] at HCH
    cases hy : smallTr n x with
    | false =>
      rw [hy] at HST
      clear ok env h hok hx ho hs hy hc
      generalize strOf t = st at *
      go_enter Tryz.func3, Tryz.ntmps3
      go_wp2_with (first
       | (go_at_call 7; refine (HSM.out _ HBX.out.b2_bel).mono ?_; rintro e w9 ⟨rfl, hb⟩; replace HBX := Lib.hid (bx2_step HBX.out hb); obtain ⟨r0, r1, s0, s1⟩ := HK.out _ HBX.out; clear hb)
       | (go_at_call 8; refine (HCH.out _ HBX.out.b2_bel).mono ?_; rintro e w9 ⟨rfl, hb⟩; replace HBX := Lib.hid (bx2_step HBX.out hb); obtain ⟨r0, r1, s0, s1⟩ := HK.out _ HBX.out; clear hb)
       | (go_at_call 9; refine (HST.out _ HBX.out.b2_bel).mono ?_; rintro e w9 ⟨rfl, hb⟩; replace HBX := Lib.hid (bx2_step HBX.out hb); obtain ⟨r0, r1, s0, s1⟩ := HK.out _ HBX.out; clear hb)
       | (go_at_call 10; refine (HLV.out _ HBX.out.b2_bel).mono ?_; rintro e w9 ⟨rfl, hb⟩; replace HBX := Lib.hid (bx2_step HBX.out hb); obtain ⟨r0, r1, s0, s1⟩ := HK.out _ HBX.out; clear hb))
      go_ret
      exact ⟨rfl, HBX.out.b2_bel⟩
    | true =>
      rw [hy] at HST
      obtain ⟨hf, hd, _⟩ := small_fits hy
      have hcost := small_cost hy
      have HP := Lib.hid (fun u (hb : Below w.heap.size w u) => ok.eput u t (ok.erolls env hb) hok hc (scAt_bel h hb) (trAt_bel hx hb) hf (ho (n + 1)) (by omega) (by omega))
      have HR := Lib.hid (fun u (hb : Below w.heap.size w u) => ruput_any hc u (ok.eenv (ok.erolls env hb)) t (scAt_bel h hb) (trAt_bel hx hb) hf (ho (n + 1)) (by omega) (by omega))
      generalize putB s (n + 1) t x = pb at *
      generalize putC s (n + 1) t x = pc at *
      clear ok env h hok hx ho hs hy hf hd hcost hc
      generalize strOf t = st at *
      go_enter Tryz.func3, Tryz.ntmps3
      go_wp2_with (first
       | (go_at_call 7; refine (HSM.out _ HBX.out.b2_bel).mono ?_; rintro e w9 ⟨rfl, hb⟩; replace HBX := Lib.hid (bx2_step HBX.out hb); obtain ⟨r0, r1, s0, s1⟩ := HK.out _ HBX.out; clear hb)
       | (go_at_call 8; refine (HCH.out _ HBX.out.b2_bel).mono ?_; rintro e w9 ⟨rfl, hb⟩; replace HBX := Lib.hid (bx2_step HBX.out hb); obtain ⟨r0, r1, s0, s1⟩ := HK.out _ HBX.out; clear hb)
       | (go_at_call 9; refine (HST.out _ HBX.out.b2_bel).mono ?_; rintro e w9 ⟨rfl, hb⟩; replace HBX := Lib.hid (bx2_step HBX.out hb); obtain ⟨r0, r1, s0, s1⟩ := HK.out _ HBX.out; clear hb)
       | (go_at_call 11; refine (HP.out _ HBX.out.b2_bel).mono ?_; rintro e w3 ⟨P1, p2, rfl, hB, hb⟩; have HB1 := Lib.hid hB; replace HBX := Lib.hid (bx2_step HBX.out hb); obtain ⟨r0, r1, s0, s1⟩ := HK.out _ HBX.out; clear hb hB)
       | (go_at_call 12; refine (HR.out _ HBX.out.b2_bel).mono ?_; rintro e w4 ⟨P3, p4, rfl, hB, hb⟩; have HB2 := Lib.hid hB; replace HB1 := Lib.hid (HB1.out.below hb (Nat.le_refl _)); replace HBX := Lib.hid (bx2_step HBX.out hb); obtain ⟨r0, r1, s0, s1⟩ := HK.out _ HBX.out; clear hb hB)
       | (go_at_call 13; refine (bytes_n _ _ _ _ _ _ pb pb _ rfl rfl HB1.out HB2.out).mono ?_; rintro e w5 ⟨rfl, rfl⟩; rw [decide_eq_true (rfl : pb = pb)])
       | (go_at_call 14; refine (ennum_any _ _).mono ?_; rintro e wn ⟨rfl, rfl⟩)
       | (go_at_call 10; refine (HLV.out _ HBX.out.b2_bel).mono ?_; rintro e w9 ⟨rfl, hb⟩; replace HBX := Lib.hid (bx2_step HBX.out hb); obtain ⟨r0, r1, s0, s1⟩ := HK.out _ HBX.out; clear hb))
      go_ret
      exact ⟨rfl, HBX.out.b2_bel⟩
end Go.Proofs.YtloheacncefkgaaGreatDoor
