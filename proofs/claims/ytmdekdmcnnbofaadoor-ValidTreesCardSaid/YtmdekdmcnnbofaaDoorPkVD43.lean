/- Several texts in one: VdF, VdG. What each proves, and its conditions, stands at its own head. -/
import Derived.Test.YtmdekdmcnnbofaaDoorPkVD42
import Derived.Test.YtmdekdmcnnbofaaDoorPkVD36
import Derived.Test.YtmdekdmcnnbofaaDoorPkVD9
import Derived.Test.YtmdekdmcnnbofaaDoorPkVD8
/- The program's layer 20: the closures of Tree. Conditions: those that each theorem names. -/
namespace Go.Proofs.YtmdekdmcnnbofaaDoor
open Go.RowKit
set_option linter.unusedVariables false
set_option maxRecDepth 100000

set_option maxHeartbeats 4000000 in
theorem pvrest_any {T T2 : Nat → Prop} (w : World) {A1 A3 : Option Addr} {nf c1 nb c3 : Nat} {m : Ms} (sn : ByteArray) (hl : Lst 7 T fdR w A1 c1 m.fields) (hl2 : Lst 1 T2 inR w A3 c3 m.barred) (hnf : nf = m.fields.length) (hnb : nb = m.barred.length) (x : Rw) (pm : Nat) (hpm : w.heap[pm]? = some (.cells #[.string sn, .slice A1 nf c1, .slice A3 nb c3] 52 (0, 0))) :
    Calls Tryd.prog 22 #[rawV x, .pointer (some ⟨pm, 0, none⟩)] w fun e w' => e = .returned (.bool (restT m x)) ∧ Below w.heap.size w w' := by
  have HE : Hid (restT m x = (okR x && decide (numAtT m x.num < 0))) := Lib.hid rfl
  have hneg : decide (numAtT m x.num < 0) = !decide (0 ≤ numAtT m x.num) := by
    by_cases h : numAtT m x.num < 0
    · rw [decide_eq_true h, decide_eq_false (by omega)]; rfl
    · rw [decide_eq_false h, decide_eq_true (by omega)]; rfl
  rw [hneg] at HE
  have HR := Lib.hid (fun u => raw_right x u)
  have HN := Lib.hid (fun u (hb : Below w.heap.size w u) => pvknow_any u sn (lst_keep (S' := T) hl fdR_keep (fun _ h => h) (bel_keep hb)) (lst_keep (S' := T2) hl2 inR_keep (fun _ h => h) (bel_keep hb)) hnf hnb x.num)
  have HBX := Lib.hid (bx_start w (rawCells x).toArray 64)
  unfold rawV at HR
  unfold rawV
  unfold rawCells at HBX HR
  have HK : Hid (∀ u, Bx w u (.cells #[.int .i64 x.num, .int .i64 x.wire, .int .u64 (x.n : Int), .string (strOf x.s)] 64 (0, 0)) → (u.cell? ⟨pm, 0, none⟩ = some (.string sn) ∧ u.cell? ⟨pm, 1, none⟩ = some (.slice A1 nf c1) ∧ u.cell? ⟨pm, 2, none⟩ = some (.slice A3 nb c3)) ∧ (u.cell? ⟨w.heap.size, 0, none⟩ = some (.int .i64 x.num) ∧ u.cell? ⟨w.heap.size, 1, none⟩ = some (.int .i64 x.wire) ∧ u.cell? ⟨w.heap.size, 2, none⟩ = some (.int .u64 (x.n : Int)) ∧ u.cell? ⟨w.heap.size, 3, none⟩ = some (.string (strOf x.s)))) := Lib.hid (fun u hu => by
    have e1 := (hu.b_bel.block _ (lt_of_block hpm)).trans hpm
    exact ⟨⟨obj_cell e1 0, obj_cell e1 1, obj_cell e1 2⟩, obj_cell hu.b_blk 0, obj_cell hu.b_blk 1, obj_cell hu.b_blk 2, obj_cell hu.b_blk 3⟩)
  obtain ⟨⟨p0, p1, p2⟩, v0, v1, v2, v3⟩ := HK.out _ HBX.out
  generalize restT m x = ANS at *
  generalize okR x = ok at *
  generalize decide (0 ≤ numAtT m x.num) = kn at *
  clear hl hl2 hnf hnb hpm hneg
  generalize strOf x.s = ss at *
  generalize x.num = z0 at *
  generalize x.wire = z1 at *
  generalize (x.n : Int) = z2 at *
  cases ok with
  | false =>
    go_enter Tryd.func22, Tryd.ntmps22
    go_wp2_with (go_at_call 23; refine (HR.out _).mono ?_; rintro e w1 ⟨rfl, rfl⟩)
    go_ret
    refine ⟨?_, HBX.out.b_bel.alloc (HBX.out.b_bel.size) _⟩
    rw [HE.out]
    rfl
  | true =>
    go_enter Tryd.func22, Tryd.ntmps22
    go_wp2_with (first
      | (go_at_call 23; refine (HR.out _).mono ?_; rintro e w1 ⟨rfl, hw1⟩; replace HBX := Lib.hid (bx_step HBX.out (show Below _ _ w1 by rw [hw1]; exact (Below.refl _ _).alloc (Nat.le_refl _) _)); obtain ⟨⟨p0, p1, p2⟩, v0, v1, v2, v3⟩ := HK.out _ HBX.out; clear hw1)
      | (go_at_call 24; refine (HN.out _ HBX.out.b_bel).mono ?_; rintro e w2 ⟨rfl, hb⟩; replace HBX := Lib.hid (bx_step HBX.out hb); clear hb))
    go_ret
    refine ⟨?_, HBX.out.b_bel⟩
    rw [HE.out]
    cases kn <;> rfl

set_option maxHeartbeats 16000000 in
theorem pvslot_any {s : Sc} {n : Nat} {SS : Nat → Nat → Prop} {S T T2 : Nat → Prop} (H : ∀ k, n = k + 1 → PTree s k) (w0 : World) (env : VdEnv w0) {A A2 : Option Addr} {ne ca nm ca2 : Nat} (h : ScAt SS w0 A ne ca A2 nm ca2 s) {A1 A3 : Option Addr} {nf c1 nb c3 : Nat} {m : Ms} (hmo : MsOk m) (sn : ByteArray) (hl : Lst 7 T fdR w0 A1 c1 m.fields) (hl2 : Lst 1 T2 inR w0 A3 c3 m.barred) (hnf : nf = m.fields.length) (hnb : nb = m.barred.length)
    (w : World) (hb0 : Below w0.heap.size w0 w) (pm pa ps pk bm k : Nat) (done : List (List UInt8)) (hbm : w0.heap.size ≤ bm) (hne : pm ≠ bm ∧ pa ≠ bm ∧ ps ≠ bm ∧ pk ≠ bm)
    (hpm : w.heap[pm]? = some (.cells #[.string sn, .slice A1 nf c1, .slice A3 nb c3] 52 (0, 0))) (hpa : w.heap[pa]? = some (.cells #[.func (.func 37) #[] #[.pointer (some ⟨pk, 0, none⟩)]] 58 (0, 0))) (hps : w.heap[ps]? = some (.cells #[.slice A ne ca, .slice A2 nm ca2] 25 (0, 0))) (hpk : w.heap[pk]? = some (.cells #[.map (some bm)] 75 (0, 0)))
    (hmap : MapAt w bm k (cntF done)) (hk : k ≤ 10000) (hd : done.length ≤ 10000) (x : Slt) {B1 : Option Addr} {d1 : Nat} (hv : VsAt S n w B1 d1 x.svals) (hS : ∀ g, S g → g ≠ bm) (hf : FitS n x) (ho : BitS n x) :
    Calls Tryd.prog 19 #[.agg #[.int .i64 x.snum, .slice B1 x.svals.length d1], .pointer (some ⟨pm, 0, none⟩), .pointer (some ⟨pa, 0, none⟩), .pointer (some ⟨ps, 0, none⟩)] w fun e w' => e = .returned (.bool (slotT (treeN s n) m x && aloneB done (oneAt m x))) ∧ Touch (fun g => g = bm) w w' ∧ ((slotT (treeN s n) m x && aloneB done (oneAt m x)) = true → MapAt w' bm (k + 1) (cntF (done ++ [oneAt m x]))) := by
  obtain ⟨w1, hw1⟩ : ∃ w1, w1 = w.alloc (.cells #[.int .i64 x.snum, .slice B1 x.svals.length d1] 42) := ⟨_, rfl⟩
  have hx1 := bx_start w #[.int .i64 x.snum, .slice B1 x.svals.length d1] 42
  rw [← hw1] at hx1
  have hbmw : bm < w.heap.size := hmap.lt
  have HBL : Hid (∀ u, Touch (fun g => g = bm) w1 u → Below w0.heap.size w0 u) := Lib.hid (fun u hu => (hb0.trans (hx1.b_bel.mono hb0.size)).trans (hu.below (Nat.le_trans hb0.size hx1.b_bel.size) (fun k hk => by rw [hk]; exact hbm)))
  have HOB : Hid (∀ u, Touch (fun g => g = bm) w1 u → ∀ (p : Nat) o, p ≠ bm → w.heap[p]? = some o → u.heap[p]? = some o) := Lib.hid (fun u hu p o hp ho => (hu.block _ (Nat.lt_of_lt_of_le (lt_of_block ho) hx1.b_bel.size) hp).trans ((hx1.b_bel.block _ (lt_of_block ho)).trans ho))
  have HXB : Hid (∀ u, Touch (fun g => g = bm) w1 u → u.heap[w.heap.size]? = some (.cells #[.int .i64 x.snum, .slice B1 x.svals.length d1] 42 (0, 0))) := Lib.hid (fun u hu => (hu.block _ (lt_of_block hx1.b_blk) (by omega)).trans hx1.b_blk)
  have HNU := Lib.hid (fun u (hu : Touch (fun g => g = bm) w1 u) => fxnumber_any u sn (lst_keep (S' := T) hl fdR_keep (fun _ h => h) (bel_keep (HBL.out u hu))) (lst_keep (S' := T2) hl2 inR_keep (fun _ h => h) (bel_keep (HBL.out u hu))) hnf hnb x.snum)
  have hT0 := Touch.refl (fun g => g = bm) w1
  have HMP := Lib.hid (hmap.bel hx1.b_bel)
  have hT1 : Touch (fun g => g = bm) w w1 := Touch.of_below _ hx1.b_bel
  have q1 := hl.l_le
  have q2 := hl.l_max
  rw [← hnf] at q1
  unfold maxLen at q2
  have m0 := obj_cell (HOB.out _ hT0 pm _ hne.1 hpm) 0
  have m1 := obj_cell (HOB.out _ hT0 pm _ hne.1 hpm) 1
  have m2 := obj_cell (HOB.out _ hT0 pm _ hne.1 hpm) 2
  have x0 := obj_cell (HXB.out _ hT0) 0
  have HT := Lib.hid hT0
  have HT1 := Lib.hid hT1
  have HW1 := Lib.hid hw1
  rw [hw1] at m0 m1 m2 x0
  rcases fld_way m x.snum with ⟨hn1, hn2⟩ | ⟨i, f, hn1, hif, hn2⟩
  · have hsl : slotT (treeN s n) m x = false := by unfold slotT; rw [hn2]
    rw [hsl, Bool.false_and]
    rw [hn1] at HNU
    clear H env h hmo hl hl2 hnf hnb hb0 hbm hne hpm hpa hps hpk hmap hk hd hv hS hf ho hx1 hT0 hT1 hw1 hn1 hn2 hsl
    generalize x.svals.length = lv at *
    generalize x.snum = zn at *
    go_enter Tryd.func19, Tryd.ntmps19
    go_wp2_with (go_at_call 20; (with_reducible rw [← HW1.out]); refine (HNU.out _ HT.out).mono ?_; rintro e w2 ⟨rfl, hb⟩; replace HT := Lib.hid (HT.out.then_below hb); clear hb)
    go_quiet (fail)
    go_wp2
    go_ret
    exact ⟨rfl, touch_more HT1.out (HT.out.then_below (drewN_under _ nq)), fun h => by cases h⟩
  · have hif2 := (List.getElem?_eq_some_iff.mp hif).1
    have hfm := List.mem_of_getElem? hif
    have hsl : slotT (treeN s n) m x = slotF (treeN s n) f x := by unfold slotT; rw [hn2]
    have hon : oneAt m x = f.one := by unfold oneAt; rw [hn2]
    rw [hsl, hon]
    rw [hn1] at HNU
    obtain ⟨gf, of, rfl, _, hcf⟩ := fd_at hl hif
    have HAL := Lib.hid (fun u (hu : Touch (fun g => g = bm) w1 u) (hm : MapAt u bm k (cntF done)) => palone_any u pk bm k f done (HOB.out _ hu pk _ hne.2.2.2 hpk) hm hk hd (hmo.2.2.2.1 f hfm).2.2.2.2 hne.2.2.2)
    have HSL := Lib.hid (fun u (hu : Touch (fun g => g = bm) w1 u) => pvslotf_any H u (env.rolls (HBL.out u hu)) (scAt_bel h (HBL.out u hu)) f x (vsAt_keep (S' := S) hv (fun _ h => h) (stay_touch ((Touch.of_below (fun g => g = bm) hx1.b_bel).trans hu (fun _ h => .inl h)) hS)) hf ho)
    have HK : Hid (∀ u, Touch (fun g => g = bm) w1 u → u.cell? ⟨pa, 0, none⟩ = some (.func (.func 37) #[] #[.pointer (some ⟨pk, 0, none⟩)]) ∧ u.cell? ⟨pm, 1, none⟩ = some (.slice (some ⟨gf, of, none⟩) nf c1) ∧ (u.cell? ⟨gf, of + i * 7, none⟩ = some (.string (strOf f.name)) ∧ u.cell? ⟨gf, of + i * 7 + 1, none⟩ = some (.int .i64 f.num) ∧ u.cell? ⟨gf, of + i * 7 + 2, none⟩ = some (.int .i64 f.ty) ∧ u.cell? ⟨gf, of + i * 7 + 3, none⟩ = some (.string (strOf f.ref)) ∧ u.cell? ⟨gf, of + i * 7 + 4, none⟩ = some (.bool f.rep) ∧ u.cell? ⟨gf, of + i * 7 + 5, none⟩ = some (.bool f.loose) ∧ u.cell? ⟨gf, of + i * 7 + 6, none⟩ = some (.string (strOf f.one))) ∧ u.cell? ⟨ps, 0, none⟩ = some (.slice A ne ca) ∧ u.cell? ⟨ps, 1, none⟩ = some (.slice A2 nm ca2) ∧ u.cell? ⟨w.heap.size, 0, none⟩ = some (.int .i64 x.snum) ∧ u.cell? ⟨w.heap.size, 1, none⟩ = some (.slice B1 x.svals.length d1)) := Lib.hid (fun u hu => ⟨obj_cell (HOB.out _ hu pa _ hne.2.1 hpa) 0, obj_cell (HOB.out _ hu pm _ hne.1 hpm) 1, hcf u (HBL.out u hu), obj_cell (HOB.out _ hu ps _ hne.2.2.1 hps) 0, obj_cell (HOB.out _ hu ps _ hne.2.2.1 hps) 1, obj_cell (HXB.out _ hu) 0, obj_cell (HXB.out _ hu) 1⟩)
    have hi9 : i < nf := by omega
    unfold fdV at HAL HSL
    generalize slotF (treeN s n) f x = sl at *
    generalize aloneB done f.one = al at *
    generalize done ++ [f.one] = dn at *
    clear H env h hmo hl hl2 hnf hnb hb0 hbm hne hpm hpa hps hpk hmap hk hd hv hS hf ho hx1 hT0 hT1 hw1 hn1 hn2 hsl hon hif hif2 hfm hcf
    generalize x.svals.length = lv at *
    generalize x.snum = zn at *
    generalize strOf f.name = s0 at *
    generalize strOf f.ref = s3 at *
    generalize strOf f.one = s6 at *
    generalize f.num = z1 at *
    generalize f.ty = z2 at *
    generalize f.rep = b4 at *
    generalize f.loose = b5 at *
    have g2 : decide ((i : Int) ≥ 0) = true := decide_eq_true (by omega)
    have g3 : decide (0 ≤ (i : Int)) = true := decide_eq_true (by omega)
    have g4 : decide ((i : Int) < (nf : Int)) = true := decide_eq_true (by omega)
    cases al with
    | true =>
      go_enter Tryd.func19, Tryd.ntmps19
      go_wp2_with (go_at_call 20; (with_reducible rw [← HW1.out]); refine (HNU.out _ HT.out).mono ?_; rintro e w2 ⟨rfl, hb⟩; replace HT := Lib.hid (HT.out.then_below hb); replace HMP := Lib.hid (HMP.out.bel hb); clear hb)
      have HTY := HT
      replace HT := Lib.hid (HT.out.then_below (drewN_under _ 1))
      replace HMP := Lib.hid (HMP.out.bel (drewN_under _ 1))
      go_region_held3 (fun u => u.cell? ⟨pa, 0, none⟩ = some (.func (.func 37) #[] #[.pointer (some ⟨pk, 0, none⟩)]) ∧ u.cell? ⟨pm, 1, none⟩ = some (.slice (some ⟨gf, of, none⟩) nf c1) ∧ (u.cell? ⟨gf, of + i * 7, none⟩ = some (.string s0) ∧ u.cell? ⟨gf, of + i * 7 + 1, none⟩ = some (.int .i64 z1) ∧ u.cell? ⟨gf, of + i * 7 + 2, none⟩ = some (.int .i64 z2) ∧ u.cell? ⟨gf, of + i * 7 + 3, none⟩ = some (.string s3) ∧ u.cell? ⟨gf, of + i * 7 + 4, none⟩ = some (.bool b4) ∧ u.cell? ⟨gf, of + i * 7 + 5, none⟩ = some (.bool b5) ∧ u.cell? ⟨gf, of + i * 7 + 6, none⟩ = some (.string s6)) ∧ u.cell? ⟨ps, 0, none⟩ = some (.slice A ne ca) ∧ u.cell? ⟨ps, 1, none⟩ = some (.slice A2 nm ca2) ∧ u.cell? ⟨w.heap.size, 0, none⟩ = some (.int .i64 zn) ∧ u.cell? ⟨w.heap.size, 1, none⟩ = some (.slice B1 lv d1))
        (first | exact HK.out _ HT.out | exact HK.out _ HTY.out)
        (first
          | (go_at_call 37; refine (HAL.out _ HT.out HMP.out).mono ?_; rintro e w3 ⟨rfl, hb, hm⟩; have HM3 := Lib.hid hm; replace HT := Lib.hid (touch_more HT.out hb); clear hb hm)
          | (go_at_call 21; refine (HSL.out _ HT.out).mono ?_; rintro e w4 ⟨rfl, hb⟩; replace HM3 := Lib.hid (HM3.out.bel hb); replace HT := Lib.hid (HT.out.then_below hb); clear hb))
      go_wp2
      go_ret
      refine ⟨?_, touch_more HT1.out HT.out, fun _ => HM3.out⟩
      cases sl <;> rfl
    | false =>
      go_enter Tryd.func19, Tryd.ntmps19
      go_wp2_with (go_at_call 20; (with_reducible rw [← HW1.out]); refine (HNU.out _ HT.out).mono ?_; rintro e w2 ⟨rfl, hb⟩; replace HT := Lib.hid (HT.out.then_below hb); replace HMP := Lib.hid (HMP.out.bel hb); clear hb)
      replace HT := Lib.hid (HT.out.then_below (drewN_under _ 1))
      replace HMP := Lib.hid (HMP.out.bel (drewN_under _ 1))
      refine wp_region_noPanic ?_
      refine wp_region_held_drew (S := fun u => u.cell? ⟨pa, 0, none⟩ = some (.func (.func 37) #[] #[.pointer (some ⟨pk, 0, none⟩)]) ∧ u.cell? ⟨pm, 1, none⟩ = some (.slice (some ⟨gf, of, none⟩) nf c1) ∧ (u.cell? ⟨gf, of + i * 7, none⟩ = some (.string s0) ∧ u.cell? ⟨gf, of + i * 7 + 1, none⟩ = some (.int .i64 z1) ∧ u.cell? ⟨gf, of + i * 7 + 2, none⟩ = some (.int .i64 z2) ∧ u.cell? ⟨gf, of + i * 7 + 3, none⟩ = some (.string s3) ∧ u.cell? ⟨gf, of + i * 7 + 4, none⟩ = some (.bool b4) ∧ u.cell? ⟨gf, of + i * 7 + 5, none⟩ = some (.bool b5) ∧ u.cell? ⟨gf, of + i * 7 + 6, none⟩ = some (.string s6)) ∧ u.cell? ⟨ps, 0, none⟩ = some (.slice A ne ca) ∧ u.cell? ⟨ps, 1, none⟩ = some (.slice A2 nm ca2) ∧ u.cell? ⟨w.heap.size, 0, none⟩ = some (.int .i64 zn) ∧ u.cell? ⟨w.heap.size, 1, none⟩ = some (.slice B1 lv d1)) (by kernel_rfl) (HK.out _ HT.out) (fun hHeld => ?_)
      refine take_at (i := 0) (v := ?_) rfl (by kernel_rfl) (by kernel_rfl) (by kernel_rfl) (fun _ _ _ h => h) (Or.inl ⟨by rfl, ?_⟩) hHeld ?_
      case refine_2 => (intro w hSw; (try dsimp only at hSw); go_simp <;> with_reducible rfl)
      try simp only [Act.put, List.setIfInBounds_toArray, List.set_cons_zero, List.set_cons_succ]
      refine take_at (i := 1) (v := ?_) rfl (by kernel_rfl) (by kernel_rfl) (by kernel_rfl) (fun _ _ _ h => h) (Or.inl ⟨by rfl, ?_⟩) hHeld ?_
      case refine_2 => (intro w hSw; (try dsimp only at hSw); go_simp <;> with_reducible rfl)
      try simp only [Act.put, List.setIfInBounds_toArray, List.set_cons_zero, List.set_cons_succ]
      refine take_at (i := 2) (v := ?_) rfl (by kernel_rfl) (by kernel_rfl) (by kernel_rfl) (fun _ _ _ h => h) (Or.inl ⟨by rfl, ?_⟩) hHeld ?_
      case refine_2 => (intro w hSw; (try dsimp only at hSw); go_simp <;> with_reducible rfl)
      try simp only [Act.put, List.setIfInBounds_toArray, List.set_cons_zero, List.set_cons_succ]
      refine take_at (i := 3) (v := ?_) rfl (by kernel_rfl) (by kernel_rfl) (by kernel_rfl) (fun _ _ _ h => h) (Or.inl ⟨by rfl, ?_⟩) hHeld ?_
      case refine_2 => (intro w hSw; (try dsimp only at hSw); go_simp <;> with_reducible rfl)
      try simp only [Act.put, List.setIfInBounds_toArray, List.set_cons_zero, List.set_cons_succ]
      refine take_at (i := 4) (v := ?_) rfl (by kernel_rfl) (by kernel_rfl) (by kernel_rfl) (fun _ _ _ h => h) (Or.inl ⟨by rfl, ?_⟩) hHeld ?_
      case refine_2 => (intro w hSw; (try dsimp only at hSw); go_simp <;> with_reducible rfl)
      try simp only [Act.put, List.setIfInBounds_toArray, List.set_cons_zero, List.set_cons_succ]
      refine take_at (i := 5) (v := ?_) rfl (by kernel_rfl) (by kernel_rfl) (by kernel_rfl) (fun _ _ _ h => h) (Or.inl ⟨by rfl, ?_⟩) hHeld ?_
      case refine_2 => (intro w hSw; (try dsimp only at hSw); go_simp <;> with_reducible rfl)
      try simp only [Act.put, List.setIfInBounds_toArray, List.set_cons_zero, List.set_cons_succ]
      refine take_at (i := 6) (v := ?_) rfl (by kernel_rfl) (by kernel_rfl) (by kernel_rfl) (fun _ _ _ h => h) (Or.inl ⟨by rfl, ?_⟩) hHeld ?_
      case refine_2 => (intro w hSw; (try dsimp only at hSw); go_simp <;> with_reducible rfl)
      try simp only [Act.put, List.setIfInBounds_toArray, List.set_cons_zero, List.set_cons_succ]
      refine take_at (i := 7) (v := ?_) rfl (by kernel_rfl) (by kernel_rfl) (by kernel_rfl) (fun _ _ _ h => h) (Or.inl ⟨by rfl, ?_⟩) hHeld ?_
      case refine_2 => (intro w hSw; (try dsimp only at hSw); go_simp <;> with_reducible rfl)
      try simp only [Act.put, List.setIfInBounds_toArray, List.set_cons_zero, List.set_cons_succ]
      refine take_at (i := 8) (v := ?_) rfl (by kernel_rfl) (by kernel_rfl) (by kernel_rfl) (fun _ _ _ h => h) (Or.inl ⟨by rfl, ?_⟩) hHeld ?_
      case refine_2 => (intro w hSw; (try dsimp only at hSw); go_simp <;> with_reducible rfl)
      try simp only [Act.put, List.setIfInBounds_toArray, List.set_cons_zero, List.set_cons_succ]
      refine wpAnyH_ready (rs := [9]) (by kernel_rfl) (by simp) ?_
      refine ready_at (i := 9) rfl (fun K hK => ?_)
      go_simp
      go_at_call 37; refine (HAL.out _ HT.out HMP.out).mono ?_; rintro e w3 ⟨rfl, hb, hm⟩; have HM3 := Lib.hid hm; replace HT := Lib.hid (touch_more HT.out hb); clear hb hm
      clear hHeld
      refine hK.out _ _ (HK.out _ HT.out) (fun hHeld => ?_)
      clear hK K
      try simp only [Act.put, List.setIfInBounds_toArray, List.set_cons_zero, List.set_cons_succ]
      refine take_at (i := 10) (v := ?_) rfl (by kernel_rfl) (by kernel_rfl) (by kernel_rfl) (fun _ _ _ h => h) (Or.inl ⟨by rfl, ?_⟩) hHeld ?_
      case refine_2 => (intro w hSw; (try dsimp only at hSw); go_simp <;> with_reducible rfl)
      try simp only [Act.put, List.setIfInBounds_toArray, List.set_cons_zero, List.set_cons_succ]
      refine take_at (i := 11) (v := ?_) rfl (by kernel_rfl) (by kernel_rfl) (by kernel_rfl) (fun _ _ _ h => h) (Or.inl ⟨by rfl, ?_⟩) hHeld ?_
      case refine_2 => (intro w hSw; (try dsimp only at hSw); go_simp <;> with_reducible rfl)
      try simp only [Act.put, List.setIfInBounds_toArray, List.set_cons_zero, List.set_cons_succ]
      refine take_at (i := 12) (v := undef) rfl (by kernel_rfl) (by kernel_rfl) (by kernel_rfl) (fun _ _ _ h => h) (Or.inr ⟨by rfl, rfl⟩) hHeld ?_
      try simp only [Act.put, List.setIfInBounds_toArray, List.set_cons_zero, List.set_cons_succ]
      refine take_at (i := 13) (v := undef) rfl (by kernel_rfl) (by kernel_rfl) (by kernel_rfl) (fun _ _ _ h => h) (Or.inr ⟨by rfl, rfl⟩) hHeld ?_
      try simp only [Act.put, List.setIfInBounds_toArray, List.set_cons_zero, List.set_cons_succ]
      refine take_at (i := 14) (v := undef) rfl (by kernel_rfl) (by kernel_rfl) (by kernel_rfl) (fun _ _ _ h => h) (Or.inr ⟨by rfl, rfl⟩) hHeld ?_
      try simp only [Act.put, List.setIfInBounds_toArray, List.set_cons_zero, List.set_cons_succ]
      refine take_at (i := 15) (v := undef) rfl (by kernel_rfl) (by kernel_rfl) (by kernel_rfl) (fun _ _ _ h => h) (Or.inr ⟨by rfl, rfl⟩) hHeld ?_
      try simp only [Act.put, List.setIfInBounds_toArray, List.set_cons_zero, List.set_cons_succ]
      refine take_at (i := 16) (v := undef) rfl (by kernel_rfl) (by kernel_rfl) (by kernel_rfl) (fun _ _ _ h => h) (Or.inr ⟨by rfl, rfl⟩) hHeld ?_
      try simp only [Act.put, List.setIfInBounds_toArray, List.set_cons_zero, List.set_cons_succ]
      refine take_at (i := 17) (v := undef) rfl (by kernel_rfl) (by kernel_rfl) (by kernel_rfl) (fun _ _ _ h => h) (Or.inr ⟨by rfl, rfl⟩) hHeld ?_
      try simp only [Act.put, List.setIfInBounds_toArray, List.set_cons_zero, List.set_cons_succ]
      refine take_at (i := 18) (v := undef) rfl (by kernel_rfl) (by kernel_rfl) (by kernel_rfl) (fun _ _ _ h => h) (Or.inr ⟨by rfl, rfl⟩) hHeld ?_
      try simp only [Act.put, List.setIfInBounds_toArray, List.set_cons_zero, List.set_cons_succ]
      refine take_at (i := 19) (v := undef) rfl (by kernel_rfl) (by kernel_rfl) (by kernel_rfl) (fun _ _ _ h => h) (Or.inr ⟨by rfl, rfl⟩) hHeld ?_
      try simp only [Act.put, List.setIfInBounds_toArray, List.set_cons_zero, List.set_cons_succ]
      refine take_at (i := 20) (v := ?_) rfl (by kernel_rfl) (by kernel_rfl) (by kernel_rfl) (fun _ _ _ h => h) (Or.inl ⟨by rfl, ?_⟩) hHeld ?_
      case refine_2 => (intro w hSw; (try dsimp only at hSw); go_simp <;> with_reducible rfl)
      try simp only [Act.put, List.setIfInBounds_toArray, List.set_cons_zero, List.set_cons_succ]
      refine take_at (i := 21) (v := ?_) rfl (by kernel_rfl) (by kernel_rfl) (by kernel_rfl) (fun _ _ _ h => h) (Or.inl ⟨by rfl, ?_⟩) hHeld ?_
      case refine_2 => (intro w hSw; (try dsimp only at hSw); go_simp <;> with_reducible rfl)
      try simp only [Act.put, List.setIfInBounds_toArray, List.set_cons_zero, List.set_cons_succ]
      refine wpAnyH_done (by kernel_rfl) ?_ _
      refine NoPanic.normal ?_
      clear hHeld
      go_wp2
      go_ret
      refine ⟨?_, touch_more HT1.out HT.out, fun hx => ?_⟩
      · cases sl <;> rfl
      · cases sl <;> cases hx
end Go.Proofs.YtmdekdmcnnbofaaDoor

/- The program's layer 20: which trees are a message's values; Knows. Conditions: those that each theorem names. -/
namespace Go.Proofs.YtmdekdmcnnbofaaDoor
open Go.RowKit
set_option linter.unusedVariables false
set_option maxRecDepth 100000

/-- The boxes of a call of Tree. -/
structure VdW (w : World) (pm pa pk bm : Nat) (M SCH TRE : Array Value) (u : World) : Prop where
  v_bel : Below w.heap.size w u
  v_s : u.heap[w.heap.size]? = some (.cells SCH 25 (0, 0))
  v_x : u.heap[w.heap.size + 1]? = some (.cells TRE 29 (0, 0))
  v_m : u.heap[pm]? = some (.cells M 52 (0, 0))
  v_a : u.heap[pa]? = some (.cells #[.func (.func 37) #[] #[.pointer (some ⟨pk, 0, none⟩)]] 58 (0, 0))
  v_k : u.heap[pk]? = some (.cells #[.map (some bm)] 75 (0, 0))
  v_map : MapAt u bm 0 (cntF [])
  v_ne : w.heap.size ≤ bm ∧ pm ≠ bm ∧ pa ≠ bm ∧ w.heap.size ≠ bm ∧ pk ≠ bm ∧ w.heap.size + 1 ≠ bm
section
variable {w u u' : World} {pm pa pk bm : Nat} {M SCH TRE : Array Value}
theorem VdW.more (h : VdW w pm pa pk bm M SCH TRE u) (hb : Below u.heap.size u u') : VdW w pm pa pk bm M SCH TRE u' :=
  ⟨vbel h.v_bel hb, (hb.block _ (lt_of_block h.v_s)).trans h.v_s, (hb.block _ (lt_of_block h.v_x)).trans h.v_x, (hb.block _ (lt_of_block h.v_m)).trans h.v_m, (hb.block _ (lt_of_block h.v_a)).trans h.v_a, (hb.block _ (lt_of_block h.v_k)).trans h.v_k, h.v_map.bel hb, h.v_ne⟩
theorem VdW.touched (h : VdW w pm pa pk bm M SCH TRE u) (ht : Touch (fun g => g = bm) u u') : Below w.heap.size w u' ∧ u'.heap[w.heap.size + 1]? = some (.cells TRE 29 (0, 0)) ∧ u'.heap[pm]? = some (.cells M 52 (0, 0)) :=
  ⟨h.v_bel.trans (ht.below h.v_bel.size (fun k hk => by rw [hk]; exact h.v_ne.1)), (ht.block _ (lt_of_block h.v_x) h.v_ne.2.2.2.2.2).trans h.v_x, (ht.block _ (lt_of_block h.v_m) h.v_ne.2.1).trans h.v_m⟩
end
def gS (V : List UInt8 → Tr → Bool) (m : Ms) (l : List Slt) (i : Nat) : Bool := ((l[i]?).map fun x => okS V m l x i).getD true
theorem gS_some {V : List UInt8 → Tr → Bool} {m : Ms} {l : List Slt} {i : Nat} {x : Slt} (h : l[i]? = some x) : gS V m l i = okS V m l x i := by unfold gS; rw [h]; rfl
theorem gS_no {V : List UInt8 → Tr → Bool} {m : Ms} {l : List Slt} {i : Nat} (hi : i < l.length) (h : gS V m l i = false) : decide (AllS V m l) = false := by
  rw [gS_some (List.getElem?_eq_getElem hi)] at h
  refine decide_eq_false (fun ha => ?_)
  have := ha i _ (List.getElem?_eq_getElem hi)
  rw [h] at this
  cases this
theorem gS_yes {V : List UInt8 → Tr → Bool} {m : Ms} {l : List Slt} (h : ∀ i, i < l.length → gS V m l i = true) : decide (AllS V m l) = true := by
  refine decide_eq_true (fun i x hx => ?_)
  have := h i (List.getElem?_eq_some_iff.mp hx).1
  rw [gS_some hx] at this
  exact this
theorem palones_at (u : World) (q : Nat) (hq : u.heap.size = q) :
    Calls Tryd.prog 18 #[] u fun e w' => e = .returned (.func (.func 37) #[] #[.pointer (some ⟨q + 1, 0, none⟩)]) ∧ w'.heap[q + 1]? = some (.cells #[.map (some q)] 75 (0, 0)) ∧ MapAt w' q 0 (cntF []) ∧ Below u.heap.size u w' := by
  subst hq
  exact palones_any u
theorem two_boxes (w : World) (o1 o2 : Obj) : Below w.heap.size w ((w.alloc o1).alloc o2) ∧ ((w.alloc o1).alloc o2).heap.size = w.heap.size + 1 + 1 := ⟨((Below.refl _ w).alloc (Nat.le_refl _) _).alloc (by simp) _, by simp⟩

/-- All slots. -/
theorem pvslots_any {s : Sc} {n : Nat} {SS : Nat → Nat → Prop} {S : Nat → Prop} (H : ∀ k, n = k + 1 → PTree s k) (w : World) (env : VdEnv w) {A A2 : Option Addr} {ne ca nm ca2 : Nat} (h : ScAt SS w A ne ca A2 nm ca2 s) {A1 A3 : Option Addr} {nf c1 nb c3 : Nat} {m : Ms} (hmo : MsOk m) (sn : ByteArray) (hl : Lst 7 (SS 1) fdR w A1 c1 m.fields) (hl2 : Lst 1 (SS 2) inR w A3 c3 m.barred) (hnf : nf = m.fields.length) (hnb : nb = m.barred.length)
    {B : Option Addr} {na cb : Nat} {l : List Slt} (hs : Lst 2 S (slR (trR S n) S) w B cb l) (hna : na = l.length) (hS : ∀ g, S g → g < w.heap.size) (h1000 : na ≤ 1000) (hf : ∀ x ∈ l, FitS n x) (ho : ∀ x ∈ l, BitS n x) {TRE : Array Value} (pm pa pk bm : Nat) (u : World) (hu : VdW w pm pa pk bm #[.string sn, .slice A1 nf c1, .slice A3 nb c3] #[.slice A ne ca, .slice A2 nm ca2] TRE u) :
    Calls Tryd.prog 26 #[.slice B na cb, .func (.func 19) #[] #[.pointer (some ⟨pm, 0, none⟩), .pointer (some ⟨pa, 0, none⟩), .pointer (some ⟨w.heap.size, 0, none⟩)]] u fun e w' => e = .returned (.bool (decide (AllS (treeN s n) m l))) ∧ Touch (fun g => g = bm) u w' := by
  have hne := hu.v_ne
  refine vall_sl u (lst_keep hs (slR_keep (trR_keep (fun _ h => h) (stay_bel hu.v_bel) n) (fun _ h => h) (stay_bel hu.v_bel)) (fun _ h => h) (stay_bel hu.v_bel)) hna 19 _ (fun _ _ => rfl) (fun g => g = bm) (fun g hg e => by have := hS g hg; omega) (fun g hg => by rw [hg]; exact hu.v_map.lt)
    (fun i W => MapAt W bm i (cntF ((l.take i).map (oneAt m)))) (fun i W W' hm hb => hm.bel hb) hu.v_map (gS (treeN s n) m l) _ (fun i hi hg => gS_no (by omega) hg) (fun hg => gS_yes (fun i hi => hg i (by omega))) ?_
  intro i x hx hall wr B1 d1 ht hj hv
  have hi := (List.getElem?_eq_some_iff.mp hx).1
  have hm := List.mem_of_getElem? hx
  have hbl : Below w.heap.size w wr := hu.v_bel.trans (ht.below hu.v_bel.size (fun k hk => by rw [hk]; exact hne.1))
  rw [gS_some hx]
  have hlen : ((l.take i).map (oneAt m)).length ≤ 10000 := by rw [List.length_map, List.length_take]; omega
  refine (pvslot_any H w env h hmo sn hl hl2 hnf hnb wr hbl pm pa w.heap.size pk bm i ((l.take i).map (oneAt m)) hne.1 ⟨hne.2.1, hne.2.2.1, hne.2.2.2.1, hne.2.2.2.2.1⟩
    ((ht.block _ (lt_of_block hu.v_m) hne.2.1).trans hu.v_m) ((ht.block _ (lt_of_block hu.v_a) hne.2.2.1).trans hu.v_a) ((ht.block _ (lt_of_block hu.v_s) hne.2.2.2.1).trans hu.v_s) ((ht.block _ (lt_of_block hu.v_k) hne.2.2.2.2.1).trans hu.v_k) hj (by omega) hlen x hv (fun g hg e => by have := hS g hg; omega) (hf x hm) (ho x hm)).mono ?_
  rintro e w' ⟨he, ht2, hj2⟩
  refine ⟨he, ht2, fun hg => ?_⟩
  have := hj2 hg
  rw [take_snoc' hx, List.map_append]
  exact this
theorem pvrests_any {S T T2 : Nat → Prop} {m : Ms} (w : World) {A1 A3 : Option Addr} {nf c1 nb c3 : Nat} (sn : ByteArray) (hl : Lst 7 T fdR w A1 c1 m.fields) (hl2 : Lst 1 T2 inR w A3 c3 m.barred) (hnf : nf = m.fields.length) (hnb : nb = m.barred.length) {B2 : Option Addr} {nr cr : Nat} {l : List Rw} (hr : Lst 4 S rwR w B2 cr l) (hnr : nr = l.length) (pm : Nat) (u : World) (hb : Below w.heap.size w u) (hpm : u.heap[pm]? = some (.cells #[.string sn, .slice A1 nf c1, .slice A3 nb c3] 52 (0, 0))) :
    Calls Tryd.prog 27 #[.slice B2 nr cr, .func (.func 22) #[] #[.pointer (some ⟨pm, 0, none⟩)]] u fun e w' => e = .returned (.bool (l.all (restT m))) ∧ Below u.heap.size u w' := by
  refine (vall_rw u (lst_keep (w' := u) hr (fun _ _ h => h) (fun _ h => h) (stay_bel hb)) hnr 22 _ (fun _ _ => rfl) (fun _ => False) (fun _ _ h => h) (fun _ h => h.elim) (fun _ _ => True) (fun _ _ _ _ _ => trivial) trivial (gAt (restT m) l) _ (fun i hi hg => gAt_no (by omega) hg) (fun hg => gAt_yes (fun i hi => hg i (by omega))) ?_).mono (fun e w' h => ⟨h.1, touch_pure h.2⟩)
  intro i x hx _ wr ht _
  have hq := touch_pure ht
  rw [gAt_some hx]
  refine (pvrest_any wr sn (lst_keep (S' := T) hl fdR_keep (fun _ h => h) (bel_keep (vbel hb hq))) (lst_keep (S' := T2) hl2 inR_keep (fun _ h => h) (bel_keep (vbel hb hq))) hnf hnb x pm ((hq.block _ (lt_of_block hpm)).trans hpm)).mono ?_
  rintro e w' ⟨he, hb⟩
  exact ⟨he, pure_touch hb, fun _ => trivial⟩

/-- The world behind alones, in which its box is made. -/
theorem vdw_made {w w1 w2 w4 : World} {M SCH TRE : Array Value} (hx : Bx2 w w1 (.cells SCH 25 (0, 0)) (.cells TRE 29 (0, 0))) (hz : w1.heap.size = w.heap.size + 1 + 1) (h2 : Bx2 w w2 (.cells SCH 25 (0, 0)) (.cells TRE 29 (0, 0))) (hk : w4.heap[w2.heap.size + 1 + 1]? = some (.cells #[.map (some (w2.heap.size + 1))] 75 (0, 0))) (hm : MapAt w4 (w2.heap.size + 1) 0 (cntF []))
    (hb : Below (w2.alloc (.cells M 52)).heap.size (w2.alloc (.cells M 52)) w4) : VdW w w2.heap.size w4.heap.size (w2.heap.size + 1 + 1) (w2.heap.size + 1) M SCH TRE (w4.alloc (.cells #[.func (.func 37) #[] #[.pointer (some ⟨w2.heap.size + 1 + 1, 0, none⟩)]] 58)) := by
  have h3 := bx2_step h2 ((Below.refl _ w2).alloc (Nat.le_refl _) (.cells M 52))
  have h4 := bx2_step h3 hb
  have hm3 := heap_alloc_new w2 (.cells M 52)
  have hm4 := (hb.block _ (lt_of_block hm3)).trans hm3
  have l1 := lt_of_block h2.b2_two
  have l2 := lt_of_block hk
  have hb5 : Below w4.heap.size w4 (w4.alloc (.cells #[.func (.func 37) #[] #[.pointer (some ⟨w2.heap.size + 1 + 1, 0, none⟩)]] 58)) := (Below.refl _ _).alloc (Nat.le_refl _) _
  have h5 := bx2_step h4 hb5
  exact ⟨h5.b2_bel, h5.b2_one, h5.b2_two, (hb5.block _ (lt_of_block hm4)).trans hm4, heap_alloc_new _ _, (hb5.block _ (lt_of_block hk)).trans hk, hm.bel hb5, by omega, by omega, by omega, by omega, by omega, by omega⟩

set_option maxHeartbeats 16000000 in
theorem pvtree_step {s : Sc} (hok : ScOk s) {n : Nat} (H : ∀ k, n = k + 1 → PTree s k) : PTree s n := by
  intro SS S0 w A ne ca A2 nm ca2 name B na cb B2 nr cr x env h hx hf ho
  have hx := trAt_lt hx
  obtain ⟨S, hS⟩ : ∃ S : Nat → Prop, S = fun g => S0 g ∧ g < w.heap.size := ⟨_, rfl⟩
  rw [← hS] at hx
  obtain ⟨w1, hw1⟩ : ∃ w1, w1 = (w.alloc (.cells #[.slice A ne ca, .slice A2 nm ca2] 25)).alloc (.cells #[.slice B na cb, .slice B2 nr cr] 29) := ⟨_, rfl⟩
  obtain ⟨hb1, hz1⟩ := two_boxes w (.cells #[.slice A ne ca, .slice A2 nm ca2] 25) (.cells #[.slice B na cb, .slice B2 nr cr] 29)
  have h2 := bx2_start w #[.slice A ne ca, .slice A2 nm ca2] #[.slice B na cb, .slice B2 nr cr] 25 29
  rw [← hw1] at hb1 hz1 h2
  have s0 := obj_cell h2.b2_one 0
  have s1 := obj_cell h2.b2_one 1
  rw [hw1] at s0 s1
  have HW1 := Lib.hid hw1
  have HBX := Lib.hid h2
  have HZ1 := Lib.hid hz1
  have HALN := Lib.hid (fun u q hq => palones_at u q hq)
  obtain ⟨q1, q2, q3, q4⟩ := trAt_max hx
  rcases msg_way s name with ⟨hn1, hn2⟩ | ⟨i, m, hn1, him, hn2⟩
  · rw [treeN_none hn2]
    have HM := Lib.hid (pvmsg_none w1 (scAt_bel h hb1) name hn1)
    unfold zMsg at HM
    clear H env h hx hf ho hS hw1 hb1 hz1 h2 hn1 hn2 hok
    generalize strOf name = sm at *
    go_enter Tryd.func9, Tryd.ntmps9
    go_wp2_with (first
      | (go_at_call 17; (with_reducible rw [← HW1.out]); refine HM.out.mono ?_; rintro e w2 ⟨rfl, hb⟩; have HB2 := Lib.hid (bx2_step HBX.out hb); clear hb)
      | (go_at_call 18; refine (HALN.out _ _ rfl).mono ?_; rintro e w4 ⟨rfl, _, _, hb⟩; have HB4 := Lib.hid (bx2_step (bx2_step HB2.out ((Below.refl _ _).alloc (Nat.le_refl _) _)) hb); clear hb))
    go_ret
    exact ⟨rfl, HB4.out.b2_bel.alloc HB4.out.b2_bel.size _⟩
  · rw [treeN_some hn2]
    have hmm := List.mem_of_getElem? him
    have hmo := hok.2.2.2 m hmm
    have hi2 := (List.getElem?_eq_some_iff.mp him).1
    obtain ⟨ge, oe, A1, c1, A3, c3, rfl, _, hc, hl, hl2⟩ := ms_at h.s_m him
    have HM := Lib.hid (pvmsg_some w1 (scAt_bel h hb1) name hn1 (by have := h.s_nm; omega) (fun wr hb => hc wr (hb1.trans (hb.mono hb1.size))))
    have HRI := Lib.hid (fun u (hb : Below w.heap.size w u) => pvrise_any (S := S) (m := n) u (lst_keep hx.t_s (slR_keep (trR_keep (fun _ h => h) (stay_bel hb) n) (fun _ h => h) (stay_bel hb)) (fun _ h => h) (stay_bel hb)) hx.t_ns)
    have HSL := Lib.hid (fun pm pa pk bm u hu => pvslots_any (TRE := #[.slice B na cb, .slice B2 nr cr]) H w env h hmo (strOf m.name) hl hl2 rfl rfl hx.t_s hx.t_ns (fun g hg => by rw [hS] at hg; exact hg.2) (by have := hf.1; have := hx.t_ns; omega) (fun y hy => fit_slots hf hy) (fun y hy => bit_slots ho hy) pm pa pk bm u hu)
    have HRS := Lib.hid (fun pm u hb hpm => pvrests_any w (strOf m.name) hl hl2 rfl rfl hx.t_r hx.t_nr pm u hb hpm)
    obtain ⟨r, hr⟩ : ∃ r, r = risesB (x.slots.map (·.snum)) := ⟨_, rfl⟩
    obtain ⟨al, hal⟩ : ∃ al, al = decide (AllS (treeN s n) m x.slots) := ⟨_, rfl⟩
    obtain ⟨rs, hrs⟩ : ∃ rs, rs = x.rest.all (restT m) := ⟨_, rfl⟩
    rw [← hr] at HRI ⊢
    rw [← hal] at HSL ⊢
    rw [← hrs] at HRS ⊢
    clear H env h hx hf ho hS hw1 hb1 hz1 h2 hn1 hn2 hok hmm hmo hi2 hc hl hl2 hr hal hrs him
    generalize strOf name = sm at *
    generalize strOf m.name = sn at *
    generalize m.fields.length = nf at *
    generalize m.barred.length = nb at *
    cases r with
    | false =>
      clear HSL HRS
      go_enter Tryd.func9, Tryd.ntmps9
      go_wp2_with (first
        | (go_at_call 17; (with_reducible rw [← HW1.out]); refine HM.out.mono ?_; rintro e w2 ⟨rfl, hb⟩; have HB2 := Lib.hid (bx2_step HBX.out hb); clear hb)
        | (go_at_call 18; refine (HALN.out _ (w2.heap.size + 1) (World.size_alloc _ _)).mono ?_; rintro e w4 ⟨rfl, hk, hm, hb⟩; have HVW := Lib.hid (vdw_made HBX.out HZ1.out HB2.out hk hm hb); have t0 := obj_cell HVW.out.v_x 0; have t1 := obj_cell HVW.out.v_x 1; clear hb hk hm)
        | (go_at_call 25; refine (HRI.out _ HVW.out.v_bel).mono ?_; rintro e w6 ⟨rfl, hb⟩; replace HVW := Lib.hid (HVW.out.more hb); have t0 := obj_cell HVW.out.v_x 0; clear hb))
      go_ret
      refine ⟨?_, HVW.out.v_bel⟩
      first | rfl | (cases rs <;> rfl)
    | true =>
      cases al with
      | false =>
        clear HRS
        go_enter Tryd.func9, Tryd.ntmps9
        go_wp2_with (first
          | (go_at_call 17; (with_reducible rw [← HW1.out]); refine HM.out.mono ?_; rintro e w2 ⟨rfl, hb⟩; have HB2 := Lib.hid (bx2_step HBX.out hb); clear hb)
          | (go_at_call 18; refine (HALN.out _ (w2.heap.size + 1) (World.size_alloc _ _)).mono ?_; rintro e w4 ⟨rfl, hk, hm, hb⟩; have HVW := Lib.hid (vdw_made HBX.out HZ1.out HB2.out hk hm hb); have t0 := obj_cell HVW.out.v_x 0; have t1 := obj_cell HVW.out.v_x 1; clear hb hk hm)
          | (go_at_call 25; refine (HRI.out _ HVW.out.v_bel).mono ?_; rintro e w6 ⟨rfl, hb⟩; replace HVW := Lib.hid (HVW.out.more hb); have t0 := obj_cell HVW.out.v_x 0; clear hb)
          | (go_at_call 26; refine (HSL.out _ _ _ _ _ HVW.out).mono ?_; rintro e w7 ⟨rfl, ht⟩; have HVT := Lib.hid (HVW.out.touched ht); have t1 := obj_cell HVT.out.2.1 1; clear ht))
        go_ret
        refine ⟨?_, HVT.out.1⟩
        first | rfl | (cases rs <;> rfl)
      | true =>
        go_enter Tryd.func9, Tryd.ntmps9
        go_wp2_with (first
          | (go_at_call 17; (with_reducible rw [← HW1.out]); refine HM.out.mono ?_; rintro e w2 ⟨rfl, hb⟩; have HB2 := Lib.hid (bx2_step HBX.out hb); clear hb)
          | (go_at_call 18; refine (HALN.out _ (w2.heap.size + 1) (World.size_alloc _ _)).mono ?_; rintro e w4 ⟨rfl, hk, hm, hb⟩; have HVW := Lib.hid (vdw_made HBX.out HZ1.out HB2.out hk hm hb); have t0 := obj_cell HVW.out.v_x 0; have t1 := obj_cell HVW.out.v_x 1; clear hb hk hm)
          | (go_at_call 25; refine (HRI.out _ HVW.out.v_bel).mono ?_; rintro e w6 ⟨rfl, hb⟩; replace HVW := Lib.hid (HVW.out.more hb); have t0 := obj_cell HVW.out.v_x 0; clear hb)
          | (go_at_call 26; refine (HSL.out _ _ _ _ _ HVW.out).mono ?_; rintro e w7 ⟨rfl, ht⟩; have HVT := Lib.hid (HVW.out.touched ht); have t1 := obj_cell HVT.out.2.1 1; clear ht)
          | (go_at_call 27; refine (HRS.out _ _ HVT.out.1 HVT.out.2.2).mono ?_; rintro e w8 ⟨rfl, hb⟩; have HB8 := Lib.hid (vbel HVT.out.1 hb); clear hb))
        go_ret
        refine ⟨?_, HB8.out⟩
        first | rfl | (cases rs <;> rfl)
theorem pvtree_any {s : Sc} (hok : ScOk s) : ∀ n, PTree s n
  | 0 => pvtree_step hok (fun k hk => by omega)
  | n + 1 => pvtree_step hok (fun k hk => by
      obtain rfl : n = k := by omega
      exact pvtree_any hok n)

set_option maxHeartbeats 4000000 in
theorem pvknows_any {SS : Nat → Nat → Prop} (w : World) {A A2 : Option Addr} {ne ca nm ca2 : Nat} {s : Sc} (h : ScAt SS w A ne ca A2 nm ca2 s) (name : List UInt8) (t : Int) :
    Calls Tryd.prog 13 #[.agg #[.slice A ne ca, .slice A2 nm ca2], .string (strOf name), .int .i64 t] w fun e w' => e = .returned (.bool (knowsT s name t)) ∧ Below w.heap.size w w' := by
  have hx := bx_start w #[.slice A ne ca, .slice A2 nm ca2] 25
  obtain ⟨w1, hw1⟩ : ∃ w1, w1 = w.alloc (.cells #[.slice A ne ca, .slice A2 nm ca2] 25) := ⟨_, rfl⟩
  rw [← hw1] at hx
  have s0 := obj_cell hx.b_blk 0
  have s1 := obj_cell hx.b_blk 1
  rw [hw1] at s0 s1
  have HW1 := Lib.hid hw1
  have HBX := Lib.hid hx
  rcases msg_way s name with ⟨hn1, hn2⟩ | ⟨i, m, hn1, him, hn2⟩
  · have e0 : knowsT s name t = false := by unfold knowsT; rw [hn2]
    rw [e0]
    have HM := Lib.hid (pvmsg_none w1 (scAt_bel h hx.b_bel) name hn1)
    unfold zMsg at HM
    clear h hx hw1 hn1 hn2 e0
    generalize strOf name = sm at *
    go_enter Tryd.func13, Tryd.ntmps13
    go_wp2_with (go_at_call 17; (with_reducible rw [← HW1.out]); refine HM.out.mono ?_; rintro e w2 ⟨rfl, hb⟩; have HB2 := Lib.hid (bx_step HBX.out hb); clear hb)
    go_ret
    exact ⟨rfl, HB2.out.b_bel.alloc HB2.out.b_bel.size _⟩
  · have e0 : knowsT s name t = decide (0 ≤ numAtT m t) := by unfold knowsT; rw [hn2]
    rw [e0]
    have hi2 := (List.getElem?_eq_some_iff.mp him).1
    obtain ⟨ge, oe, A1, c1, A3, c3, rfl, _, hc, hl, hl2⟩ := ms_at h.s_m him
    have HM := Lib.hid (pvmsg_some w1 (scAt_bel h hx.b_bel) name hn1 (by have := h.s_nm; omega) (fun wr hb => hc wr (hx.b_bel.trans (hb.mono hx.b_bel.size))))
    have HN := Lib.hid (fun u (hb : Below w.heap.size w u) => pvknow_any u (strOf m.name) (lst_keep (S' := SS 1) hl fdR_keep (fun _ h => h) (bel_keep hb)) (lst_keep (S' := SS 2) hl2 inR_keep (fun _ h => h) (bel_keep hb)) rfl rfl t)
    generalize decide (0 ≤ numAtT m t) = kn at *
    clear h hx hw1 hn1 hn2 e0 hi2 hc hl hl2 him
    generalize strOf name = sm at *
    generalize strOf m.name = sn at *
    generalize m.fields.length = nf at *
    generalize m.barred.length = nb at *
    go_enter Tryd.func13, Tryd.ntmps13
    go_wp2_with (first
      | (go_at_call 17; (with_reducible rw [← HW1.out]); refine HM.out.mono ?_; rintro e w2 ⟨rfl, hb⟩; have HB2 := Lib.hid (bx_step HBX.out hb); clear hb)
      | (go_at_call 24; refine (HN.out _ (HB2.out.b_bel.alloc HB2.out.b_bel.size _)).mono ?_; rintro e w3 ⟨rfl, hb⟩; have HB3 := Lib.hid (vbel (HB2.out.b_bel.alloc HB2.out.b_bel.size _) hb); clear hb))
    go_ret
    refine ⟨?_, HB3.out⟩
    cases kn <;> rfl
end Go.Proofs.YtmdekdmcnnbofaaDoor
