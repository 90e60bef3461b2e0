/- Several texts in one: RtD, TrLv, RtE. What each proves, and its conditions, stands at its own head. -/
import Derived.Test.YtakdkocobcicdaaPkTW16
import Derived.Test.YtakdkocobcicdaaPkTW18
import Derived.Test.YtakdkocobcicdaaPkTW13
import Derived.Test.YtakdkocobcicdaaPkTW14
import Derived.Deep.RegionLaw
/- The document's layer 19: a number's values, and a tree with others. Conditions: those that each theorem names. -/
namespace Go.Proofs.Ytakdkocobcicdaa
open Go.RowKit
set_option linter.unusedVariables false
set_option maxRecDepth 100000

set_option maxHeartbeats 4000000 in
theorem rtget_any {S : Nat → Prop} {k : Nat} (w : World) {A : Option Addr} {na ca : Nat} {A2 : Option Addr} {nr cr : Nat} {x : Tr} (num : Int) (h : TrAt S k w A na ca A2 nr cr x) :
    Calls Try.prog 18 #[.agg #[.slice A na ca, .slice A2 nr cr], .int .i64 num] w fun e w' => ∃ A1 n1 c1, e = .returned (.slice A1 n1 c1) ∧ n1 = (getT x.slots num).length ∧ VsAt S k w' A1 c1 (getT x.slots num) ∧ Below w.heap.size w w' := by
  obtain ⟨q1, q2, q3, q4⟩ := trAt_max h
  have HA := Lib.hid h
  have HBX := Lib.hid (bx_start w #[.slice A na ca, .slice A2 nr cr] 25)
  have r0 := obj_cell (HBX.out).b_blk 0
  have r1 := obj_cell (HBX.out).b_blk 1
  clear h
  go_enter Try.func18, Try.ntmps18
  go_wp2
  clear r0 r1
  go_loopg [5] na (fun gz x0 wr => ∃ i : Nat, x0 = .int .i64 (i : Int) ∧ i + gz = na ∧ (∀ (j : Nat) (y : Slt), j < i → x.slots[j]? = some y → y.snum ≠ num) ∧ Bx w wr (.cells #[.slice A na ca, .slice A2 nr cr] 25 (0, 0)))
  case atStart => exact ⟨0, rfl, by omega, fun j x hj => absurd hj (Nat.not_lt_zero _), HBX.out⟩
  case round =>
    obtain ⟨i, rfl, hi, hall, hbx⟩ := hrel
    have HALL := Lib.hid hall
    have HBX := Lib.hid hbx
    clear hall hbx
    obtain ⟨g0, hg0⟩ : ∃ g0, g0 = gk := ⟨_, rfl⟩
    subst hg0
    have r0 := obj_cell HBX.out.b_blk 0
    by_cases hlti : i < na
    · have ti : decide ((i : Int) < (na : Int)) = true := decide_eq_true (by omega)
      obtain ⟨s, hs⟩ : ∃ s, x.slots[i]? = some s := ⟨_, List.getElem?_eq_getElem (by have := HA.out.t_ns; omega)⟩
      obtain ⟨ga, oa, A1, c1, rfl, _, hca, hva⟩ := sl_at HA.out.t_s hs
      obtain ⟨a0, a1⟩ := hca _ (stay_bel HBX.out.b_bel)
      have HSI := Lib.hid hs
      have HVA := Lib.hid hva
      obtain ⟨nv, hnv⟩ : ∃ z, z = s.svals.length := ⟨_, rfl⟩
      obtain ⟨sn, hsn⟩ : ∃ z, z = s.snum := ⟨_, rfl⟩
      rw [← hnv] at a1
      rw [← hsn] at a0
      have HNV := Lib.hid hnv
      have HSN := Lib.hid hsn
      clear hs hca hva hnv hsn
      by_cases e : sn = num
      · have HG : Hid (getT x.slots num = s.svals) := Lib.hid (getT_at HSI.out (by rw [← HSN.out, e]) HALL.out)
        have t1 : (sn == num) = true := by rw [e]; exact beq_self_eq_true _
        go_wp2
        go_ret
        exact ⟨A1, nv, c1, rfl, by rw [HG.out, HNV.out], by rw [HG.out]; exact vsAt_bel HVA.out HBX.out.b_bel, HBX.out.b_bel⟩
      · have t1 : (sn == num) = false := beq_false_of_ne e
        go_wp2
        go_roundg (g0 - 1)
        case measure => omega
        case rel => exact ⟨i + 1, by go_num, by omega, (fun j y hj hy => by
              by_cases hjq : j < i
              · exact HALL.out j y hjq hy
              · have : j = i := by omega
                subst this
                have e1 := HSI.out.symm.trans hy
                injection e1 with e1
                rw [← e1, ← HSN.out]
                exact e), HBX.out⟩
    · have ti : decide ((i : Int) < (na : Int)) = false := decide_eq_false (by omega)
      have HG : Hid (getT x.slots num = []) := Lib.hid (getT_none (fun j y hy => HALL.out j y (by have := (List.getElem?_eq_some_iff.mp hy).1; have := HA.out.t_ns; omega) hy))
      go_wp2
      go_ret
      exact ⟨none, 0, 0, rfl, by rw [HG.out]; rfl, by rw [HG.out]; exact lst_empty _ _ _ (by decide) (fun _ => rfl), HBX.out.b_bel⟩

/-- The document's With on its way: three boxes, and the slots so far. -/
structure WiAt (S : Nat → Prop) (k : Nat) (w wr : World) (o : Obj) (A2 : Option Addr) (nr cr : Nat) (v : Value) (l : List Slt) : Prop where
  i_bel : Below w.heap.size w wr
  i_box : wr.heap[w.heap.size]? = some o
  i_res : wr.heap[w.heap.size + 1]? = some (.cells #[.slice none 0 0, .slice none 0 0] 25 (0, 0))
  i_out : wr.heap[w.heap.size + 1 + 1]? = some (.cells #[v, .slice A2 nr cr] 25 (0, 0))
  i_row : OwnL (w.heap.size + 3) 32 2 (slR (trR S k) S w) wr v l
theorem wi_start {S : Nat → Prop} {k : Nat} (w : World) (cs : Array Value) (A2 : Option Addr) (nr cr : Nat) :
    WiAt S k w (((w.alloc (.cells cs 25)).alloc (.cells #[.slice none 0 0, .slice none 0 0] 25)).alloc (.cells #[.slice none 0 0, .slice A2 nr cr] 25)) (.cells cs 25 (0, 0)) A2 nr cr (.slice none 0 0) [] := by
  have h := bx2_start w cs #[.slice none 0 0, .slice none 0 0] 25 25
  obtain ⟨u, hu⟩ : ∃ u, u = (w.alloc (.cells cs 25)).alloc (.cells #[.slice none 0 0, .slice none 0 0] 25) := ⟨_, rfl⟩
  have hz : u.heap.size = w.heap.size + 1 + 1 := by rw [hu]; simp
  rw [← hu] at h ⊢
  have h2 := bx2_step h ((Below.refl _ u).alloc (Nat.le_refl _) (.cells #[.slice none 0 0, .slice A2 nr cr] 25))
  exact ⟨h2.b2_bel, h2.b2_one, h2.b2_two, by rw [← hz]; exact heap_alloc_new u _, ownL_nil _ _ _ _ _⟩
theorem wi_bel {S : Nat → Prop} {k : Nat} {w wr w2 : World} {o : Obj} {A2 : Option Addr} {nr cr : Nat} {v : Value} {l : List Slt} (h : WiAt S k w wr o A2 nr cr v l) (hb : Below wr.heap.size wr w2) : WiAt S k w w2 o A2 nr cr v l :=
  ⟨bel_more h.i_bel hb, (hb.block _ (lt_of_block h.i_box)).trans h.i_box, (hb.block _ (lt_of_block h.i_res)).trans h.i_res, (hb.block _ (lt_of_block h.i_out)).trans h.i_out, ownL_bel h.i_row (fun _ _ h => h) hb⟩
theorem wi_append {S : Nat → Prop} {k : Nat} {w u : World} {o : Obj} {A2 : Option Addr} {nr cr : Nat} {v : Value} {l : List Slt} {x : Slt} {num : Int} {A1 : Option Addr} {n1 c1 : Nat} {a : Addr} (ty : TypeId) (h : WiAt S k w u o A2 nr cr v l) (hx : slR (trR S k) S w [.int .i64 num, .slice A1 n1 c1] x)
    (hnews : ∀ j z, [Value.int .i64 num, Value.slice A1 n1 c1][j]? = some z → u.cell? (a.add j) = some z) (hl : l.length ≤ 100000) :
    ∃ v' w', (Builtin.append_ #[22, 22] ty #[v, .slice (some a) 1 1]).run Try.prog u = .ok v' w' ∧ (w'.heap[w.heap.size + 1 + 1]? = some (.cells #[v, .slice A2 nr cr] 25 (0, 0)) ∧ WiAt S k w (w'.setCell ⟨w.heap.size + 1 + 1, 0, none⟩ v') o A2 nr cr v' (l ++ [x])) := by
  obtain ⟨i, i1, i2, i3, i4⟩ := info_ofs info_slt
  obtain ⟨v', w', hr, ho, hg, hm⟩ := ownL_append (P := Try.prog) ty Try.underlying22 i1 i2 i3 i4 rfl (by decide) h.i_row hx rfl (by intro u hu; simp at hu; rcases hu with rfl | rfl <;> rfl) hnews hl (by decide) (by have := lt_of_block h.i_out; omega)
  have hn : ∀ g, g < w.heap.size + 3 → v.ownBlock ≠ some g := fun g hg e => by have := (ownL_blk h.i_row g e).1; omega
  have hz := lt_of_block h.i_out
  have b2 := (hg.block (w.heap.size + 1 + 1) (lt_of_block h.i_out) (fun e => hn _ (by omega) e.symm)).trans h.i_out
  have b1 := (hg.block (w.heap.size + 1) (lt_of_block h.i_res) (fun e => hn _ (by omega) e.symm)).trans h.i_res
  have b0 := (hg.block w.heap.size (lt_of_block h.i_box) (fun e => hn _ (by omega) e.symm)).trans h.i_box
  refine ⟨v', w', hr, b2, ?_⟩
  have hbl : Below w.heap.size w w' := h.i_bel.grown hg (by omega) (fun k hk => by have := (ownL_blk h.i_row k hk).1; omega)
  refine ⟨hbl.setCell (p := ⟨w.heap.size + 1 + 1, 0, none⟩) (by show w.heap.size ≤ w.heap.size + 1 + 1; omega) _, set_else b0 (by show w.heap.size ≠ w.heap.size + 1 + 1; omega), set_else b1 (by show w.heap.size + 1 ≠ w.heap.size + 1 + 1; omega), obj_set b2 0 v', ownL_keep ho (fun _ _ h => h) (fun g hg => Below.heap_setCell _ _ _ _ (fun e => ?_))⟩
  have := (ownL_blk ho g hg).1
  have e' : g = w.heap.size + 1 + 1 := e
  omega
theorem wi_end {S : Nat → Prop} {k : Nat} {w wr : World} {o : Obj} {A A2 : Option Addr} {na ca nr cr : Nat} {v : Value} {l : List Slt} {x : Tr} (h : WiAt S k w wr o A2 nr cr v l) (ht : TrAt S k w A na ca A2 nr cr x) :
    ∃ B nb cb, v = .slice B nb cb ∧ nb = l.length ∧ ∀ u, Below w.heap.size w u → (∀ g, v.ownBlock = some g → u.heap[g]? = wr.heap[g]?) → TrAt (fun _ => True) k u B nb cb A2 nr cr (.mk l x.rest) := by
  obtain ⟨B, cb, e, _, _⟩ := ownL_form h.i_row
  subst e
  refine ⟨B, l.length, cb, rfl, rfl, fun u hb hk => ⟨?_, lst_keep ht.t_r (fun _ _ h => h) (fun _ _ => trivial) (stay_bel hb), rfl, ht.t_nr⟩⟩
  have h2 : OwnL (w.heap.size + 3) 32 2 (slR (trR (fun _ => True) k) (fun _ => True) u) u (.slice B l.length cb) l := ownL_keep h.i_row (fun c y hy => slR_keep (trR_keep (fun _ _ => trivial) (stay_bel hb) k) (fun _ _ => trivial) (stay_bel hb) c y hy) hk
  obtain ⟨B', c', e, hS⟩ := ownL_lst h2
  cases e
  exact hS _ (fun _ _ => trivial)

set_option maxHeartbeats 16000000 in
theorem rtwith_any {S : Nat → Prop} {k : Nat} (w : World) {A : Option Addr} {na ca : Nat} {A2 : Option Addr} {nr cr : Nat} {B : Option Addr} {nb cb : Nat} {x : Tr} {vals : List Va} (num : Int) (h : TrAt S k w A na ca A2 nr cr x) (hv : VsAt S k w B cb vals) (hnb : nb = vals.length) (hna : na ≤ 10000) :
    Calls Try.prog 19 #[.agg #[.slice A na ca, .slice A2 nr cr], .int .i64 num, .slice B nb cb] w fun e w' => ∃ B1 n1 d1 B2 n2 d2, e = .returned (.agg #[.slice B1 n1 d1, .slice B2 n2 d2]) ∧ TrAt (fun _ => True) k w' B1 n1 d1 B2 n2 d2 (.mk (withT num vals x.slots) x.rest) ∧ Below w.heap.size w w' := by
  obtain ⟨q1, q2, q3, q4⟩ := trAt_max h
  have p1 := hv.l_le
  have p2 := hv.l_max
  unfold maxLen at p2
  rw [← hnb] at p1
  have HA := Lib.hid h
  have HV := Lib.hid hv
  have HNB := Lib.hid hnb
  have HX : Hid (slR (trR S k) S w [.int .i64 num, .slice B nb cb] (⟨num, vals⟩ : Slt)) := Lib.hid ⟨B, cb, by rw [hnb], hv⟩
  have HWI := Lib.hid (wi_start (S := S) (k := k) w #[.slice A na ca, .slice A2 nr cr] A2 nr cr)
  have hb0 := bx_start w #[.slice A na ca, .slice A2 nr cr] 25
  have HBB := Lib.hid (bx2_start w #[.slice A na ca, .slice A2 nr cr] #[.slice none 0 0, .slice none 0 0] 25 25)
  have s0 := obj_cell (HBB.out).b2_one 0
  have s1 := obj_cell (HBB.out).b2_one 1
  have HD : Hid (decide (nb = 0) = decide (vals = [])) := Lib.hid (by
    by_cases e : vals = []
    · rw [hnb, e]; rfl
    · rw [decide_eq_false e]
      exact decide_eq_false (fun z => e (List.eq_nil_of_length_eq_zero (by omega))))
  obtain ⟨d0, hd0⟩ : ∃ d0, d0 = decide (nb = 0) := ⟨_, rfl⟩
  have td : ((nb : Int) == 0) = d0 := by rw [hd0]; by_cases e : nb = 0 <;> simp [e]
  have HW : Hid (wiT num vals x.slots d0 = withT num vals x.slots) := Lib.hid (by rw [hd0, HD.out, wiT_with])
  clear h hv hnb hb0 hd0 HBB
  go_enter Try.func19, Try.ntmps19
  go_wp2
  clear s0 s1
  go_loopg [8, 9] na (fun gz x0 x1 wr => ∃ (i : Nat) (d : Bool) (v : Value) (l : List Slt), x0 = .bool d ∧ x1 = .int .i64 (i : Int) ∧ i + gz = na ∧ l ++ wiT num vals (x.slots.drop i) d = withT num vals x.slots ∧ l.length ≤ 2 * i ∧ WiAt S k w wr (.cells #[.slice A na ca, .slice A2 nr cr] 25 (0, 0)) A2 nr cr v l)
  case atStart => exact ⟨0, d0, _, [], rfl, rfl, by omega, HW.out, by simp, HWI.out⟩
  case round =>
    obtain ⟨i, d, v, l, rfl, rfl, hi, hwi, hll, hat⟩ := hrel
    have HEQ := Lib.hid hwi
    have HWI := Lib.hid hat
    have HLL := Lib.hid hll
    clear hwi hat hll
    obtain ⟨g0, hg0⟩ : ∃ g0, g0 = gk := ⟨_, rfl⟩
    subst hg0
    have r0 := obj_cell HWI.out.i_box 0
    by_cases hlti : i < na
    · have ti : decide ((i : Int) < (na : Int)) = true := decide_eq_true (by omega)
      obtain ⟨s, hs⟩ : ∃ s, x.slots[i]? = some s := ⟨_, List.getElem?_eq_getElem (by have := HA.out.t_ns; omega)⟩
      have HDR : Hid (x.slots.drop i = s :: x.slots.drop (i + 1)) := Lib.hid (by
        have h9 := (List.getElem?_eq_some_iff.mp hs).1
        rw [List.drop_eq_getElem_cons h9]
        congr 1
        exact (List.getElem?_eq_some_iff.mp hs).2)
      obtain ⟨ga, oa, A1, c1, rfl, _, hca, hva⟩ := sl_at HA.out.t_s hs
      have HCA := Lib.hid hca
      obtain ⟨a0, a1⟩ := hca _ (stay_bel HWI.out.i_bel)
      obtain ⟨sn, sv⟩ := s
      dsimp only at HCA a0 a1 hva
      obtain ⟨nv, hnv⟩ : ∃ z, z = sv.length := ⟨_, rfl⟩
      rw [← hnv] at a1 HCA
      have HY : Hid (slR (trR S k) S w [.int .i64 sn, .slice A1 nv c1] (⟨sn, sv⟩ : Slt)) := Lib.hid ⟨A1, c1, by rw [hnv], hva⟩
      clear hs hca hva hnv
      by_cases e : sn = num
      · have t1 : (sn == num) = true := by rw [e]; exact beq_self_eq_true _
        have HN : Hid (l ++ wiT num vals (x.slots.drop (i + 1)) d = withT num vals x.slots) := Lib.hid (by
          have := HEQ.out
          rw [HDR.out, wiT, if_pos e] at this
          exact this)
        go_wp2
        go_roundg (g0 - 1)
        case measure => omega
        case rel => exact ⟨i + 1, d, v, l, rfl, by go_num, by omega, HN.out, by have := HLL.out; omega, HWI.out⟩
      · have t1 : (sn == num) = false := beq_false_of_ne e
        by_cases hc : d = false ∧ num < sn
        · obtain ⟨rfl, hlt⟩ := hc
          have t2 : decide (num < sn) = true := decide_eq_true hlt
          have HN : Hid ((l ++ [⟨num, vals⟩]) ++ [⟨sn, sv⟩] ++ wiT num vals (x.slots.drop (i + 1)) true = withT num vals x.slots) := Lib.hid (by
            have := HEQ.out
            rw [HDR.out, wiT, if_neg e, if_pos ⟨rfl, hlt⟩] at this
            rw [← this]
            simp)
          have z0 := obj_cell HWI.out.i_out 0
          have z00 := obj_free HWI.out.i_out 0
          go_wp2_with (first
            | (at_builtin; refine wpList_append_x rfl _ _ rfl rfl rfl (wi_append (a := ⟨wr.heap.size, 0, none⟩) _ (wi_bel HWI.out ((Below.refl _ wr).alloc (Nat.le_refl _) _)) HX.out (fun j z hz => cells_new wr #[.int .i64 num, .slice B nb cb] 32 j z hz) (by have := HLL.out; omega)) ?_; rintro v2 w2 ⟨hb2, hat2⟩; obtain ⟨A9, n9, c9, rfl⟩ := ownL_slc hat2.i_row; have HW2 := Lib.hid hat2; have y0 := obj_free hb2 0; have y1 := obj_cell hb2 0; clear hat2 hb2))
          obtain ⟨v2, hv2⟩ : ∃ v2, v2 = Value.slice A9 n9 c9 := ⟨_, rfl⟩
          rw [← hv2] at HW2 ⊢
          clear hv2
          obtain ⟨w3, hw3⟩ : ∃ w3, w3 = w2.setCell ⟨w.heap.size + 1 + 1, 0, none⟩ v2 := ⟨_, rfl⟩
          rw [← hw3] at HW2 ⊢
          clear hw3 y0 y1 z0 z00 r0 a0 a1
          have r0 := obj_cell HW2.out.i_box 0
          obtain ⟨a0, a1⟩ := HCA.out _ (stay_bel HW2.out.i_bel)
          have z0 := obj_cell HW2.out.i_out 0
          have z00 := obj_free HW2.out.i_out 0
          have HD1 := Lib.hid (wi_bel HW2.out (drewN_under w3 1))
          have k0 : ∀ o : Obj, (w3.alloc o).cell? ⟨w.heap.size, 0, none⟩ = some (.slice (some ⟨ga, oa, none⟩) na ca) := fun o => cell_under ((Below.refl _ w3).alloc (Nat.le_refl _) o) r0
          have k1 : ∀ o : Obj, (w3.alloc o).cell? ⟨ga, oa + i * 2, none⟩ = some (.int .i64 sn) := fun o => cell_under ((Below.refl _ w3).alloc (Nat.le_refl _) o) a0
          have k2 : ∀ o : Obj, (w3.alloc o).cell? ⟨ga, oa + i * 2 + 1, none⟩ = some (.slice A1 nv c1) := fun o => cell_under ((Below.refl _ w3).alloc (Nat.le_refl _) o) a1
          have k3 : ∀ o : Obj, (w3.alloc o).cell? ⟨w.heap.size + 1 + 1, 0, none⟩ = some v2 := fun o => cell_under ((Below.refl _ w3).alloc (Nat.le_refl _) o) z0
          go_wp2
          go_region_law (first
            | (refine step_append_run (by rfl) _ _ (by rfl) (by rfl) (by rfl) (wi_append (a := ⟨w3.heap.size, 0, none⟩) _ (wi_bel HW2.out (((Below.refl _ w3).alloc (Nat.le_refl _) (.cells #[.int .i64 sn, .slice A1 nv c1] 32)).drew)) HY.out (fun j z hz => cells_new w3 #[.int .i64 sn, .slice A1 nv c1] 32 j z hz) (by have := HLL.out; simp; omega)) ?_; rintro v4 w4 ⟨hb4, hat4⟩; obtain ⟨A9, n9, c9, rfl⟩ := ownL_slc hat4.i_row; have HW4 := Lib.hid hat4; have y0 := obj_free hb4 0; have y1 := obj_cell hb4 0; clear hat4 hb4))
          all_goals
            go_wp2
            go_roundg (g0 - 1)
            case measure => omega
            case rel => exact ⟨i + 1, true, _, _, rfl, by go_num, by omega, HN.out, by have := HLL.out; simp; omega, HW4.out⟩
        · have t2 : (!d && decide (num < sn)) = false := by
            cases d with
            | true => rfl
            | false => simp at hc ⊢; omega
          have HN : Hid (l ++ [⟨sn, sv⟩] ++ wiT num vals (x.slots.drop (i + 1)) d = withT num vals x.slots) := Lib.hid (by
            have := HEQ.out
            rw [HDR.out, wiT, if_neg e, if_neg hc] at this
            rw [← this]
            simp)
          have HD1 := Lib.hid (wi_bel HWI.out (drewN_under wr 1))
          have z0 := obj_cell HWI.out.i_out 0
          have z00 := obj_free HWI.out.i_out 0
          have k0 : ∀ o : Obj, (wr.alloc o).cell? ⟨w.heap.size, 0, none⟩ = some (.slice (some ⟨ga, oa, none⟩) na ca) := fun o => cell_under ((Below.refl _ wr).alloc (Nat.le_refl _) o) r0
          have k1 : ∀ o : Obj, (wr.alloc o).cell? ⟨ga, oa + i * 2, none⟩ = some (.int .i64 sn) := fun o => cell_under ((Below.refl _ wr).alloc (Nat.le_refl _) o) a0
          have k2 : ∀ o : Obj, (wr.alloc o).cell? ⟨ga, oa + i * 2 + 1, none⟩ = some (.slice A1 nv c1) := fun o => cell_under ((Below.refl _ wr).alloc (Nat.le_refl _) o) a1
          have k3 : ∀ o : Obj, (wr.alloc o).cell? ⟨w.heap.size + 1 + 1, 0, none⟩ = some v := fun o => cell_under ((Below.refl _ wr).alloc (Nat.le_refl _) o) z0
          have t3 : d = false → decide (num < sn) = false := fun hd => by rw [hd] at t2; simpa using t2
          cases d with
          | true =>
            clear t2 t3 hc
            go_wp2
            go_region_law (first
              | (refine step_append_run (by rfl) _ _ (by rfl) (by rfl) (by rfl) (wi_append (a := ⟨wr.heap.size, 0, none⟩) _ (wi_bel HWI.out (((Below.refl _ wr).alloc (Nat.le_refl _) (.cells #[.int .i64 sn, .slice A1 nv c1] 32)).drew)) HY.out (fun j z hz => cells_new wr #[.int .i64 sn, .slice A1 nv c1] 32 j z hz) (by have := HLL.out; omega)) ?_; rintro v4 w4 ⟨hb4, hat4⟩; obtain ⟨A9, n9, c9, rfl⟩ := ownL_slc hat4.i_row; have HW4 := Lib.hid hat4; have y0 := obj_free hb4 0; have y1 := obj_cell hb4 0; clear hat4 hb4))
            all_goals
              go_wp2
              go_roundg (g0 - 1)
              case measure => omega
              case rel => exact ⟨i + 1, true, _, _, rfl, by go_num, by omega, HN.out, by have := HLL.out; simp; omega, HW4.out⟩
          | false =>
            have t4 : decide (num < sn) = false := t3 rfl
            clear t2 t3 hc
            go_wp2
            go_region_law (first
              | (refine step_append_run (by rfl) _ _ (by rfl) (by rfl) (by rfl) (wi_append (a := ⟨wr.heap.size, 0, none⟩) _ (wi_bel HWI.out (((Below.refl _ wr).alloc (Nat.le_refl _) (.cells #[.int .i64 sn, .slice A1 nv c1] 32)).drew)) HY.out (fun j z hz => cells_new wr #[.int .i64 sn, .slice A1 nv c1] 32 j z hz) (by have := HLL.out; omega)) ?_; rintro v4 w4 ⟨hb4, hat4⟩; obtain ⟨A9, n9, c9, rfl⟩ := ownL_slc hat4.i_row; have HW4 := Lib.hid hat4; have y0 := obj_free hb4 0; have y1 := obj_cell hb4 0; clear hat4 hb4))
            all_goals
              go_wp2
              go_roundg (g0 - 1)
              case measure => omega
              case rel => exact ⟨i + 1, false, _, _, rfl, by go_num, by omega, HN.out, by have := HLL.out; simp; omega, HW4.out⟩
    · have ti : decide ((i : Int) < (na : Int)) = false := decide_eq_false (by omega)
      have HN : Hid (l ++ wiT num vals [] d = withT num vals x.slots) := Lib.hid (by
        have := HEQ.out
        rw [List.drop_of_length_le (by have := HA.out.t_ns; omega)] at this
        exact this)
      have z0 := obj_cell HWI.out.i_out 0
      have z00 := obj_free HWI.out.i_out 0
      have z1 := obj_cell HWI.out.i_out 1
      have u0 := obj_free HWI.out.i_res 0
      have u1 := obj_free HWI.out.i_res 1
      have u2 := obj_cell HWI.out.i_res 0
      have u3 := obj_cell HWI.out.i_res 1
      have HFIN : Hid (∀ (wz : World) (vz : Value) (lz : List Slt), WiAt S k w wz (.cells #[.slice A na ca, .slice A2 nr cr] 25 (0, 0)) A2 nr cr vz lz → lz = withT num vals x.slots →
          ∃ B1 n1 d1, vz = .slice B1 n1 d1 ∧ TrAt (fun _ => True) k ((wz.setCell ⟨w.heap.size + 1, 0, none⟩ (.slice B1 n1 d1)).setCell ⟨w.heap.size + 1, 1, none⟩ (.slice A2 nr cr)) B1 n1 d1 A2 nr cr (.mk (withT num vals x.slots) x.rest) ∧ Below w.heap.size w ((wz.setCell ⟨w.heap.size + 1, 0, none⟩ (.slice B1 n1 d1)).setCell ⟨w.heap.size + 1, 1, none⟩ (.slice A2 nr cr))) := Lib.hid (fun wz vz lz hz hl => by
        obtain ⟨B1, n1, d1, e1, e2, e3⟩ := wi_end hz HA.out
        subst hl
        have hbl : Below w.heap.size w ((wz.setCell ⟨w.heap.size + 1, 0, none⟩ (.slice B1 n1 d1)).setCell ⟨w.heap.size + 1, 1, none⟩ (.slice A2 nr cr)) := (hz.i_bel.setCell (p := ⟨w.heap.size + 1, 0, none⟩) (by simp) _).setCell (p := ⟨w.heap.size + 1, 1, none⟩) (by simp) _
        refine ⟨B1, n1, d1, e1, e3 _ hbl (fun g hg => ?_), hbl⟩
        have := (ownL_blk hz.i_row g hg).1
        exact (Below.heap_setCell _ _ _ _ (by show g ≠ w.heap.size + 1; omega)).trans (Below.heap_setCell _ _ _ _ (by show g ≠ w.heap.size + 1; omega)))
      cases d with
      | true =>
        obtain ⟨B1, n1, d1, rfl, hr, hbl⟩ := HFIN.out wr v l HWI.out (by have := HN.out; simpa [wiT] using this)
        have HR := Lib.hid (And.intro hr hbl)
        have e0 := obj_set HWI.out.i_res 0 (.slice B1 n1 d1)
        have e1 := obj_set e0 1 (.slice A2 nr cr)
        have f0 := obj_cell e1 0
        have f1 := obj_cell e1 1
        clear hr hbl
        go_wp2
        refine bodyPost_ret (v := .agg #[.slice B1 n1 d1, .slice A2 nr cr]) ?_ rfl ⟨B1, n1, d1, A2, nr, cr, rfl, HR.out.1, HR.out.2⟩
        have hres : Try.f19.results = #[.cell 6 25] := by kernel_rfl
        simp only [results, hres]
        go_simp
      | false =>
        clear u2 u3
        go_wp2_with (first
          | (at_builtin; refine wpList_append_x rfl _ _ rfl rfl rfl (wi_append (a := ⟨wr.heap.size, 0, none⟩) _ (wi_bel HWI.out ((Below.refl _ wr).alloc (Nat.le_refl _) _)) HX.out (fun j z hz => cells_new wr #[.int .i64 num, .slice B nb cb] 32 j z hz) (by have := HLL.out; omega)) ?_; rintro v2 w2 ⟨hb2, hat2⟩; obtain ⟨A9, n9, c9, rfl⟩ := ownL_slc hat2.i_row; have HW2 := Lib.hid hat2; have y0 := obj_free hb2 0; have y1 := obj_cell hb2 0; have z0 := obj_cell HW2.out.i_out 0; have z1 := obj_cell HW2.out.i_out 1; have u0 := obj_free HW2.out.i_res 0; have u1 := obj_free HW2.out.i_res 1; have u2 := obj_cell HW2.out.i_res 0; have u3 := obj_cell HW2.out.i_res 1; clear hat2 hb2))
        obtain ⟨B1, n1, d1, hv2, hr, hbl⟩ := HFIN.out _ _ _ HW2.out (by have := HN.out; simpa [wiT] using this)
        cases hv2
        have HR := Lib.hid (And.intro hr hbl)
        have e0 := obj_set HW2.out.i_res 0 (.slice A9 n9 c9)
        have e1 := obj_set e0 1 (.slice A2 nr cr)
        have f0 := obj_cell e1 0
        have f1 := obj_cell e1 1
        clear hr hbl y0 y1
        refine bodyPost_ret (v := .agg #[.slice A9 n9 c9, .slice A2 nr cr]) ?_ rfl ⟨A9, n9, c9, A2, nr, cr, rfl, HR.out.1, HR.out.2⟩
        have hres : Try.f19.results = #[.cell 6 25] := by kernel_rfl
        simp only [results, hres]
        go_simp
end Go.Proofs.Ytakdkocobcicdaa

/- A row of the call's own that grows, each thing with fresh lists of its own (no program's function here). Conditions: those that each theorem names. -/
namespace Go.Proofs.Ytakdkocobcicdaa
open Go.RowKit
set_option linter.unusedVariables false
set_option maxRecDepth 100000

/-- A reading that is kept where its blocks stay. -/
def FamK {α : Type} (F : (Nat → Prop) → World → List Value → α → Prop) : Prop := ∀ (S S' : Nat → Prop) (w w' : World), (∀ g, S g → S' g) → Stay S w w' → ∀ cs x, F S w cs x → F S' w' cs x
theorem fam_tr (k : Nat) : FamK (fun S => trR S k) := fun S S' w w' hS hk => trR_keep hS hk k
theorem fam_va (k : Nat) : FamK (fun S => vaR (trR S k) S) := fun S S' w w' hS hk => vaR_keep (trR_keep hS hk k) hS hk
theorem fam_sl (k : Nat) : FamK (fun S => slR (trR S k) S) := fun S S' w w' hS hk => slR_keep (trR_keep hS hk k) hS hk
theorem fam_rw : FamK (fun _ => rwR) := fun S S' w w' hS hk cs x h => h
/-- A block from b on, of cells that may all be written. -/
def New (b : Nat) (w : World) (g : Nat) : Prop := b ≤ g ∧ g < w.heap.size ∧ ∃ cs t, w.heap[g]? = some (.cells cs t (0, 0))
theorem new_bel {b : Nat} {w w' : World} {g : Nat} (h : New b w g) (hb : Below w.heap.size w w') : New b w' g := by
  obtain ⟨h1, h2, cs, t, h3⟩ := h
  exact ⟨h1, Nat.lt_of_lt_of_le h2 hb.size, cs, t, (hb.block g h2).trans h3⟩
theorem new_less {b c : Nat} {w : World} {g : Nat} (hc : c ≤ b) (h : New b w g) : New c w g := ⟨Nat.le_trans hc h.1, h.2⟩
theorem new_set {b : Nat} {w : World} {p : Addr} {u : Value} {g : Nat} (h : New b w g) (hp : g ≠ p.block) : New b (w.setCell p u) g := by
  obtain ⟨h1, h2, cs, t, h3⟩ := h
  exact ⟨h1, by simpa [World.setCell] using h2, cs, t, (Below.heap_setCell _ _ _ _ hp).trans h3⟩
theorem new_grown {b : Nat} {w w' : World} {r : Option Nat} {g : Nat} (h : New b w g) (hg : w.grownBy w' r) (hr : r ≠ some g) : New b w' g := by
  obtain ⟨h1, h2, cs, t, h3⟩ := h
  exact ⟨h1, Nat.lt_of_lt_of_le h2 hg.size, cs, t, (hg.block g h2 (fun e => hr e.symm)).trans h3⟩
/-- The blocks of what a row's things hold. -/
def Dom (b : Nat) (w : World) (v : Value) (g : Nat) : Prop := New b w g ∧ v.ownBlock ≠ some g
/-- The row, from b on; what lay below c is as it was. -/
structure LvAt {α : Type} (F : (Nat → Prop) → World → List Value → α → Prop) (c b : Nat) (t : TypeId) (k : Nat) (w0 wr : World) (v : Value) (l : List α) : Prop where
  v_bel : Below c w0 wr
  v_row : OwnL b t k (F (Dom b wr v) wr) wr v l
  v_b : b ≤ wr.heap.size
theorem ownL_new {α : Type} {base k : Nat} {t : TypeId} {R : List Value → α → Prop} {w : World} {v : Value} {l : List α} (h : OwnL base t k R w v l) : ∀ g, v.ownBlock = some g → New base w g := by
  obtain ⟨css, h1, h2, h3⟩ := h
  intro g hg
  have hb := h3.lt g hg
  obtain ⟨_, cs, hc⟩ := own_typed h3 hg
  exact ⟨hb.1, hb.2, cs, t, hc⟩
section
variable {α : Type} {F : (Nat → Prop) → World → List Value → α → Prop} {c b k : Nat} {t : TypeId} {w0 wr w2 : World} {v : Value} {l : List α}
theorem lv_start (F : (Nat → Prop) → World → List Value → α → Prop) {c b : Nat} (t : TypeId) (k : Nat) {w0 wr : World} (h : Below c w0 wr) (hb : b ≤ wr.heap.size) : LvAt F c b t k w0 wr (.slice none 0 0) ([] : List α) :=
  ⟨h, ownL_nil _ _ _ _ _, hb⟩
theorem lv_bel (hF : FamK F) (h : LvAt F c b t k w0 wr v l) (hb : Below wr.heap.size wr w2) (hc : c ≤ wr.heap.size) : LvAt F c b t k w0 w2 v l :=
  ⟨h.v_bel.trans (hb.mono hc), ownL_bel h.v_row (fun cs x hx => hF _ _ _ _ (fun g ⟨a, e⟩ => ⟨new_bel a hb, e⟩) (stay_bel hb) cs x hx) hb, Nat.le_trans h.v_b hb.size⟩
/-- What it reads as. -/
theorem lv_lst (hF : FamK F) (h : LvAt F c b t k w0 wr v l) : ∃ A ca, v = .slice A l.length ca ∧ ∀ S : Nat → Prop, (∀ g, New b wr g → S g) → Lst k S (F S) wr A ca l := by
  obtain ⟨A, ca, e, _, _⟩ := ownL_form h.v_row
  subst e
  refine ⟨A, ca, rfl, fun S hS => ?_⟩
  have h2 : OwnL b t k (F S wr) wr (.slice A l.length ca) l := ownL_keep h.v_row (fun cs x hx => hF _ _ _ _ (fun g ⟨a, e⟩ => hS g a) (stay_refl _ _) cs x hx) (fun _ _ => rfl)
  obtain ⟨A', c', e, hL⟩ := ownL_lst (RR := F S) h2
  cases e
  exact hL S (fun g hg => hS g (ownL_new h2 g hg))
/-- One thing more, whose lists are newer than the row was. -/
theorem lv_append {P : Program} {u0 u1 u2 : World} {T : TypeId} {bytes : Nat} {i : TypeInfo} {z : Value} {cs : List Value} {x : α} {a : Addr} (hF : FamK F) (ty : TypeId) (ht : P.underlying T = some (.slice t)) (hi : P.info? t = some i) (hz : i.zero = some z)
    (hsize : i.size = k) (hby : i.bytes = bytes) (hzs : z.cells.size = k) (hk : 0 < k) (h : LvAt F c b t k w0 u0 v l) (hc : c ≤ b) (h01 : Below u0.heap.size u0 u1) (h12 : Below u1.heap.size u1 u2) (hx : F (New u0.heap.size u1) u1 cs x) (hcs : cs.length = k) (h1 : ∀ u ∈ cs, u.oneCell' = true)
    (hnews : ∀ j z, cs[j]? = some z → u2.cell? (a.add j) = some z) (hb1 : l.length ≤ 100000) (hb2 : bytes ≤ 1000) :
    ∃ v' w', (Builtin.append_ #[T, T] ty #[v, .slice (some a) 1 1]).run P u2 = .ok v' w' ∧ (LvAt F c b t k w0 w' v' (l ++ [x]) ∧ u2.grownBy w' v.ownBlock ∧ (∃ A n c, v' = .slice A n c) ∧ (∀ q o, q < b → u2.heap[q]? = some o → w'.heap[q]? = some o)) := by
  have hlt : ∀ g, v.ownBlock = some g → g < u0.heap.size := fun g hg => (ownL_blk h.v_row g hg).2
  have h02 : Below u0.heap.size u0 u2 := h01.trans (h12.mono h01.size)
  have hrow : OwnL b t k (F (Dom b u2 v) u2) u2 v l := ownL_bel h.v_row (fun cs x hx => hF _ _ _ _ (fun g ⟨a, e⟩ => ⟨new_bel a h02, e⟩) (stay_bel h02) cs x hx) h02
  have hx2 : F (Dom b u2 v) u2 cs x := hF _ _ _ _ (fun g a => ⟨new_less h.v_b (new_bel a h12), fun e => by have := hlt g e; have := a.1; omega⟩) (stay_bel h12) cs x hx
  obtain ⟨v', w', hr, ho, hg, hm⟩ := ownL_append ty ht hi hz hsize hby hzs hk hrow hx2 hcs h1 hnews hb1 hb2 (Nat.le_trans h.v_b h02.size)
  have hbs := h.v_b
  have hs2 := h02.size
  refine ⟨v', w', hr, ⟨(h.v_bel.trans (h02.mono (by omega))).grown hg (by omega) (fun g hgg => by have := (ownL_blk h.v_row g hgg).1; omega), ownL_keep ho (fun cs x hx => hF _ _ _ _ (fun g ⟨a, e⟩ => ⟨new_grown a hg e, fun e' => ?_⟩) (fun p ⟨a, e⟩ hp => World.cell?_of_block (hg.block _ hp (fun e' => e e'.symm))) cs x hx) (fun _ _ => rfl), by have := hg.size; omega⟩, hg, ownL_slc ho, fun q o hq hqo => (hg.block q (by rcases Nat.lt_or_ge q u2.heap.size with h9 | h9; exact h9; rw [Array.getElem?_eq_none h9] at hqo; cases hqo) (fun e => by have := (ownL_blk h.v_row q e.symm).1; omega)).trans hqo⟩
  rcases hm with hm | ⟨g2, hg2, hlt2⟩
  · exact e (hm ▸ e')
  · rw [hg2] at e'
    injection e' with e'
    have := a.2.1
    omega
end
theorem lt_of_some {w : World} {q : Nat} {o : Obj} (h : w.heap[q]? = some o) : q < w.heap.size := by
  rcases Nat.lt_or_ge q w.heap.size with h9 | h9
  · exact h9
  · rw [Array.getElem?_eq_none h9] at h; cases h
end Go.Proofs.Ytakdkocobcicdaa

/- The document's layer 19: a copy of a tree. Conditions: those that each theorem names. -/
namespace Go.Proofs.Ytakdkocobcicdaa
open Go.RowKit
set_option linter.unusedVariables false
set_option maxRecDepth 100000

/-- A copy: the same tree, in blocks that were not there. -/
def CopyTo (k : Nat) (w : World) (x : Tr) (e : Ending) (w' : World) : Prop := ∃ B nb cb B2 n2 c2, e = .returned (.agg #[.slice B nb cb, .slice B2 n2 c2]) ∧ TrAt (New w.heap.size w') k w' B nb cb B2 n2 c2 x ∧ Below w.heap.size w w'
theorem stay_set2 {S : Nat → Prop} {w : World} {r j i : Nat} (u v : Value) (h : ∀ g, S g → g ≠ r) : Stay S w ((w.setCell ⟨r, j, none⟩ u).setCell ⟨r, i, none⟩ v) := fun p hp _ =>
  World.cell?_of_block ((Below.heap_setCell _ _ _ _ (fun e => h _ hp e)).trans (Below.heap_setCell _ _ _ _ (fun e => h _ hp e)))
end Go.Proofs.Ytakdkocobcicdaa
