/- Several texts in one: RdT. What each proves, and its conditions, stands at its own head. -/
import Derived.Test.YtmdekdmcnnbofaaDoorPkVD40
import Derived.Test.YtmdekdmcnnbofaaDoorPkVD21
import Derived.Test.YtmdekdmcnnbofaaDoorPkVD33
import Derived.Test.YtmdekdmcnnbofaaDoorPkVD9
import Derived.Test.YtmdekdmcnnbofaaDoorPkVD8
import Derived.Test.YtmdekdmcnnbofaaDoorPkVD20
/- The document's layer 20: which trees are a message's values. Conditions: those that each theorem names. -/
namespace Go.Proofs.YtmdekdmcnnbofaaDoor
open Go.RowKit
set_option linter.unusedVariables false
set_option maxRecDepth 100000

/-- The boxes of a call of the document's Tree. -/
structure RtW (w : World) (mb : Nat) (SCH TRE MSG : Array Value) (u : World) : Prop where
  t_bel : Below w.heap.size w u
  t_s : u.heap[w.heap.size]? = some (.cells SCH 25 (0, 0))
  t_x : u.heap[w.heap.size + 1]? = some (.cells TRE 29 (0, 0))
  t_m : u.heap[mb]? = some (.cells MSG 52 (0, 0))
section
variable {w u u' : World} {mb : Nat} {SCH TRE MSG : Array Value}
theorem RtW.goes (h : RtW w mb SCH TRE MSG u) (hb : Below u.heap.size u u') : RtW w mb SCH TRE MSG u' :=
  ⟨vbel h.t_bel hb, (hb.block _ (lt_of_block h.t_s)).trans h.t_s, (hb.block _ (lt_of_block h.t_x)).trans h.t_x, (hb.block _ (lt_of_block h.t_m)).trans h.t_m⟩
theorem RtW.grows (h : RtW w mb SCH TRE MSG u) {base n : Nat} {v : Value} {ts : List (List UInt8)} (ho : u.ownsRow base 9 1 v n (txts ts)) (hb : w.heap.size ≤ base) (hg : u.grownBy u' v.ownBlock) : RtW w mb SCH TRE MSG u' :=
  ⟨h.t_bel.grown hg h.t_bel.size (fun k hk => Nat.le_trans hb (ho.lt k hk).1), own_beside ho h.t_s (by decide) hg, own_beside ho h.t_x (by decide) hg, own_beside ho h.t_m (by decide) hg⟩
theorem RtW.cells {A A2 B B2 A1 A3 : Option Addr} {ne ca nm ca2 na cb nr cr nf c1 nb c3 : Nat} {sn : ByteArray} (h : RtW w mb #[.slice A ne ca, .slice A2 nm ca2] #[.slice B na cb, .slice B2 nr cr] #[.string sn, .slice A1 nf c1, .slice A3 nb c3] u) : (u.cell? ⟨w.heap.size, 0, none⟩ = some (.slice A ne ca) ∧ u.cell? ⟨w.heap.size, 1, none⟩ = some (.slice A2 nm ca2)) ∧ (u.cell? ⟨w.heap.size + 1, 0, none⟩ = some (.slice B na cb) ∧ u.cell? ⟨w.heap.size + 1, 1, none⟩ = some (.slice B2 nr cr)) ∧ (u.cell? ⟨mb, 0, none⟩ = some (.string sn) ∧ u.cell? ⟨mb, 1, none⟩ = some (.slice A1 nf c1) ∧ u.cell? ⟨mb, 2, none⟩ = some (.slice A3 nb c3)) :=
  ⟨⟨obj_cell h.t_s 0, obj_cell h.t_s 1⟩, ⟨obj_cell h.t_x 0, obj_cell h.t_x 1⟩, obj_cell h.t_m 0, obj_cell h.t_m 1, obj_cell h.t_m 2⟩
theorem rtw_made {w w2 : World} {SCH TRE : Array Value} (h2 : Bx2 w w2 (.cells SCH 25 (0, 0)) (.cells TRE 29 (0, 0))) (MSG : Array Value) : RtW w w2.heap.size SCH TRE MSG ((w2.alloc (.cells MSG 52)).alloc (.cells #[] 9)) := by
  have hb1 : Below w2.heap.size w2 (w2.alloc (.cells MSG 52)) := (Below.refl _ _).alloc (Nat.le_refl _) _
  have hm := heap_alloc_new w2 (.cells MSG 52)
  have hb2 : Below (w2.alloc (.cells MSG 52)).heap.size (w2.alloc (.cells MSG 52)) ((w2.alloc (.cells MSG 52)).alloc (.cells #[] 9)) := (Below.refl _ _).alloc (Nat.le_refl _) _
  have h3 := bx2_step (bx2_step h2 hb1) hb2
  exact ⟨h3.b2_bel, h3.b2_one, h3.b2_two, (hb2.block _ (lt_of_block hm)).trans hm⟩
end

set_option maxHeartbeats 40000000 in
theorem rvtree_step {s : Sc} {n : Nat} (H : ∀ k, n = k + 1 → RTree s k) : RTree s n := by
  intro SS S w A ne ca A2 nm ca2 name B na cb B2 nr cr x env h hx hf ho
  have HBX := Lib.hid (bx2_start w #[.slice A ne ca, .slice A2 nm ca2] #[.slice B na cb, .slice B2 nr cr] 25 29)
  have s0 := obj_cell HBX.out.b2_one 0
  have s1 := obj_cell HBX.out.b2_one 1
  have HM := Lib.hid (fun u (hb : Below w.heap.size w u) => rvmessage_any u (scAt_bel h hb) name)
  obtain ⟨k1, k2, k3, k4⟩ := scAt_max h
  obtain ⟨q1, q2, q3, q4⟩ := trAt_max hx
  rcases msg_way s name with ⟨hn1, hn2⟩ | ⟨mi, m, hn1, him, hn2⟩
  · rw [treeN_none hn2]
    rw [hn1] at HM
    clear H env h hx hf ho hn1 hn2
    generalize strOf name = sm at *
    go_enter Tryd.func10, Tryd.ntmps10
    go_wp2_with (go_at_call 15; refine (HM.out _ HBX.out.b2_bel).mono ?_; rintro e w2 ⟨rfl, hb⟩; replace HBX := Lib.hid (bx2_step HBX.out hb); clear hb)
    go_ret
    exact ⟨rfl, HBX.out.b2_bel⟩
  have HE := Lib.hid (treeN_some (k := n) (t := x) hn2)
  have hi2 := (List.getElem?_eq_some_iff.mp him).1
  rw [hn1] at HM
  obtain ⟨ge, oe, A1, c1, A3, c3, rfl, _, hc, hl, hl2⟩ := ms_at h.s_m him
  have HC := Lib.hid hc
  have p1 := hl.l_le
  have p2 := hl.l_max
  unfold maxLen at p2
  have HXS := Lib.hid hx.t_s
  have HXR := Lib.hid hx.t_r
  have HNA := Lib.hid hx.t_ns
  have HNR := Lib.hid hx.t_nr
  have h1000 : na ≤ 1000 := by have := hf.1; have := hx.t_ns; omega
  have HSLOT := Lib.hid (fun u (hb : Below w.heap.size w u) (y : Slt) (hm : y ∈ x.slots) C cc (hv : VsAt S n u C cc y.svals) => rvslot_any H u (env.goesOn hb) (scAt_bel h hb) (strOf m.name) (lst_keep (S' := SS 1) hl fdR_keep (fun _ h => h) (bel_keep hb)) (lst_keep (S' := SS 2) hl2 inR_keep (fun _ h => h) (bel_keep hb)) rfl rfl y hv (fit_slots hf hm) (bit_slots ho hm))
  have HNUM := Lib.hid (fun u (hb : Below w.heap.size w u) (t : Int) => rxnumber_any u (strOf m.name) (lst_keep (S' := SS 1) hl fdR_keep (fun _ h => h) (bel_keep hb)) (lst_keep (S' := SS 2) hl2 inR_keep (fun _ h => h) (bel_keep hb)) rfl rfl t)
  have HFD : Hid (∀ (i : Nat) f, m.fields[i]? = some f → ∃ gf of, A1 = some ⟨gf, of, none⟩ ∧ ∀ u, Below w.heap.size w u → u.cell? ⟨gf, of + i * 7 + 6, none⟩ = some (.string (strOf f.one))) := Lib.hid (fun i f hi => by
    obtain ⟨gf, of, e, _, hcf⟩ := fd_at hl hi
    exact ⟨gf, of, e, fun u hu => (hcf u hu).2.2.2.2.2.2⟩)
  have HRIGHT := Lib.hid (fun r u => rraw_right r u)
  obtain ⟨sl, hsl⟩ : ∃ sl, sl = x.slots := ⟨_, rfl⟩
  obtain ⟨rl, hrl⟩ : ∃ rl, rl = x.rest := ⟨_, rfl⟩
  obtain ⟨V, hV⟩ : ∃ V, V = treeN s n := ⟨_, rfl⟩
  rw [← hsl] at HE HXS HNA HSLOT
  rw [← hrl] at HE HXR HNR
  rw [← hV] at HE HSLOT
  rw [HE.out]
  have hmi : mi < nm := by have := h.s_nm; omega
  have e1 : decide ((mi : Int) < 0) = false := decide_eq_false (by omega)
  have e2 : decide ((mi : Int) < (nm : Int)) = true := decide_eq_true (by omega)
  obtain ⟨nf, hnf⟩ : ∃ nf, nf = m.fields.length := ⟨_, rfl⟩
  obtain ⟨nb, hnb⟩ : ∃ nb, nb = m.barred.length := ⟨_, rfl⟩
  obtain ⟨sn, hsn⟩ : ∃ sn, sn = strOf m.name := ⟨_, rfl⟩
  rw [← hnf] at HC HSLOT HNUM p1
  rw [← hnb] at HC HSLOT HNUM
  rw [← hsn] at HC HSLOT HNUM
  have HNF := Lib.hid hnf
  clear H env h hx hf ho hn1 hn2 hi2 hc hl hl2 him hsl hrl hV hnf hnb hsn HE
  generalize strOf name = sm at *
  go_enter Tryd.func10, Tryd.ntmps10
  go_wp2_with (go_at_call 15; refine (HM.out _ HBX.out.b2_bel).mono ?_; rintro e w2 ⟨rfl, hb⟩; replace HBX := Lib.hid (bx2_step HBX.out hb); have s1 := obj_cell HBX.out.b2_one 1; obtain ⟨c0, c1', c2⟩ := HC.out _ HBX.out.b2_bel; clear hb)
  have HW0 := Lib.hid (rtw_made HBX.out #[.string sn, .slice A1 nf c1, .slice A3 nb c3])
  have hob := own_block0 (W := (w2.alloc (.cells #[.string sn, .slice A1 nf c1, .slice A3 nb c3] 52)).alloc (.cells #[] 9)) (g := w2.heap.size + 1) (base := w.heap.size) (by have := heap_alloc_new (w2.alloc (.cells #[.string sn, .slice A1 nf c1, .slice A3 nb c3] 52)) (.cells #[] 9); rwa [World.size_alloc] at this) (by have := HBX.out.b2_bel.size; omega)
  have HO0 := Lib.hid hob
  clear hob c0 c1' c2 s1
  go_loopg [9, 10] na (fun gz x9 x10 wr => ∃ (i : Nat) (vl : Value), x10 = .int .i64 (i : Int) ∧ vl = x9 ∧ i + gz = na ∧ OkTo V m sl i ∧ RtW w w2.heap.size #[.slice A ne ca, .slice (some ⟨ge, oe, none⟩) nm ca2] #[.slice B na cb, .slice B2 nr cr] #[.string sn, .slice A1 nf c1, .slice A3 nb c3] wr ∧ wr.ownsRow w.heap.size 9 1 vl i (txts ((sl.take i).map (oneAt m))))
  case atStart => exact ⟨0, _, rfl, rfl, by omega, okTo_none, HW0.out, HO0.out⟩
  case round =>
    obtain ⟨i, vl, rfl, rfl, hi, hok, hw, hown⟩ := hrel
    have HOK := Lib.hid hok
    have HW := Lib.hid hw
    have HOW := Lib.hid hown
    clear hok hw hown HW0 HO0
    obtain ⟨gn, hgn⟩ : ∃ gn, gn = gk := ⟨_, rfl⟩
    subst hgn
    obtain ⟨⟨a0, a1⟩, ⟨t0, t1⟩, m0, m1, m2⟩ := HW.out.cells
    by_cases hlt : i < na
    · have ti : decide ((i : Int) < (na : Int)) = true := decide_eq_true (by omega)
      obtain ⟨y, hy⟩ : ∃ y, sl[i]? = some y := ⟨_, List.getElem?_eq_getElem (by have := HNA.out; omega)⟩
      have HY := Lib.hid hy
      obtain ⟨gv, ov, C, cc, hB, _, hcy, hvy⟩ := sl_at HXS.out hy
      subst hB
      have HCY : Hid (∀ u, Below w.heap.size w u → u.cell? ⟨gv, ov + i * 2, none⟩ = some (.int .i64 y.snum) ∧ u.cell? ⟨gv, ov + i * 2 + 1, none⟩ = some (.slice C y.svals.length cc)) := Lib.hid (fun u hb => hcy u (stay_bel hb))
      have HS := Lib.hid (fun u (hb : Below w.heap.size w u) => HSLOT.out u hb y (List.mem_of_getElem? hy) C cc (vsAt_bel hvy hb))
      have HNY := Lib.hid (fun u (hb : Below w.heap.size w u) => HNUM.out u hb y.snum)
      have hfw := fld_way m y.snum
      obtain ⟨b, hb⟩ : ∃ b, b = slotT V m y := ⟨_, rfl⟩
      have HB := Lib.hid hb
      rw [← hb] at HS
      clear hy hcy hvy hb
      obtain ⟨zy, hzy⟩ : ∃ z, z = y.snum := ⟨_, rfl⟩
      have HZY := Lib.hid hzy
      rw [← hzy] at HCY HS HNY
      obtain ⟨ly, hly⟩ : ∃ z, z = y.svals.length := ⟨_, rfl⟩
      rw [← hly] at HCY HS
      clear hzy hly
      have gw : IntKind.i64.wrap (i : Int) = (i : Int) := IntWalk.i64_in _ (by omega)
      by_cases hi0 : i = 0
      · have g0 : decide ((i : Int) > 0) = false := decide_eq_false (by omega)
        have g1 : decide (0 < i) = false := decide_eq_false (by omega)
        have g2 : decide ((0 : Int) < (i : Int)) = false := decide_eq_false (by omega)
        have g3 : ¬ 0 < i := by omega
        have HI0 := Lib.hid hi0
        clear hi0
        replace HW := Lib.hid (HW.out.goes (drewN_under _ 1))
        go_wp2
        refine wp_region_noPanic ?_
        refine wp_region_held_drew (S := fun u => ((u.cell? ⟨w.heap.size, 0, none⟩ = some (.slice A ne ca) ∧ u.cell? ⟨w.heap.size, 1, none⟩ = some (.slice (some ⟨ge, oe, none⟩) nm ca2)) ∧ (u.cell? ⟨w.heap.size + 1, 0, none⟩ = some (.slice (some ⟨gv, ov, none⟩) na cb) ∧ u.cell? ⟨w.heap.size + 1, 1, none⟩ = some (.slice B2 nr cr)) ∧ (u.cell? ⟨w2.heap.size, 0, none⟩ = some (.string sn) ∧ u.cell? ⟨w2.heap.size, 1, none⟩ = some (.slice A1 nf c1) ∧ u.cell? ⟨w2.heap.size, 2, none⟩ = some (.slice A3 nb c3))) ∧ (u.cell? ⟨gv, ov + i * 2, none⟩ = some (.int .i64 zy) ∧ u.cell? ⟨gv, ov + i * 2 + 1, none⟩ = some (.slice C ly cc))) (by kernel_rfl) ⟨HW.out.cells, HCY.out _ HW.out.t_bel⟩ (fun hHeld => ?_)
        refine take_at (i := 0) (v := ?_) rfl (by kernel_rfl) (by kernel_rfl) (by kernel_rfl) (fun _ _ _ h => h) (Or.inl ⟨by rfl, ?_⟩) hHeld ?_
        case refine_2 => (intro w hSw; (try dsimp only at hSw); go_simp <;> with_reducible rfl)
        try simp only [Act.put, List.setIfInBounds_toArray, List.set_cons_zero, List.set_cons_succ]
        refine take_at (i := 1) (v := .bool false) rfl (by kernel_rfl) (by kernel_rfl) (by kernel_rfl) (fun _ _ _ h => h) (Or.inl ⟨by rfl, ?_⟩) hHeld ?_
        case refine_1 => (intro w hSw; (try dsimp only at hSw); go_simp <;> with_reducible rfl)
        try simp only [Act.put, List.setIfInBounds_toArray, List.set_cons_zero, List.set_cons_succ]
        refine take_at (i := 2) (v := ?_) rfl (by kernel_rfl) (by kernel_rfl) (by kernel_rfl) (fun _ _ _ h => h) (Or.inl ⟨by rfl, ?_⟩) hHeld ?_
        case refine_2 => (intro w hSw; (try dsimp only at hSw); go_simp <;> with_reducible rfl)
        try simp only [Act.put, List.setIfInBounds_toArray, List.set_cons_zero, List.set_cons_succ]
        refine take_at (i := 3) (v := undef) rfl (by kernel_rfl) (by kernel_rfl) (by kernel_rfl) (fun _ _ _ h => h) (Or.inr ⟨by rfl, rfl⟩) hHeld ?_
        try simp only [Act.put, List.setIfInBounds_toArray, List.set_cons_zero, List.set_cons_succ]
        refine take_at (i := 4) (v := undef) rfl (by kernel_rfl) (by kernel_rfl) (by kernel_rfl) (fun _ _ _ h => h) (Or.inr ⟨by rfl, rfl⟩) hHeld ?_
        try simp only [Act.put, List.setIfInBounds_toArray, List.set_cons_zero, List.set_cons_succ]
        refine take_at (i := 5) (v := undef) rfl (by kernel_rfl) (by kernel_rfl) (by kernel_rfl) (fun _ _ _ h => h) (Or.inr ⟨by rfl, rfl⟩) hHeld ?_
        try simp only [Act.put, List.setIfInBounds_toArray, List.set_cons_zero, List.set_cons_succ]
        refine take_at (i := 6) (v := undef) rfl (by kernel_rfl) (by kernel_rfl) (by kernel_rfl) (fun _ _ _ h => h) (Or.inr ⟨by rfl, rfl⟩) hHeld ?_
        try simp only [Act.put, List.setIfInBounds_toArray, List.set_cons_zero, List.set_cons_succ]
        refine take_at (i := 7) (v := undef) rfl (by kernel_rfl) (by kernel_rfl) (by kernel_rfl) (fun _ _ _ h => h) (Or.inr ⟨by rfl, rfl⟩) hHeld ?_
        try simp only [Act.put, List.setIfInBounds_toArray, List.set_cons_zero, List.set_cons_succ]
        refine take_at (i := 8) (v := undef) rfl (by kernel_rfl) (by kernel_rfl) (by kernel_rfl) (fun _ _ _ h => h) (Or.inr ⟨by rfl, rfl⟩) hHeld ?_
        try simp only [Act.put, List.setIfInBounds_toArray, List.set_cons_zero, List.set_cons_succ]
        refine take_at (i := 9) (v := undef) rfl (by kernel_rfl) (by kernel_rfl) (by kernel_rfl) (fun _ _ _ h => h) (Or.inr ⟨by rfl, rfl⟩) hHeld ?_
        try simp only [Act.put, List.setIfInBounds_toArray, List.set_cons_zero, List.set_cons_succ]
        refine take_at (i := 10) (v := undef) rfl (by kernel_rfl) (by kernel_rfl) (by kernel_rfl) (fun _ _ _ h => h) (Or.inr ⟨by rfl, rfl⟩) hHeld ?_
        try simp only [Act.put, List.setIfInBounds_toArray, List.set_cons_zero, List.set_cons_succ]
        refine take_at (i := 11) (v := undef) rfl (by kernel_rfl) (by kernel_rfl) (by kernel_rfl) (fun _ _ _ h => h) (Or.inr ⟨by rfl, rfl⟩) hHeld ?_
        try simp only [Act.put, List.setIfInBounds_toArray, List.set_cons_zero, List.set_cons_succ]
        refine take_at (i := 12) (v := undef) rfl (by kernel_rfl) (by kernel_rfl) (by kernel_rfl) (fun _ _ _ h => h) (Or.inr ⟨by rfl, rfl⟩) hHeld ?_
        try simp only [Act.put, List.setIfInBounds_toArray, List.set_cons_zero, List.set_cons_succ]
        refine take_at (i := 13) (v := undef) rfl (by kernel_rfl) (by kernel_rfl) (by kernel_rfl) (fun _ _ _ h => h) (Or.inr ⟨by rfl, rfl⟩) hHeld ?_
        try simp only [Act.put, List.setIfInBounds_toArray, List.set_cons_zero, List.set_cons_succ]
        refine take_at (i := 14) (v := undef) rfl (by kernel_rfl) (by kernel_rfl) (by kernel_rfl) (fun _ _ _ h => h) (Or.inr ⟨by rfl, rfl⟩) hHeld ?_
        try simp only [Act.put, List.setIfInBounds_toArray, List.set_cons_zero, List.set_cons_succ]
        refine take_at (i := 15) (v := undef) rfl (by kernel_rfl) (by kernel_rfl) (by kernel_rfl) (fun _ _ _ h => h) (Or.inr ⟨by rfl, rfl⟩) hHeld ?_
        try simp only [Act.put, List.setIfInBounds_toArray, List.set_cons_zero, List.set_cons_succ]
        refine take_at (i := 16) (v := undef) rfl (by kernel_rfl) (by kernel_rfl) (by kernel_rfl) (fun _ _ _ h => h) (Or.inr ⟨by rfl, rfl⟩) hHeld ?_
        try simp only [Act.put, List.setIfInBounds_toArray, List.set_cons_zero, List.set_cons_succ]
        refine take_at (i := 17) (v := ?_) rfl (by kernel_rfl) (by kernel_rfl) (by kernel_rfl) (fun _ _ _ h => h) (Or.inl ⟨by rfl, ?_⟩) hHeld ?_
        case refine_2 => (intro w hSw; (try dsimp only at hSw); go_simp <;> with_reducible rfl)
        try simp only [Act.put, List.setIfInBounds_toArray, List.set_cons_zero, List.set_cons_succ]
        refine take_at (i := 18) (v := ?_) rfl (by kernel_rfl) (by kernel_rfl) (by kernel_rfl) (fun _ _ _ h => h) (Or.inl ⟨by rfl, ?_⟩) hHeld ?_
        case refine_2 => (intro w hSw; (try dsimp only at hSw); go_simp <;> with_reducible rfl)
        try simp only [Act.put, List.setIfInBounds_toArray, List.set_cons_zero, List.set_cons_succ]
        refine take_at (i := 19) (v := ?_) rfl (by kernel_rfl) (by kernel_rfl) (by kernel_rfl) (fun _ _ _ h => h) (Or.inl ⟨by rfl, ?_⟩) hHeld ?_
        case refine_2 => (intro w hSw; (try dsimp only at hSw); go_simp <;> with_reducible rfl)
        try simp only [Act.put, List.setIfInBounds_toArray, List.set_cons_zero, List.set_cons_succ]
        refine take_at (i := 20) (v := ?_) rfl (by kernel_rfl) (by kernel_rfl) (by kernel_rfl) (fun _ _ _ h => h) (Or.inl ⟨by rfl, ?_⟩) hHeld ?_
        case refine_2 => (intro w hSw; (try dsimp only at hSw); go_simp <;> with_reducible rfl)
        try simp only [Act.put, List.setIfInBounds_toArray, List.set_cons_zero, List.set_cons_succ]
        refine take_at (i := 21) (v := ?_) rfl (by kernel_rfl) (by kernel_rfl) (by kernel_rfl) (fun _ _ _ h => h) (Or.inl ⟨by rfl, ?_⟩) hHeld ?_
        case refine_2 => (intro w hSw; (try dsimp only at hSw); go_simp <;> with_reducible rfl)
        try simp only [Act.put, List.setIfInBounds_toArray, List.set_cons_zero, List.set_cons_succ]
        refine take_at (i := 22) (v := ?_) rfl (by kernel_rfl) (by kernel_rfl) (by kernel_rfl) (fun _ _ _ h => h) (Or.inl ⟨by rfl, ?_⟩) hHeld ?_
        case refine_2 => (intro w hSw; (try dsimp only at hSw); go_simp <;> with_reducible rfl)
        try simp only [Act.put, List.setIfInBounds_toArray, List.set_cons_zero, List.set_cons_succ]
        refine take_at (i := 23) (v := ?_) rfl (by kernel_rfl) (by kernel_rfl) (by kernel_rfl) (fun _ _ _ h => h) (Or.inl ⟨by rfl, ?_⟩) hHeld ?_
        case refine_2 => (intro w hSw; (try dsimp only at hSw); go_simp <;> with_reducible rfl)
        try simp only [Act.put, List.setIfInBounds_toArray, List.set_cons_zero, List.set_cons_succ]
        refine take_at (i := 24) (v := ?_) rfl (by kernel_rfl) (by kernel_rfl) (by kernel_rfl) (fun _ _ _ h => h) (Or.inl ⟨by rfl, ?_⟩) hHeld ?_
        case refine_2 => (intro w hSw; (try dsimp only at hSw); go_simp <;> with_reducible rfl)
        try simp only [Act.put, List.setIfInBounds_toArray, List.set_cons_zero, List.set_cons_succ]
        refine take_at (i := 25) (v := ?_) rfl (by kernel_rfl) (by kernel_rfl) (by kernel_rfl) (fun _ _ _ h => h) (Or.inl ⟨by rfl, ?_⟩) hHeld ?_
        case refine_2 => (intro w hSw; (try dsimp only at hSw); go_simp <;> with_reducible rfl)
        try simp only [Act.put, List.setIfInBounds_toArray, List.set_cons_zero, List.set_cons_succ]
        refine wpAnyH_ready (rs := [26]) (by kernel_rfl) (by simp) ?_
        refine ready_at (i := 26) rfl (fun K hK => ?_)
        go_simp
        go_at_call 28; refine (HS.out _ HW.out.t_bel).mono ?_; rintro e w3 ⟨rfl, hb⟩; have HB3 := Lib.hid (vbel (drewN_under wr 1) hb); replace HW := Lib.hid (HW.out.goes hb); clear hb
        clear hHeld
        refine hK.out _ _ (⟨HW.out.cells, HCY.out _ HW.out.t_bel⟩) (fun hHeld => ?_)
        clear hK K
        try simp only [Act.put, List.setIfInBounds_toArray, List.set_cons_zero, List.set_cons_succ]
        refine take_at (i := 27) (v := ?_) rfl (by kernel_rfl) (by kernel_rfl) (by kernel_rfl) (fun _ _ _ h => h) (Or.inl ⟨by rfl, ?_⟩) hHeld ?_
        case refine_2 => (intro w hSw; (try dsimp only at hSw); go_simp <;> with_reducible rfl)
        try simp only [Act.put, List.setIfInBounds_toArray, List.set_cons_zero, List.set_cons_succ]
        refine take_at (i := 28) (v := ?_) rfl (by kernel_rfl) (by kernel_rfl) (by kernel_rfl) (fun _ _ _ h => h) (Or.inl ⟨by rfl, ?_⟩) hHeld ?_
        case refine_2 => (intro w hSw; (try dsimp only at hSw); go_simp <;> with_reducible rfl)
        try simp only [Act.put, List.setIfInBounds_toArray, List.set_cons_zero, List.set_cons_succ]
        refine wpAnyH_done (by kernel_rfl) ?_ _
        refine NoPanic.normal ?_
        clear hHeld
        cases b with
        | false =>
          have hbad := bad_slot (V := V) (m := m) HY.out (okS_no HB.out.symm)
          go_wp2
          go_ret
          refine ⟨?_, HW.out.t_bel⟩
          rw [hbad]
          simp
        | true =>
          rcases hfw with ⟨_, hfn⟩ | ⟨fi, f, hfn, hfi, hff⟩
          · have := HB.out; unfold slotT at this; rw [hfn] at this; cases this
          have hon : oneAt m y = f.one := by unfold oneAt; rw [hff]
          rw [← HZY.out] at hfn
          rw [hfn] at HNY
          obtain ⟨gf, of, hA1, hcf⟩ := HFD.out fi f hfi
          subst hA1
          have hfi9 : fi < nf := by have := (List.getElem?_eq_some_iff.mp hfi).1; have := HNF.out; omega
          have e3 : decide ((fi : Int) < (nf : Int)) = true := decide_eq_true (by omega)
          obtain ⟨one, hone⟩ : ∃ one, one = f.one := ⟨_, rfl⟩
          rw [← hone] at hcf hon
          have HON := Lib.hid hon
          have HCF := Lib.hid hcf
          clear hfn hfi hff hon hcf hone
          obtain ⟨so, hso⟩ : ∃ so, so = strOf one := ⟨_, rfl⟩
          have HSO := Lib.hid hso
          rw [← hso] at HCF
          clear hso
          have HWY := HW
          replace HW := Lib.hid (HW.out.goes (drewN_under _ 1))
          replace HB3 := Lib.hid (vbel HB3.out (drewN_under _ 1))
          go_wp2
          go_region_held3 (fun u => (((u.cell? ⟨w.heap.size, 0, none⟩ = some (.slice A ne ca) ∧ u.cell? ⟨w.heap.size, 1, none⟩ = some (.slice (some ⟨ge, oe, none⟩) nm ca2)) ∧ (u.cell? ⟨w.heap.size + 1, 0, none⟩ = some (.slice (some ⟨gv, ov, none⟩) na cb) ∧ u.cell? ⟨w.heap.size + 1, 1, none⟩ = some (.slice B2 nr cr)) ∧ (u.cell? ⟨w2.heap.size, 0, none⟩ = some (.string sn) ∧ u.cell? ⟨w2.heap.size, 1, none⟩ = some (.slice (some ⟨gf, of, none⟩) nf c1) ∧ u.cell? ⟨w2.heap.size, 2, none⟩ = some (.slice A3 nb c3))) ∧ (u.cell? ⟨gv, ov + i * 2, none⟩ = some (.int .i64 zy) ∧ u.cell? ⟨gv, ov + i * 2 + 1, none⟩ = some (.slice C ly cc))) ∧ u.cell? ⟨gf, of + fi * 7 + 6, none⟩ = some (.string so))
            (first | exact ⟨⟨HW.out.cells, HCY.out _ HW.out.t_bel⟩, HCF.out _ HW.out.t_bel⟩ | exact ⟨⟨HWY.out.cells, HCY.out _ HWY.out.t_bel⟩, HCF.out _ HWY.out.t_bel⟩)
            (first
              | (go_at_call 29; refine (HNY.out _ HW.out.t_bel).mono ?_; rintro e w4 ⟨rfl, hb⟩; have HB4 := Lib.hid (vbel HB3.out hb); replace HW := Lib.hid (HW.out.goes hb); clear hb))
          have hown4 := own_below HOW.out HB4.out
          have HO4 := Lib.hid hown4
          have HTW := Lib.hid (txt_ways one)
          rw [← HSO.out] at HTW
          obtain ⟨oe', hoe'⟩ : ∃ b, b = decide (one = []) := ⟨_, rfl⟩
          rw [← hoe'] at HTW
          have HOE := Lib.hid hoe'
          have htw := HTW.out
          clear hown4 HTW hoe'
          obtain ⟨ones, hones⟩ : ∃ ones, ones = (sl.take i).map (oneAt m) := ⟨_, rfl⟩
          have HONES := Lib.hid hones
          have hol : ones.length = i := by rw [hones]; exact ones_len (by have := HNA.out; omega)
          have HOL := Lib.hid hol
          rw [← hones] at HO4
          obtain ⟨Ao, co, rfl, hco1, hco2⟩ : ∃ Ao co, vl = .slice Ao i co ∧ i ≤ co ∧ co ≤ 9223372036854775807 := by
            obtain ⟨A', c', h1, h2, h3, _⟩ := own_form HO4.out
            exact ⟨A', c', h1, h2, by unfold maxLen at h3; omega⟩
          clear hones hol HWY
          rcases htw with ⟨rfl, o1, o2⟩ | ⟨rfl, o1, o2⟩
          · go_wp2
            go_loopg [12] i (fun gz x0 wq => ∃ q : Nat, x0 = .int .i64 (q : Int) ∧ q + gz = i ∧ (∀ (j : Nat) t, j < q → ones[j]? = some t → ¬ (t = one ∧ ¬ one = [])) ∧ wq = w4)
            case atStart => exact ⟨0, rfl, by omega, (fun j t hj => absurd hj (Nat.not_lt_zero _)), rfl⟩
            case round =>
              obtain ⟨q, rfl, hq, hall, hwq⟩ := hrel
              subst hwq
              have HALL := Lib.hid hall
              clear hall
              obtain ⟨g1, hg1⟩ : ∃ g1, g1 = gk := ⟨_, rfl⟩
              subst hg1
              by_cases hltq : q < i
              · exact absurd hltq (by have := HI0.out; omega)
              · have tq : decide ((q : Int) < (i : Int)) = false := decide_eq_false (by omega)
                have hgood : okS V m sl y i = true := okS_free HB.out.symm (fun j t hj ht => by rw [HON.out]; exact HALL.out j t (by omega) (by rw [HONES.out]; exact ht))
                have HGOOD := Lib.hid hgood
                clear hgood
                go_wp2_with (at_builtin; refine wpList_append_sl rfl _ _ rfl w.heap.size _ _ _ rfl (own_below HO4.out ((Below.refl _ _).alloc (Nat.le_refl _) _)) _ 1 1 [one] rfl rfl (sl_txt1 _ _ _ _ HSO.out) (by have := HOL.out; show _ + 1 ≤ 1000000; omega) (by have := HW.out.t_bel.size; simp; omega) ?_; intro va3 w6 ho hg; have HO6 := Lib.hid ho; have HG6 := Lib.hid hg; clear ho hg)
                go_roundg (gn - 1)
                case measure => omega
                case rel =>
                  refine ⟨i + 1, _, by go_num, rfl, by omega, okTo_more HOK.out HY.out HGOOD.out (fun q p hq => by have := HI0.out; omega), (HW.out.goes ((Below.refl _ _).alloc (Nat.le_refl _) _)).grows (own_below HO4.out ((Below.refl _ _).alloc (Nat.le_refl _) _)) (Nat.le_refl _) HG6.out, ?_⟩
                  rw [ones_more HY.out, HON.out, ← HONES.out]
                  have h := HO6.out
                  rw [HOL.out] at h
                  exact h
          · go_wp2
            go_loopg [12] i (fun gz x0 wq => ∃ q : Nat, x0 = .int .i64 (q : Int) ∧ q + gz = i ∧ (∀ (j : Nat) t, j < q → ones[j]? = some t → ¬ (t = one ∧ ¬ one = [])) ∧ wq = w4)
            case atStart => exact ⟨0, rfl, by omega, (fun j t hj => absurd hj (Nat.not_lt_zero _)), rfl⟩
            case round =>
              obtain ⟨q, rfl, hq, hall, hwq⟩ := hrel
              subst hwq
              have HALL := Lib.hid hall
              clear hall
              obtain ⟨g1, hg1⟩ : ∃ g1, g1 = gk := ⟨_, rfl⟩
              subst hg1
              by_cases hltq : q < i
              · exact absurd hltq (by have := HI0.out; omega)
              · have tq : decide ((q : Int) < (i : Int)) = false := decide_eq_false (by omega)
                have hgood : okS V m sl y i = true := okS_free HB.out.symm (fun j t hj ht => by rw [HON.out]; exact HALL.out j t (by omega) (by rw [HONES.out]; exact ht))
                have HGOOD := Lib.hid hgood
                clear hgood
                go_wp2_with (at_builtin; refine wpList_append_sl rfl _ _ rfl w.heap.size _ _ _ rfl (own_below HO4.out ((Below.refl _ _).alloc (Nat.le_refl _) _)) _ 1 1 [one] rfl rfl (sl_txt1 _ _ _ _ HSO.out) (by have := HOL.out; show _ + 1 ≤ 1000000; omega) (by have := HW.out.t_bel.size; simp; omega) ?_; intro va3 w6 ho hg; have HO6 := Lib.hid ho; have HG6 := Lib.hid hg; clear ho hg)
                go_roundg (gn - 1)
                case measure => omega
                case rel =>
                  refine ⟨i + 1, _, by go_num, rfl, by omega, okTo_more HOK.out HY.out HGOOD.out (fun q p hq => by have := HI0.out; omega), (HW.out.goes ((Below.refl _ _).alloc (Nat.le_refl _) _)).grows (own_below HO4.out ((Below.refl _ _).alloc (Nat.le_refl _) _)) (Nat.le_refl _) HG6.out, ?_⟩
                  rw [ones_more HY.out, HON.out, ← HONES.out]
                  have h := HO6.out
                  rw [HOL.out] at h
                  exact h
      · obtain ⟨j, hj⟩ : ∃ j, j + 1 = i := ⟨i - 1, by omega⟩
        have g0 : decide ((i : Int) > 0) = true := decide_eq_true (by omega)
        have g1 : decide (0 < i) = true := decide_eq_true (by omega)
        have g2 : decide ((0 : Int) < (i : Int)) = true := decide_eq_true (by omega)
        have g0' : 0 < i := by omega
        have gx : (i : Int) - 1 = (j : Int) := by omega
        have gx2 : IntKind.i64.wrap ((i : Int) - 1) = (j : Int) := by rw [gx]; exact IntWalk.i64_in _ (by omega)
        have gx3 : IntKind.i64.wrap (j : Int) = (j : Int) := IntWalk.i64_in _ (by omega)
        have gj : decide ((j : Int) < (na : Int)) = true := decide_eq_true (by omega)
        have gj2 : j < na := by omega
        have gj3 : (0 : Int) ≤ (j : Int) := by omega
        obtain ⟨p, hp⟩ : ∃ p, sl[j]? = some p := ⟨_, List.getElem?_eq_getElem (by have := HNA.out; omega)⟩
        have HP := Lib.hid hp
        obtain ⟨gv', ov', C', cc', hB', _, hcp, _⟩ := sl_at HXS.out hp
        injection hB' with hB'
        injection hB' with hB1 hB2
        subst hB1 hB2
        have HCP : Hid (∀ u, Below w.heap.size w u → u.cell? ⟨gv, ov + j * 2, none⟩ = some (.int .i64 p.snum)) := Lib.hid (fun u hb => (hcp u (stay_bel hb)).1)
        obtain ⟨zp, hzp⟩ : ∃ z, z = p.snum := ⟨_, rfl⟩
        have HZP := Lib.hid hzp
        rw [← hzp] at HCP
        have HJ := Lib.hid hj
        clear hp hcp hzp hj
        by_cases hzz : zp < zy
        · have g3 : decide (zp ≥ zy) = false := decide_eq_false (by omega)
          have g4 : decide (zy ≤ zp) = false := decide_eq_false (by omega)
          have HZZ := Lib.hid hzz
          clear hzz
          have HWY := HW
          replace HW := Lib.hid (HW.out.goes (drewN_under _ 1))
          go_wp2
          go_region_held3 (fun u => (((u.cell? ⟨w.heap.size, 0, none⟩ = some (.slice A ne ca) ∧ u.cell? ⟨w.heap.size, 1, none⟩ = some (.slice (some ⟨ge, oe, none⟩) nm ca2)) ∧ (u.cell? ⟨w.heap.size + 1, 0, none⟩ = some (.slice (some ⟨gv, ov, none⟩) na cb) ∧ u.cell? ⟨w.heap.size + 1, 1, none⟩ = some (.slice B2 nr cr)) ∧ (u.cell? ⟨w2.heap.size, 0, none⟩ = some (.string sn) ∧ u.cell? ⟨w2.heap.size, 1, none⟩ = some (.slice A1 nf c1) ∧ u.cell? ⟨w2.heap.size, 2, none⟩ = some (.slice A3 nb c3))) ∧ (u.cell? ⟨gv, ov + i * 2, none⟩ = some (.int .i64 zy) ∧ u.cell? ⟨gv, ov + i * 2 + 1, none⟩ = some (.slice C ly cc))) ∧ u.cell? ⟨gv, ov + j * 2, none⟩ = some (.int .i64 zp))
            (first | exact ⟨⟨HW.out.cells, HCY.out _ HW.out.t_bel⟩, HCP.out _ HW.out.t_bel⟩ | exact ⟨⟨HWY.out.cells, HCY.out _ HWY.out.t_bel⟩, HCP.out _ HWY.out.t_bel⟩)
            (first
              | (go_at_call 28; refine (HS.out _ HW.out.t_bel).mono ?_; rintro e w3 ⟨rfl, hb⟩; have HB3 := Lib.hid (vbel (drewN_under wr 1) hb); replace HW := Lib.hid (HW.out.goes hb); clear hb))
          clear HWY
          cases b with
          | false =>
            have hbad := bad_slot (V := V) (m := m) HY.out (okS_no HB.out.symm)
            go_wp2
            go_ret
            refine ⟨?_, HW.out.t_bel⟩
            rw [hbad]
            simp
          | true =>
            rcases hfw with ⟨_, hfn⟩ | ⟨fi, f, hfn, hfi, hff⟩
            · have := HB.out; unfold slotT at this; rw [hfn] at this; cases this
            have hon : oneAt m y = f.one := by unfold oneAt; rw [hff]
            rw [← HZY.out] at hfn
            rw [hfn] at HNY
            obtain ⟨gf, of, hA1, hcf⟩ := HFD.out fi f hfi
            subst hA1
            have hfi9 : fi < nf := by have := (List.getElem?_eq_some_iff.mp hfi).1; have := HNF.out; omega
            have e3 : decide ((fi : Int) < (nf : Int)) = true := decide_eq_true (by omega)
            obtain ⟨one, hone⟩ : ∃ one, one = f.one := ⟨_, rfl⟩
            rw [← hone] at hcf hon
            have HON := Lib.hid hon
            have HCF := Lib.hid hcf
            clear hfn hfi hff hon hcf hone
            obtain ⟨so, hso⟩ : ∃ so, so = strOf one := ⟨_, rfl⟩
            have HSO := Lib.hid hso
            rw [← hso] at HCF
            clear hso
            have HWY := HW
            replace HW := Lib.hid (HW.out.goes (drewN_under _ 1))
            replace HB3 := Lib.hid (vbel HB3.out (drewN_under _ 1))
            go_wp2
            go_region_held3 (fun u => (((u.cell? ⟨w.heap.size, 0, none⟩ = some (.slice A ne ca) ∧ u.cell? ⟨w.heap.size, 1, none⟩ = some (.slice (some ⟨ge, oe, none⟩) nm ca2)) ∧ (u.cell? ⟨w.heap.size + 1, 0, none⟩ = some (.slice (some ⟨gv, ov, none⟩) na cb) ∧ u.cell? ⟨w.heap.size + 1, 1, none⟩ = some (.slice B2 nr cr)) ∧ (u.cell? ⟨w2.heap.size, 0, none⟩ = some (.string sn) ∧ u.cell? ⟨w2.heap.size, 1, none⟩ = some (.slice (some ⟨gf, of, none⟩) nf c1) ∧ u.cell? ⟨w2.heap.size, 2, none⟩ = some (.slice A3 nb c3))) ∧ (u.cell? ⟨gv, ov + i * 2, none⟩ = some (.int .i64 zy) ∧ u.cell? ⟨gv, ov + i * 2 + 1, none⟩ = some (.slice C ly cc))) ∧ u.cell? ⟨gf, of + fi * 7 + 6, none⟩ = some (.string so))
              (first | exact ⟨⟨HW.out.cells, HCY.out _ HW.out.t_bel⟩, HCF.out _ HW.out.t_bel⟩ | exact ⟨⟨HWY.out.cells, HCY.out _ HWY.out.t_bel⟩, HCF.out _ HWY.out.t_bel⟩)
              (first
                | (go_at_call 29; refine (HNY.out _ HW.out.t_bel).mono ?_; rintro e w4 ⟨rfl, hb⟩; have HB4 := Lib.hid (vbel HB3.out hb); replace HW := Lib.hid (HW.out.goes hb); clear hb))
            have hown4 := own_below HOW.out HB4.out
            have HO4 := Lib.hid hown4
            have HTW := Lib.hid (txt_ways one)
            rw [← HSO.out] at HTW
            obtain ⟨oe', hoe'⟩ : ∃ b, b = decide (one = []) := ⟨_, rfl⟩
            rw [← hoe'] at HTW
            have HOE := Lib.hid hoe'
            have htw := HTW.out
            clear hown4 HTW hoe'
            obtain ⟨ones, hones⟩ : ∃ ones, ones = (sl.take i).map (oneAt m) := ⟨_, rfl⟩
            have HONES := Lib.hid hones
            have hol : ones.length = i := by rw [hones]; exact ones_len (by have := HNA.out; omega)
            have HOL := Lib.hid hol
            rw [← hones] at HO4
            obtain ⟨Ao, co, rfl, hco1, hco2⟩ : ∃ Ao co, vl = .slice Ao i co ∧ i ≤ co ∧ co ≤ 9223372036854775807 := by
              obtain ⟨A', c', h1, h2, h3, _⟩ := own_form HO4.out
              exact ⟨A', c', h1, h2, by unfold maxLen at h3; omega⟩
            clear hones hol HWY
            rcases htw with ⟨rfl, o1, o2⟩ | ⟨rfl, o1, o2⟩
            · go_wp2
              go_loopg [12] i (fun gz x0 wq => ∃ q : Nat, x0 = .int .i64 (q : Int) ∧ q + gz = i ∧ (∀ (j : Nat) t, j < q → ones[j]? = some t → ¬ (t = one ∧ ¬ one = [])) ∧ wq = w4)
              case atStart => exact ⟨0, rfl, by omega, (fun j t hj => absurd hj (Nat.not_lt_zero _)), rfl⟩
              case round =>
                obtain ⟨q, rfl, hq, hall, hwq⟩ := hrel
                subst hwq
                have HALL := Lib.hid hall
                clear hall
                obtain ⟨g1, hg1⟩ : ∃ g1, g1 = gk := ⟨_, rfl⟩
                subst hg1
                by_cases hltq : q < i
                · have tq : decide ((q : Int) < (i : Int)) = true := decide_eq_true (by omega)
                  go_wp2
                  go_roundg (g1 - 1)
                  case measure => omega
                  case rel => exact ⟨q + 1, by go_num, by omega, (fun j t hj ht he => he.2 (of_decide_eq_true HOE.out.symm)), rfl⟩
                · have tq : decide ((q : Int) < (i : Int)) = false := decide_eq_false (by omega)
                  have hgood : okS V m sl y i = true := okS_free HB.out.symm (fun j t hj ht => by rw [HON.out]; exact HALL.out j t (by omega) (by rw [HONES.out]; exact ht))
                  have HGOOD := Lib.hid hgood
                  clear hgood
                  go_wp2_with (at_builtin; refine wpList_append_sl rfl _ _ rfl w.heap.size _ _ _ rfl (own_below HO4.out ((Below.refl _ _).alloc (Nat.le_refl _) _)) _ 1 1 [one] rfl rfl (sl_txt1 _ _ _ _ HSO.out) (by have := HOL.out; show _ + 1 ≤ 1000000; omega) (by have := HW.out.t_bel.size; simp; omega) ?_; intro va3 w6 ho hg; have HO6 := Lib.hid ho; have HG6 := Lib.hid hg; clear ho hg)
                  go_roundg (gn - 1)
                  case measure => omega
                  case rel =>
                    refine ⟨i + 1, _, by go_num, rfl, by omega, okTo_more HOK.out HY.out HGOOD.out (fun q p2 hq hp2 => by
              have hjq : q = j := by have := HJ.out; omega
              subst hjq
              have e := HP.out.symm.trans hp2
              injection e with e
              rw [← e, ← HZP.out, ← HZY.out]
              exact HZZ.out), (HW.out.goes ((Below.refl _ _).alloc (Nat.le_refl _) _)).grows (own_below HO4.out ((Below.refl _ _).alloc (Nat.le_refl _) _)) (Nat.le_refl _) HG6.out, ?_⟩
                    rw [ones_more HY.out, HON.out, ← HONES.out]
                    have h := HO6.out
                    rw [HOL.out] at h
                    exact h
            · go_wp2
              go_loopg [12] i (fun gz x0 wq => ∃ q : Nat, x0 = .int .i64 (q : Int) ∧ q + gz = i ∧ (∀ (j : Nat) t, j < q → ones[j]? = some t → ¬ (t = one ∧ ¬ one = [])) ∧ wq = w4)
              case atStart => exact ⟨0, rfl, by omega, (fun j t hj => absurd hj (Nat.not_lt_zero _)), rfl⟩
              case round =>
                obtain ⟨q, rfl, hq, hall, hwq⟩ := hrel
                subst hwq
                have HALL := Lib.hid hall
                clear hall
                obtain ⟨g1, hg1⟩ : ∃ g1, g1 = gk := ⟨_, rfl⟩
                subst hg1
                by_cases hltq : q < i
                · have tq : decide ((q : Int) < (i : Int)) = true := decide_eq_true (by omega)
                  obtain ⟨t, ht⟩ : ∃ t, ones[q]? = some t := ⟨_, List.getElem?_eq_getElem (by have := HOL.out; omega)⟩
                  have HT := Lib.hid ht
                  obtain ⟨go, oo, cp, hAo, _, _, hct⟩ := own_text HO4.out ht
                  injection hAo with hAo _ _
                  subst hAo
                  have heq : ((strOf t).toList == so.toList) = decide (t = one) := by rw [HSO.out]; exact strOf_beq t one
                  by_cases hte : t = one
                  · rw [decide_eq_true hte] at heq
                    have heq2 : (strOf t).toList = so.toList := beq_iff_eq.1 heq
                    have hbad := bad_slot (V := V) (m := m) HY.out (okS_found (q := q) (by rw [← HONES.out]; exact HT.out) (by rw [HON.out]; exact hte) (by rw [HON.out]; exact of_decide_eq_false HOE.out.symm))
                    have HBAD := Lib.hid hbad
                    generalize strOf t = st at *
                    clear hbad ht hte
                    go_wp2
                    go_ret
                    refine ⟨?_, HW.out.t_bel⟩
                    rw [HBAD.out]
                    simp
                  · rw [decide_eq_false hte] at heq
                    have heq2 : ¬ (strOf t).toList = so.toList := fun e => by rw [e] at heq; simp at heq
                    have HTE := Lib.hid hte
                    generalize strOf t = st at *
                    clear ht hte
                    go_wp2
                    go_roundg (g1 - 1)
                    case measure => omega
                    case rel => exact ⟨q + 1, by go_num, by omega, (fun j u hj hu he => by
                      by_cases hjq : j < q
                      · exact HALL.out j u hjq hu he
                      · obtain rfl : j = q := by omega
                        have e := HT.out.symm.trans hu
                        injection e with e
                        rw [e] at HTE
                        exact HTE.out he.1), rfl⟩
                · have tq : decide ((q : Int) < (i : Int)) = false := decide_eq_false (by omega)
                  have hgood : okS V m sl y i = true := okS_free HB.out.symm (fun j t hj ht => by rw [HON.out]; exact HALL.out j t (by omega) (by rw [HONES.out]; exact ht))
                  have HGOOD := Lib.hid hgood
                  clear hgood
                  go_wp2_with (at_builtin; refine wpList_append_sl rfl _ _ rfl w.heap.size _ _ _ rfl (own_below HO4.out ((Below.refl _ _).alloc (Nat.le_refl _) _)) _ 1 1 [one] rfl rfl (sl_txt1 _ _ _ _ HSO.out) (by have := HOL.out; show _ + 1 ≤ 1000000; omega) (by have := HW.out.t_bel.size; simp; omega) ?_; intro va3 w6 ho hg; have HO6 := Lib.hid ho; have HG6 := Lib.hid hg; clear ho hg)
                  go_roundg (gn - 1)
                  case measure => omega
                  case rel =>
                    refine ⟨i + 1, _, by go_num, rfl, by omega, okTo_more HOK.out HY.out HGOOD.out (fun q p2 hq hp2 => by
              have hjq : q = j := by have := HJ.out; omega
              subst hjq
              have e := HP.out.symm.trans hp2
              injection e with e
              rw [← e, ← HZP.out, ← HZY.out]
              exact HZZ.out), (HW.out.goes ((Below.refl _ _).alloc (Nat.le_refl _) _)).grows (own_below HO4.out ((Below.refl _ _).alloc (Nat.le_refl _) _)) (Nat.le_refl _) HG6.out, ?_⟩
                    rw [ones_more HY.out, HON.out, ← HONES.out]
                    have h := HO6.out
                    rw [HOL.out] at h
                    exact h
        · have g3 : decide (zp ≥ zy) = true := decide_eq_true (by omega)
          have g4 : decide (zy ≤ zp) = true := decide_eq_true (by omega)
          have hbad := bad_rise (l := sl) HP.out (by rw [HJ.out]; exact HY.out) (by rw [← HZP.out, ← HZY.out]; exact hzz)
          have HBAD := Lib.hid hbad
          clear hbad
          have c0 := HCP.out _ HW.out.t_bel
          obtain ⟨d0, d1'⟩ := HCY.out _ HW.out.t_bel
          clear hzz
          go_wp2
          go_quiet (fail)
          go_wp2
          go_ret
          refine ⟨?_, vbel HW.out.t_bel (drewN_under _ nq)⟩
          rw [HBAD.out]
          rfl
    · have ti : decide ((i : Int) < (na : Int)) = false := decide_eq_false (by omega)
      have HR1 := Lib.hid (okTo_rise HOK.out (by have := HNA.out; omega))
      have HR2 := Lib.hid (okTo_all HOK.out (by have := HNA.out; omega))
      clear HOK HOW HSLOT HXS HFD
      go_wp2
      go_loopg [13] nr (fun gz x13 wr => ∃ q : Nat, x13 = .int .i64 (q : Int) ∧ q + gz = nr ∧ (∀ (j : Nat) r, j < q → rl[j]? = some r → restT m r = true) ∧ RtW w w2.heap.size #[.slice A ne ca, .slice (some ⟨ge, oe, none⟩) nm ca2] #[.slice B na cb, .slice B2 nr cr] #[.string sn, .slice A1 nf c1, .slice A3 nb c3] wr)
      case atStart => exact ⟨0, rfl, by omega, (fun j r hj => absurd hj (Nat.not_lt_zero _)), HW.out⟩
      case round =>
        obtain ⟨q, rfl, hq, hall, hw⟩ := hrel
        have HALL := Lib.hid hall
        replace HW := Lib.hid hw
        clear hall hw
        obtain ⟨g1, hg1⟩ : ∃ g1, g1 = gk := ⟨_, rfl⟩
        subst hg1
        obtain ⟨⟨a0, a1⟩, ⟨t0, t1⟩, m0, m1, m2⟩ := HW.out.cells
        by_cases hltq : q < nr
        · have tq : decide ((q : Int) < (nr : Int)) = true := decide_eq_true (by omega)
          obtain ⟨r, hr⟩ : ∃ r, rl[q]? = some r := ⟨_, List.getElem?_eq_getElem (by have := HNR.out; omega)⟩
          have HRI := Lib.hid hr
          obtain ⟨gr, orr, hB2, _, hcr⟩ := rw_at HXR.out hr
          subst hB2
          have HRG := Lib.hid (fun u => HRIGHT.out r u)
          have HNR2 := Lib.hid (fun u (hb : Below w.heap.size w u) => HNUM.out u hb r.num)
          have HCR : Hid (∀ u, Below w.heap.size w u → u.cell? ⟨gr, orr + q * 4, none⟩ = some (.int .i64 r.num) ∧ u.cell? ⟨gr, orr + q * 4 + 1, none⟩ = some (.int .i64 r.wire) ∧ u.cell? ⟨gr, orr + q * 4 + 2, none⟩ = some (.int .u64 (r.n : Int)) ∧ u.cell? ⟨gr, orr + q * 4 + 3, none⟩ = some (.string (strOf r.s))) := Lib.hid (fun u hb => hcr u (stay_bel hb))
          have HRT : Hid (restT m r = (okR r && decide (numAtT m r.num < 0))) := Lib.hid rfl
          unfold rawV rawCells at HRG
          obtain ⟨v, hv⟩ : ∃ v, v = numAtT m r.num := ⟨_, rfl⟩
          rw [← hv] at HNR2 HRT
          obtain ⟨ok, hok⟩ : ∃ b, b = okR r := ⟨_, rfl⟩
          rw [← hok] at HRG HRT
          clear hr hcr hv hok
          generalize r.num = z0 at *
          generalize r.wire = z1 at *
          generalize (r.n : Int) = z2 at *
          generalize strOf r.s = z3 at *
          have HWY := HW
          replace HW := Lib.hid (HW.out.goes (drewN_under _ 1))
          cases ok with
          | false =>
            have HBAD := Lib.hid (rest_bad (m := m) HRI.out HRT.out)
            go_wp2
            refine wp_region_noPanic ?_
            refine wp_region_held_drew (S := fun u => ((u.cell? ⟨w.heap.size + 1, 1, none⟩ = some (.slice (some ⟨gr, orr, none⟩) nr cr)) ∧ (u.cell? ⟨w2.heap.size, 0, none⟩ = some (.string sn) ∧ u.cell? ⟨w2.heap.size, 1, none⟩ = some (.slice A1 nf c1) ∧ u.cell? ⟨w2.heap.size, 2, none⟩ = some (.slice A3 nb c3))) ∧ (u.cell? ⟨gr, orr + q * 4, none⟩ = some (.int .i64 z0) ∧ u.cell? ⟨gr, orr + q * 4 + 1, none⟩ = some (.int .i64 z1) ∧ u.cell? ⟨gr, orr + q * 4 + 2, none⟩ = some (.int .u64 z2) ∧ u.cell? ⟨gr, orr + q * 4 + 3, none⟩ = some (.string z3))) (by kernel_rfl) ⟨⟨HW.out.cells.2.1.2, HW.out.cells.2.2⟩, HCR.out _ HW.out.t_bel⟩ (fun hHeld => ?_)
            refine take_at (i := 0) (v := ?_) rfl (by kernel_rfl) (by kernel_rfl) (by kernel_rfl) (fun _ _ _ h => h) (Or.inl ⟨by rfl, ?_⟩) hHeld ?_
            case refine_2 => (intro w hSw; (try dsimp only at hSw); go_simp <;> with_reducible rfl)
            try simp only [Act.put, List.setIfInBounds_toArray, List.set_cons_zero, List.set_cons_succ]
            refine take_at (i := 1) (v := ?_) rfl (by kernel_rfl) (by kernel_rfl) (by kernel_rfl) (fun _ _ _ h => h) (Or.inl ⟨by rfl, ?_⟩) hHeld ?_
            case refine_2 => (intro w hSw; (try dsimp only at hSw); go_simp <;> with_reducible rfl)
            try simp only [Act.put, List.setIfInBounds_toArray, List.set_cons_zero, List.set_cons_succ]
            refine take_at (i := 2) (v := ?_) rfl (by kernel_rfl) (by kernel_rfl) (by kernel_rfl) (fun _ _ _ h => h) (Or.inl ⟨by rfl, ?_⟩) hHeld ?_
            case refine_2 => (intro w hSw; (try dsimp only at hSw); go_simp <;> with_reducible rfl)
            try simp only [Act.put, List.setIfInBounds_toArray, List.set_cons_zero, List.set_cons_succ]
            refine take_at (i := 3) (v := ?_) rfl (by kernel_rfl) (by kernel_rfl) (by kernel_rfl) (fun _ _ _ h => h) (Or.inl ⟨by rfl, ?_⟩) hHeld ?_
            case refine_2 => (intro w hSw; (try dsimp only at hSw); go_simp <;> with_reducible rfl)
            try simp only [Act.put, List.setIfInBounds_toArray, List.set_cons_zero, List.set_cons_succ]
            refine take_at (i := 4) (v := ?_) rfl (by kernel_rfl) (by kernel_rfl) (by kernel_rfl) (fun _ _ _ h => h) (Or.inl ⟨by rfl, ?_⟩) hHeld ?_
            case refine_2 => (intro w hSw; (try dsimp only at hSw); go_simp <;> with_reducible rfl)
            try simp only [Act.put, List.setIfInBounds_toArray, List.set_cons_zero, List.set_cons_succ]
            refine wpAnyH_ready (rs := [5]) (by kernel_rfl) (by simp) ?_
            refine ready_at (i := 5) rfl (fun K hK => ?_)
            go_simp
            go_at_call 30; refine (HRG.out _).mono ?_; rintro e w5 ⟨rfl, hw5⟩; replace HW := Lib.hid (HW.out.goes (show Below _ _ w5 by rw [hw5]; exact (Below.refl _ _).alloc (Nat.le_refl _) _)); clear hw5
            clear hHeld
            refine hK.out _ _ (⟨⟨HW.out.cells.2.1.2, HW.out.cells.2.2⟩, HCR.out _ HW.out.t_bel⟩) (fun hHeld => ?_)
            clear hK K
            try simp only [Act.put, List.setIfInBounds_toArray, List.set_cons_zero, List.set_cons_succ]
            refine take_at (i := 6) (v := ?_) rfl (by kernel_rfl) (by kernel_rfl) (by kernel_rfl) (fun _ _ _ h => h) (Or.inl ⟨by rfl, ?_⟩) hHeld ?_
            case refine_2 => (intro w hSw; (try dsimp only at hSw); go_simp <;> with_reducible rfl)
            try simp only [Act.put, List.setIfInBounds_toArray, List.set_cons_zero, List.set_cons_succ]
            refine take_at (i := 7) (v := ?_) rfl (by kernel_rfl) (by kernel_rfl) (by kernel_rfl) (fun _ _ _ h => h) (Or.inl ⟨by rfl, ?_⟩) hHeld ?_
            case refine_2 => (intro w hSw; (try dsimp only at hSw); go_simp <;> with_reducible rfl)
            try simp only [Act.put, List.setIfInBounds_toArray, List.set_cons_zero, List.set_cons_succ]
            refine take_at (i := 8) (v := undef) rfl (by kernel_rfl) (by kernel_rfl) (by kernel_rfl) (fun _ _ _ h => h) (Or.inr ⟨by rfl, rfl⟩) hHeld ?_
            try simp only [Act.put, List.setIfInBounds_toArray, List.set_cons_zero, List.set_cons_succ]
            refine take_at (i := 9) (v := undef) rfl (by kernel_rfl) (by kernel_rfl) (by kernel_rfl) (fun _ _ _ h => h) (Or.inr ⟨by rfl, rfl⟩) hHeld ?_
            try simp only [Act.put, List.setIfInBounds_toArray, List.set_cons_zero, List.set_cons_succ]
            refine take_at (i := 10) (v := undef) rfl (by kernel_rfl) (by kernel_rfl) (by kernel_rfl) (fun _ _ _ h => h) (Or.inr ⟨by rfl, rfl⟩) hHeld ?_
            try simp only [Act.put, List.setIfInBounds_toArray, List.set_cons_zero, List.set_cons_succ]
            refine take_at (i := 11) (v := undef) rfl (by kernel_rfl) (by kernel_rfl) (by kernel_rfl) (fun _ _ _ h => h) (Or.inr ⟨by rfl, rfl⟩) hHeld ?_
            try simp only [Act.put, List.setIfInBounds_toArray, List.set_cons_zero, List.set_cons_succ]
            refine take_at (i := 12) (v := undef) rfl (by kernel_rfl) (by kernel_rfl) (by kernel_rfl) (fun _ _ _ h => h) (Or.inr ⟨by rfl, rfl⟩) hHeld ?_
            try simp only [Act.put, List.setIfInBounds_toArray, List.set_cons_zero, List.set_cons_succ]
            refine take_at (i := 13) (v := undef) rfl (by kernel_rfl) (by kernel_rfl) (by kernel_rfl) (fun _ _ _ h => h) (Or.inr ⟨by rfl, rfl⟩) hHeld ?_
            try simp only [Act.put, List.setIfInBounds_toArray, List.set_cons_zero, List.set_cons_succ]
            refine take_at (i := 14) (v := undef) rfl (by kernel_rfl) (by kernel_rfl) (by kernel_rfl) (fun _ _ _ h => h) (Or.inr ⟨by rfl, rfl⟩) hHeld ?_
            try simp only [Act.put, List.setIfInBounds_toArray, List.set_cons_zero, List.set_cons_succ]
            refine take_at (i := 15) (v := undef) rfl (by kernel_rfl) (by kernel_rfl) (by kernel_rfl) (fun _ _ _ h => h) (Or.inr ⟨by rfl, rfl⟩) hHeld ?_
            try simp only [Act.put, List.setIfInBounds_toArray, List.set_cons_zero, List.set_cons_succ]
            refine take_at (i := 16) (v := undef) rfl (by kernel_rfl) (by kernel_rfl) (by kernel_rfl) (fun _ _ _ h => h) (Or.inr ⟨by rfl, rfl⟩) hHeld ?_
            try simp only [Act.put, List.setIfInBounds_toArray, List.set_cons_zero, List.set_cons_succ]
            refine take_at (i := 17) (v := ?_) rfl (by kernel_rfl) (by kernel_rfl) (by kernel_rfl) (fun _ _ _ h => h) (Or.inl ⟨by rfl, ?_⟩) hHeld ?_
            case refine_2 => (intro w hSw; (try dsimp only at hSw); go_simp <;> with_reducible rfl)
            try simp only [Act.put, List.setIfInBounds_toArray, List.set_cons_zero, List.set_cons_succ]
            refine wpAnyH_done (by kernel_rfl) ?_ _
            refine NoPanic.normal ?_
            clear hHeld
            go_wp2
            go_ret
            refine ⟨?_, HW.out.t_bel⟩
            rw [HBAD.out]
            simp
          | true =>
            by_cases hv0 : v < 0
            · have f1 : decide (v ≥ 0) = false := decide_eq_false (by omega)
              have f2 : decide (0 ≤ v) = false := decide_eq_false (by omega)
              rw [decide_eq_true hv0] at HRT
              clear hv0
              go_wp2
              go_region_held3 (fun u => ((u.cell? ⟨w.heap.size + 1, 1, none⟩ = some (.slice (some ⟨gr, orr, none⟩) nr cr)) ∧ (u.cell? ⟨w2.heap.size, 0, none⟩ = some (.string sn) ∧ u.cell? ⟨w2.heap.size, 1, none⟩ = some (.slice A1 nf c1) ∧ u.cell? ⟨w2.heap.size, 2, none⟩ = some (.slice A3 nb c3))) ∧ (u.cell? ⟨gr, orr + q * 4, none⟩ = some (.int .i64 z0) ∧ u.cell? ⟨gr, orr + q * 4 + 1, none⟩ = some (.int .i64 z1) ∧ u.cell? ⟨gr, orr + q * 4 + 2, none⟩ = some (.int .u64 z2) ∧ u.cell? ⟨gr, orr + q * 4 + 3, none⟩ = some (.string z3)))
                (first | exact ⟨⟨HW.out.cells.2.1.2, HW.out.cells.2.2⟩, HCR.out _ HW.out.t_bel⟩ | exact ⟨⟨HWY.out.cells.2.1.2, HWY.out.cells.2.2⟩, HCR.out _ HWY.out.t_bel⟩)
                (first
                  | (go_at_call 30; refine (HRG.out _).mono ?_; rintro e w5 ⟨rfl, hw5⟩; replace HW := Lib.hid (HW.out.goes (show Below _ _ w5 by rw [hw5]; exact (Below.refl _ _).alloc (Nat.le_refl _) _)); clear hw5)
                  | (go_at_call 29; refine (HNR2.out _ HW.out.t_bel).mono ?_; rintro e w6 ⟨rfl, hb⟩; replace HW := Lib.hid (HW.out.goes hb); clear hb))
              go_wp2
              go_roundg (g1 - 1)
              case measure => omega
              case rel => exact ⟨q + 1, by go_num, by omega, (fun j u hj hu => by
                by_cases hjq : j < q
                · exact HALL.out j u hjq hu
                · obtain rfl : j = q := by omega
                  have e := HRI.out.symm.trans hu
                  injection e with e
                  rw [← e]
                  exact HRT.out), HW.out⟩
            · have f1 : decide (v ≥ 0) = true := decide_eq_true (by omega)
              have f2 : decide (0 ≤ v) = true := decide_eq_true (by omega)
              rw [decide_eq_false hv0] at HRT
              have HBAD := Lib.hid (rest_bad (m := m) HRI.out HRT.out)
              clear hv0
              go_wp2
              go_region_held3 (fun u => ((u.cell? ⟨w.heap.size + 1, 1, none⟩ = some (.slice (some ⟨gr, orr, none⟩) nr cr)) ∧ (u.cell? ⟨w2.heap.size, 0, none⟩ = some (.string sn) ∧ u.cell? ⟨w2.heap.size, 1, none⟩ = some (.slice A1 nf c1) ∧ u.cell? ⟨w2.heap.size, 2, none⟩ = some (.slice A3 nb c3))) ∧ (u.cell? ⟨gr, orr + q * 4, none⟩ = some (.int .i64 z0) ∧ u.cell? ⟨gr, orr + q * 4 + 1, none⟩ = some (.int .i64 z1) ∧ u.cell? ⟨gr, orr + q * 4 + 2, none⟩ = some (.int .u64 z2) ∧ u.cell? ⟨gr, orr + q * 4 + 3, none⟩ = some (.string z3)))
                (first | exact ⟨⟨HW.out.cells.2.1.2, HW.out.cells.2.2⟩, HCR.out _ HW.out.t_bel⟩ | exact ⟨⟨HWY.out.cells.2.1.2, HWY.out.cells.2.2⟩, HCR.out _ HWY.out.t_bel⟩)
                (first
                  | (go_at_call 30; refine (HRG.out _).mono ?_; rintro e w5 ⟨rfl, hw5⟩; replace HW := Lib.hid (HW.out.goes (show Below _ _ w5 by rw [hw5]; exact (Below.refl _ _).alloc (Nat.le_refl _) _)); clear hw5)
                  | (go_at_call 29; refine (HNR2.out _ HW.out.t_bel).mono ?_; rintro e w6 ⟨rfl, hb⟩; replace HW := Lib.hid (HW.out.goes hb); clear hb))
              go_wp2
              go_ret
              refine ⟨?_, HW.out.t_bel⟩
              rw [HBAD.out]
              simp
        · have tq : decide ((q : Int) < (nr : Int)) = false := decide_eq_false (by omega)
          have HR3 := Lib.hid (rest_pts (m := m) HALL.out (by have := HNR.out; omega))
          go_wp2
          go_ret
          refine ⟨?_, HW.out.t_bel⟩
          rw [HR1.out, HR2.out, HR3.out]
          rfl
theorem rvtree_any (s : Sc) : ∀ n, RTree s n
  | 0 => rvtree_step (fun k hk => by omega)
  | n + 1 => rvtree_step (fun k hk => by
      obtain rfl : n = k := by omega
      exact rvtree_any s n)
end Go.Proofs.YtmdekdmcnnbofaaDoor
