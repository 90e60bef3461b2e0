/- Several texts in one: RdT, RuB, RuC, RuD, RuE. What each proves, and its conditions, stands at its own head. -/
import Derived.Test.YtloheacncefkgaaGreatDoorPkEU41
import Derived.Test.YtloheacncefkgaaGreatDoorPkEU29
import Derived.Test.YtloheacncefkgaaGreatDoorPkEU27
import Derived.Test.YtloheacncefkgaaGreatDoorPkEU14
import Derived.Test.YtloheacncefkgaaGreatDoorPkEU32
import Derived.Test.YtloheacncefkgaaGreatDoorPkEU20
import Derived.Test.YtloheacncefkgaaGreatDoorPkEU36
import Derived.Test.YtloheacncefkgaaGreatDoorPkEU38
import Derived.Test.YtloheacncefkgaaGreatDoorPkEU3
import Derived.Test.YtloheacncefkgaaGreatDoorPkEU25
import Derived.Test.YtloheacncefkgaaGreatDoorPkEU21
/- The document's layer 20: which trees are a message's values. Conditions: those that each theorem names. -/
namespace Go.Proofs.YtloheacncefkgaaGreatDoor
open Go.RowKit
set_option linter.unusedVariables false
set_option maxRecDepth 100000

/-- The boxes of a call of the document's Tree. -/
structure RtW (w : World) (mb : Nat) (SCH TRE MSG : Array Value) (u : World) : Prop where
  t_bel : Below w.heap.size w u
  t_s : u.heap[w.heap.size]? = some (.cells SCH 25 (0, 0))
  t_x : u.heap[w.heap.size + 1]? = some (.cells TRE 29 (0, 0))
  t_m : u.heap[mb]? = some (.cells MSG 57 (0, 0))
section
variable {w u u' : World} {mb : Nat} {SCH TRE MSG : Array Value}
theorem RtW.goes (h : RtW w mb SCH TRE MSG u) (hb : Below u.heap.size u u') : RtW w mb SCH TRE MSG u' :=
  ⟨vbel h.t_bel hb, (hb.block _ (lt_of_block h.t_s)).trans h.t_s, (hb.block _ (lt_of_block h.t_x)).trans h.t_x, (hb.block _ (lt_of_block h.t_m)).trans h.t_m⟩
theorem RtW.grows (h : RtW w mb SCH TRE MSG u) {base n : Nat} {v : Value} {ts : List (List UInt8)} (ho : u.ownsRow base 9 1 v n (txts ts)) (hb : w.heap.size ≤ base) (hg : u.grownBy u' v.ownBlock) : RtW w mb SCH TRE MSG u' :=
  ⟨h.t_bel.grown hg h.t_bel.size (fun k hk => Nat.le_trans hb (ho.lt k hk).1), own_beside ho h.t_s (by decide) hg, own_beside ho h.t_x (by decide) hg, own_beside ho h.t_m (by decide) hg⟩
theorem RtW.cells {A A2 B B2 A1 A3 : Option Addr} {ne ca nm ca2 na cb nr cr nf c1 nb c3 : Nat} {sn : ByteArray} (h : RtW w mb #[.slice A ne ca, .slice A2 nm ca2] #[.slice B na cb, .slice B2 nr cr] #[.string sn, .slice A1 nf c1, .slice A3 nb c3] u) : (u.cell? ⟨w.heap.size, 0, none⟩ = some (.slice A ne ca) ∧ u.cell? ⟨w.heap.size, 1, none⟩ = some (.slice A2 nm ca2)) ∧ (u.cell? ⟨w.heap.size + 1, 0, none⟩ = some (.slice B na cb) ∧ u.cell? ⟨w.heap.size + 1, 1, none⟩ = some (.slice B2 nr cr)) ∧ (u.cell? ⟨mb, 0, none⟩ = some (.string sn) ∧ u.cell? ⟨mb, 1, none⟩ = some (.slice A1 nf c1) ∧ u.cell? ⟨mb, 2, none⟩ = some (.slice A3 nb c3)) :=
  ⟨⟨obj_cell h.t_s 0, obj_cell h.t_s 1⟩, ⟨obj_cell h.t_x 0, obj_cell h.t_x 1⟩, obj_cell h.t_m 0, obj_cell h.t_m 1, obj_cell h.t_m 2⟩
theorem rtw_made {w w2 : World} {SCH TRE : Array Value} (h2 : Bx2 w w2 (.cells SCH 25 (0, 0)) (.cells TRE 29 (0, 0))) (MSG : Array Value) : RtW w w2.heap.size SCH TRE MSG ((w2.alloc (.cells MSG 57)).alloc (.cells #[] 9)) := by
  have hb1 : Below w2.heap.size w2 (w2.alloc (.cells MSG 57)) := (Below.refl _ _).alloc (Nat.le_refl _) _
  have hm := heap_alloc_new w2 (.cells MSG 57)
  have hb2 : Below (w2.alloc (.cells MSG 57)).heap.size (w2.alloc (.cells MSG 57)) ((w2.alloc (.cells MSG 57)).alloc (.cells #[] 9)) := (Below.refl _ _).alloc (Nat.le_refl _) _
  have h3 := bx2_step (bx2_step h2 hb1) hb2
  exact ⟨h3.b2_bel, h3.b2_one, h3.b2_two, (hb2.block _ (lt_of_block hm)).trans hm⟩
end

set_option maxHeartbeats 40000000 in
theorem rvtree_step {s : Sc} {n : Nat} (H : ∀ k, n = k + 1 → RTree s k) : RTree s n := by
  intro SS S w A ne ca A2 nm ca2 name B na cb B2 nr cr x env h hx hf ho
  have HBX := Lib.hid (bx2_start w #[.slice A ne ca, .slice A2 nm ca2] #[.slice B na cb, .slice B2 nr cr] 25 29)
  have s0 := obj_cell HBX.out.b2_one 0
  have s1 := obj_cell HBX.out.b2_one 1
  have HM := Lib.hid (fun u (hb : Below w.heap.size w u) => rvmessage_any u (scAt_bel h hb) name)
  obtain ⟨k1, k2, k3, k4⟩ := scAt_max h
  obtain ⟨q1, q2, q3, q4⟩ := trAt_max hx
  rcases msg_way s name with ⟨hn1, hn2⟩ | ⟨mi, m, hn1, him, hn2⟩
  · rw [treeN_none hn2]
    rw [hn1] at HM
    clear H env h hx hf ho hn1 hn2
    generalize strOf name = sm at *
    go_enter Tryz.func35, Tryz.ntmps35
    go_wp2_with (go_at_call 34; refine (HM.out _ HBX.out.b2_bel).mono ?_; rintro e w2 ⟨rfl, hb⟩; replace HBX := Lib.hid (bx2_step HBX.out hb); clear hb)
    go_ret
    exact ⟨rfl, HBX.out.b2_bel⟩
  have HE := Lib.hid (treeN_some (k := n) (t := x) hn2)
  have hi2 := (List.getElem?_eq_some_iff.mp him).1
  rw [hn1] at HM
  obtain ⟨ge, oe, A1, c1, A3, c3, rfl, _, hc, hl, hl2⟩ := ms_at h.s_m him
  have HC := Lib.hid hc
  have p1 := hl.l_le
  have p2 := hl.l_max
  unfold maxLen at p2
  have HXS := Lib.hid hx.t_s
  have HXR := Lib.hid hx.t_r
  have HNA := Lib.hid hx.t_ns
  have HNR := Lib.hid hx.t_nr
  have h1000 : na ≤ 1000 := by have := hf.1; have := hx.t_ns; omega
  have HSLOT := Lib.hid (fun u (hb : Below w.heap.size w u) (y : Slt) (hm : y ∈ x.slots) C cc (hv : VsAt S n u C cc y.svals) => rvslot_any H u (env.goesOn hb) (scAt_bel h hb) (strOf m.name) (lst_keep (S' := SS 1) hl fdR_keep (fun _ h => h) (bel_keep hb)) (lst_keep (S' := SS 2) hl2 inR_keep (fun _ h => h) (bel_keep hb)) rfl rfl y hv (fit_slots hf hm) (bit_slots ho hm))
  have HNUM := Lib.hid (fun u (hb : Below w.heap.size w u) (t : Int) => rxnumber_any u (strOf m.name) (lst_keep (S' := SS 1) hl fdR_keep (fun _ h => h) (bel_keep hb)) (lst_keep (S' := SS 2) hl2 inR_keep (fun _ h => h) (bel_keep hb)) rfl rfl t)
  have HFD : Hid (∀ (i : Nat) f, m.fields[i]? = some f → ∃ gf of, A1 = some ⟨gf, of, none⟩ ∧ ∀ u, Below w.heap.size w u → u.cell? ⟨gf, of + i * 7 + 6, none⟩ = some (.string (strOf f.one))) := Lib.hid (fun i f hi => by
    obtain ⟨gf, of, e, _, hcf⟩ := fd_at hl hi
    exact ⟨gf, of, e, fun u hu => (hcf u hu).2.2.2.2.2.2⟩)
  have HRIGHT := Lib.hid (fun r u => rraw_right r u)
  obtain ⟨sl, hsl⟩ : ∃ sl, sl = x.slots := ⟨_, rfl⟩
  obtain ⟨rl, hrl⟩ : ∃ rl, rl = x.rest := ⟨_, rfl⟩
  obtain ⟨V, hV⟩ : ∃ V, V = treeN s n := ⟨_, rfl⟩
  rw [← hsl] at HE HXS HNA HSLOT
  rw [← hrl] at HE HXR HNR
  rw [← hV] at HE HSLOT
  rw [HE.out]
  have hmi : mi < nm := by have := h.s_nm; omega
  have e1 : decide ((mi : Int) < 0) = false := decide_eq_false (by omega)
  have e2 : decide ((mi : Int) < (nm : Int)) = true := decide_eq_true (by omega)
  obtain ⟨nf, hnf⟩ : ∃ nf, nf = m.fields.length := ⟨_, rfl⟩
  obtain ⟨nb, hnb⟩ : ∃ nb, nb = m.barred.length := ⟨_, rfl⟩
  obtain ⟨sn, hsn⟩ : ∃ sn, sn = strOf m.name := ⟨_, rfl⟩
  rw [← hnf] at HC HSLOT HNUM p1
  rw [← hnb] at HC HSLOT HNUM
  rw [← hsn] at HC HSLOT HNUM
  have HNF := Lib.hid hnf
  clear H env h hx hf ho hn1 hn2 hi2 hc hl hl2 him hsl hrl hV hnf hnb hsn HE
  generalize strOf name = sm at *
  go_enter Tryz.func35, Tryz.ntmps35
  go_wp2_with (go_at_call 34; refine (HM.out _ HBX.out.b2_bel).mono ?_; rintro e w2 ⟨rfl, hb⟩; replace HBX := Lib.hid (bx2_step HBX.out hb); have s1 := obj_cell HBX.out.b2_one 1; obtain ⟨c0, c1', c2⟩ := HC.out _ HBX.out.b2_bel; clear hb)
  have HW0 := Lib.hid (rtw_made HBX.out #[.string sn, .slice A1 nf c1, .slice A3 nb c3])
  have hob := own_block0 (W := (w2.alloc (.cells #[.string sn, .slice A1 nf c1, .slice A3 nb c3] 57)).alloc (.cells #[] 9)) (g := w2.heap.size + 1) (base := w.heap.size) (by have := heap_alloc_new (w2.alloc (.cells #[.string sn, .slice A1 nf c1, .slice A3 nb c3] 57)) (.cells #[] 9); rwa [World.size_alloc] at this) (by have := HBX.out.b2_bel.size; omega)
  have HO0 := Lib.hid hob
  clear hob c0 c1' c2 s1
  go_loopg [9, 10] na (fun gz x9 x10 wr => ∃ (i : Nat) (vl : Value), x10 = .int .i64 (i : Int) ∧ vl = x9 ∧ i + gz = na ∧ OkTo V m sl i ∧ RtW w w2.heap.size #[.slice A ne ca, .slice (some ⟨ge, oe, none⟩) nm ca2] #[.slice B na cb, .slice B2 nr cr] #[.string sn, .slice A1 nf c1, .slice A3 nb c3] wr ∧ wr.ownsRow w.heap.size 9 1 vl i (txts ((sl.take i).map (oneAt m))))
  case atStart => exact ⟨0, _, rfl, rfl, by omega, okTo_none, HW0.out, HO0.out⟩
  case round =>
    obtain ⟨i, vl, rfl, rfl, hi, hok, hw, hown⟩ := hrel
    have HOK := Lib.hid hok
    have HW := Lib.hid hw
    have HOW := Lib.hid hown
    clear hok hw hown HW0 HO0
    obtain ⟨gn, hgn⟩ : ∃ gn, gn = gk := ⟨_, rfl⟩
    subst hgn
    obtain ⟨⟨a0, a1⟩, ⟨t0, t1⟩, m0, m1, m2⟩ := HW.out.cells
    by_cases hlt : i < na
    · have ti : decide ((i : Int) < (na : Int)) = true := decide_eq_true (by omega)
      obtain ⟨y, hy⟩ : ∃ y, sl[i]? = some y := ⟨_, List.getElem?_eq_getElem (by have := HNA.out; omega)⟩
      have HY := Lib.hid hy
      obtain ⟨gv, ov, C, cc, hB, _, hcy, hvy⟩ := sl_at HXS.out hy
      subst hB
      have HCY : Hid (∀ u, Below w.heap.size w u → u.cell? ⟨gv, ov + i * 2, none⟩ = some (.int .i64 y.snum) ∧ u.cell? ⟨gv, ov + i * 2 + 1, none⟩ = some (.slice C y.svals.length cc)) := Lib.hid (fun u hb => hcy u (stay_bel hb))
      have HS := Lib.hid (fun u (hb : Below w.heap.size w u) => HSLOT.out u hb y (List.mem_of_getElem? hy) C cc (vsAt_bel hvy hb))
      have HNY := Lib.hid (fun u (hb : Below w.heap.size w u) => HNUM.out u hb y.snum)
      have hfw := fld_way m y.snum
      obtain ⟨b, hb⟩ : ∃ b, b = slotT V m y := ⟨_, rfl⟩
      have HB := Lib.hid hb
      rw [← hb] at HS
      clear hy hcy hvy hb
      obtain ⟨zy, hzy⟩ : ∃ z, z = y.snum := ⟨_, rfl⟩
      have HZY := Lib.hid hzy
      rw [← hzy] at HCY HS HNY
      obtain ⟨ly, hly⟩ : ∃ z, z = y.svals.length := ⟨_, rfl⟩
      rw [← hly] at HCY HS
      clear hzy hly
      have gw : IntKind.i64.wrap (i : Int) = (i : Int) := IntWalk.i64_in _ (by omega)
      by_cases hi0 : i = 0
      · have g0 : decide ((i : Int) > 0) = false := decide_eq_false (by omega)
        have g1 : decide (0 < i) = false := decide_eq_false (by omega)
        have g2 : decide ((0 : Int) < (i : Int)) = false := decide_eq_false (by omega)
        have g3 : ¬ 0 < i := by omega
        have HI0 := Lib.hid hi0
        clear hi0
        replace HW := Lib.hid (HW.out.goes (drewN_under _ 1))
        go_wp2
        refine wp_region_noPanic ?_
        refine wp_region_held_drew (S := fun u => ((u.cell? ⟨w.heap.size, 0, none⟩ = some (.slice A ne ca) ∧ u.cell? ⟨w.heap.size, 1, none⟩ = some (.slice (some ⟨ge, oe, none⟩) nm ca2)) ∧ (u.cell? ⟨w.heap.size + 1, 0, none⟩ = some (.slice (some ⟨gv, ov, none⟩) na cb) ∧ u.cell? ⟨w.heap.size + 1, 1, none⟩ = some (.slice B2 nr cr)) ∧ (u.cell? ⟨w2.heap.size, 0, none⟩ = some (.string sn) ∧ u.cell? ⟨w2.heap.size, 1, none⟩ = some (.slice A1 nf c1) ∧ u.cell? ⟨w2.heap.size, 2, none⟩ = some (.slice A3 nb c3))) ∧ (u.cell? ⟨gv, ov + i * 2, none⟩ = some (.int .i64 zy) ∧ u.cell? ⟨gv, ov + i * 2 + 1, none⟩ = some (.slice C ly cc))) (by kernel_rfl) ⟨HW.out.cells, HCY.out _ HW.out.t_bel⟩ (fun hHeld => ?_)
        refine take_at (i := 0) (v := ?_) rfl (by kernel_rfl) (by kernel_rfl) (by kernel_rfl) (fun _ _ _ h => h) (Or.inl ⟨by rfl, ?_⟩) hHeld ?_
        case refine_2 => (intro w hSw; (try dsimp only at hSw); go_simp <;> with_reducible rfl)
        try simp only [Act.put, List.setIfInBounds_toArray, List.set_cons_zero, List.set_cons_succ]
        refine take_at (i := 1) (v := .bool false) rfl (by kernel_rfl) (by kernel_rfl) (by kernel_rfl) (fun _ _ _ h => h) (Or.inl ⟨by rfl, ?_⟩) hHeld ?_
        case refine_1 => (intro w hSw; (try dsimp only at hSw); go_simp <;> with_reducible rfl)
        try simp only [Act.put, List.setIfInBounds_toArray, List.set_cons_zero, List.set_cons_succ]
        refine take_at (i := 2) (v := ?_) rfl (by kernel_rfl) (by kernel_rfl) (by kernel_rfl) (fun _ _ _ h => h) (Or.inl ⟨by rfl, ?_⟩) hHeld ?_
        case refine_2 => (intro w hSw; (try dsimp only at hSw); go_simp <;> with_reducible rfl)
        try simp only [Act.put, List.setIfInBounds_toArray, List.set_cons_zero, List.set_cons_succ]
        refine take_at (i := 3) (v := undef) rfl (by kernel_rfl) (by kernel_rfl) (by kernel_rfl) (fun _ _ _ h => h) (Or.inr ⟨by rfl, rfl⟩) hHeld ?_
        try simp only [Act.put, List.setIfInBounds_toArray, List.set_cons_zero, List.set_cons_succ]
        refine take_at (i := 4) (v := undef) rfl (by kernel_rfl) (by kernel_rfl) (by kernel_rfl) (fun _ _ _ h => h) (Or.inr ⟨by rfl, rfl⟩) hHeld ?_
        try simp only [Act.put, List.setIfInBounds_toArray, List.set_cons_zero, List.set_cons_succ]
        refine take_at (i := 5) (v := undef) rfl (by kernel_rfl) (by kernel_rfl) (by kernel_rfl) (fun _ _ _ h => h) (Or.inr ⟨by rfl, rfl⟩) hHeld ?_
        try simp only [Act.put, List.setIfInBounds_toArray, List.set_cons_zero, List.set_cons_succ]
        refine take_at (i := 6) (v := undef) rfl (by kernel_rfl) (by kernel_rfl) (by kernel_rfl) (fun _ _ _ h => h) (Or.inr ⟨by rfl, rfl⟩) hHeld ?_
        try simp only [Act.put, List.setIfInBounds_toArray, List.set_cons_zero, List.set_cons_succ]
        refine take_at (i := 7) (v := undef) rfl (by kernel_rfl) (by kernel_rfl) (by kernel_rfl) (fun _ _ _ h => h) (Or.inr ⟨by rfl, rfl⟩) hHeld ?_
        try simp only [Act.put, List.setIfInBounds_toArray, List.set_cons_zero, List.set_cons_succ]
        refine take_at (i := 8) (v := undef) rfl (by kernel_rfl) (by kernel_rfl) (by kernel_rfl) (fun _ _ _ h => h) (Or.inr ⟨by rfl, rfl⟩) hHeld ?_
        try simp only [Act.put, List.setIfInBounds_toArray, List.set_cons_zero, List.set_cons_succ]
        refine take_at (i := 9) (v := undef) rfl (by kernel_rfl) (by kernel_rfl) (by kernel_rfl) (fun _ _ _ h => h) (Or.inr ⟨by rfl, rfl⟩) hHeld ?_
        try simp only [Act.put, List.setIfInBounds_toArray, List.set_cons_zero, List.set_cons_succ]
        refine take_at (i := 10) (v := undef) rfl (by kernel_rfl) (by kernel_rfl) (by kernel_rfl) (fun _ _ _ h => h) (Or.inr ⟨by rfl, rfl⟩) hHeld ?_
        try simp only [Act.put, List.setIfInBounds_toArray, List.set_cons_zero, List.set_cons_succ]
        refine take_at (i := 11) (v := undef) rfl (by kernel_rfl) (by kernel_rfl) (by kernel_rfl) (fun _ _ _ h => h) (Or.inr ⟨by rfl, rfl⟩) hHeld ?_
        try simp only [Act.put, List.setIfInBounds_toArray, List.set_cons_zero, List.set_cons_succ]
        refine take_at (i := 12) (v := undef) rfl (by kernel_rfl) (by kernel_rfl) (by kernel_rfl) (fun _ _ _ h => h) (Or.inr ⟨by rfl, rfl⟩) hHeld ?_
        try simp only [Act.put, List.setIfInBounds_toArray, List.set_cons_zero, List.set_cons_succ]
        refine take_at (i := 13) (v := undef) rfl (by kernel_rfl) (by kernel_rfl) (by kernel_rfl) (fun _ _ _ h => h) (Or.inr ⟨by rfl, rfl⟩) hHeld ?_
        try simp only [Act.put, List.setIfInBounds_toArray, List.set_cons_zero, List.set_cons_succ]
        refine take_at (i := 14) (v := undef) rfl (by kernel_rfl) (by kernel_rfl) (by kernel_rfl) (fun _ _ _ h => h) (Or.inr ⟨by rfl, rfl⟩) hHeld ?_
        try simp only [Act.put, List.setIfInBounds_toArray, List.set_cons_zero, List.set_cons_succ]
        refine take_at (i := 15) (v := undef) rfl (by kernel_rfl) (by kernel_rfl) (by kernel_rfl) (fun _ _ _ h => h) (Or.inr ⟨by rfl, rfl⟩) hHeld ?_
        try simp only [Act.put, List.setIfInBounds_toArray, List.set_cons_zero, List.set_cons_succ]
        refine take_at (i := 16) (v := undef) rfl (by kernel_rfl) (by kernel_rfl) (by kernel_rfl) (fun _ _ _ h => h) (Or.inr ⟨by rfl, rfl⟩) hHeld ?_
        try simp only [Act.put, List.setIfInBounds_toArray, List.set_cons_zero, List.set_cons_succ]
        refine take_at (i := 17) (v := ?_) rfl (by kernel_rfl) (by kernel_rfl) (by kernel_rfl) (fun _ _ _ h => h) (Or.inl ⟨by rfl, ?_⟩) hHeld ?_
        case refine_2 => (intro w hSw; (try dsimp only at hSw); go_simp <;> with_reducible rfl)
        try simp only [Act.put, List.setIfInBounds_toArray, List.set_cons_zero, List.set_cons_succ]
        refine take_at (i := 18) (v := ?_) rfl (by kernel_rfl) (by kernel_rfl) (by kernel_rfl) (fun _ _ _ h => h) (Or.inl ⟨by rfl, ?_⟩) hHeld ?_
        case refine_2 => (intro w hSw; (try dsimp only at hSw); go_simp <;> with_reducible rfl)
        try simp only [Act.put, List.setIfInBounds_toArray, List.set_cons_zero, List.set_cons_succ]
        refine take_at (i := 19) (v := ?_) rfl (by kernel_rfl) (by kernel_rfl) (by kernel_rfl) (fun _ _ _ h => h) (Or.inl ⟨by rfl, ?_⟩) hHeld ?_
        case refine_2 => (intro w hSw; (try dsimp only at hSw); go_simp <;> with_reducible rfl)
        try simp only [Act.put, List.setIfInBounds_toArray, List.set_cons_zero, List.set_cons_succ]
        refine take_at (i := 20) (v := ?_) rfl (by kernel_rfl) (by kernel_rfl) (by kernel_rfl) (fun _ _ _ h => h) (Or.inl ⟨by rfl, ?_⟩) hHeld ?_
        case refine_2 => (intro w hSw; (try dsimp only at hSw); go_simp <;> with_reducible rfl)
        try simp only [Act.put, List.setIfInBounds_toArray, List.set_cons_zero, List.set_cons_succ]
        refine take_at (i := 21) (v := ?_) rfl (by kernel_rfl) (by kernel_rfl) (by kernel_rfl) (fun _ _ _ h => h) (Or.inl ⟨by rfl, ?_⟩) hHeld ?_
        case refine_2 => (intro w hSw; (try dsimp only at hSw); go_simp <;> with_reducible rfl)
        try simp only [Act.put, List.setIfInBounds_toArray, List.set_cons_zero, List.set_cons_succ]
        refine take_at (i := 22) (v := ?_) rfl (by kernel_rfl) (by kernel_rfl) (by kernel_rfl) (fun _ _ _ h => h) (Or.inl ⟨by rfl, ?_⟩) hHeld ?_
        case refine_2 => (intro w hSw; (try dsimp only at hSw); go_simp <;> with_reducible rfl)
        try simp only [Act.put, List.setIfInBounds_toArray, List.set_cons_zero, List.set_cons_succ]
        refine take_at (i := 23) (v := ?_) rfl (by kernel_rfl) (by kernel_rfl) (by kernel_rfl) (fun _ _ _ h => h) (Or.inl ⟨by rfl, ?_⟩) hHeld ?_
        case refine_2 => (intro w hSw; (try dsimp only at hSw); go_simp <;> with_reducible rfl)
        try simp only [Act.put, List.setIfInBounds_toArray, List.set_cons_zero, List.set_cons_succ]
        refine take_at (i := 24) (v := ?_) rfl (by kernel_rfl) (by kernel_rfl) (by kernel_rfl) (fun _ _ _ h => h) (Or.inl ⟨by rfl, ?_⟩) hHeld ?_
        case refine_2 => (intro w hSw; (try dsimp only at hSw); go_simp <;> with_reducible rfl)
        try simp only [Act.put, List.setIfInBounds_toArray, List.set_cons_zero, List.set_cons_succ]
        refine take_at (i := 25) (v := ?_) rfl (by kernel_rfl) (by kernel_rfl) (by kernel_rfl) (fun _ _ _ h => h) (Or.inl ⟨by rfl, ?_⟩) hHeld ?_
        case refine_2 => (intro w hSw; (try dsimp only at hSw); go_simp <;> with_reducible rfl)
        try simp only [Act.put, List.setIfInBounds_toArray, List.set_cons_zero, List.set_cons_succ]
        refine wpAnyH_ready (rs := [26]) (by kernel_rfl) (by simp) ?_
        refine ready_at (i := 26) rfl (fun K hK => ?_)
        go_simp
        go_at_call 83; refine (HS.out _ HW.out.t_bel).mono ?_; rintro e w3 ⟨rfl, hb⟩; have HB3 := Lib.hid (vbel (drewN_under wr 1) hb); replace HW := Lib.hid (HW.out.goes hb); clear hb
        clear hHeld
        refine hK.out _ _ (⟨HW.out.cells, HCY.out _ HW.out.t_bel⟩) (fun hHeld => ?_)
        clear hK K
        try simp only [Act.put, List.setIfInBounds_toArray, List.set_cons_zero, List.set_cons_succ]
        refine take_at (i := 27) (v := ?_) rfl (by kernel_rfl) (by kernel_rfl) (by kernel_rfl) (fun _ _ _ h => h) (Or.inl ⟨by rfl, ?_⟩) hHeld ?_
        case refine_2 => (intro w hSw; (try dsimp only at hSw); go_simp <;> with_reducible rfl)
        try simp only [Act.put, List.setIfInBounds_toArray, List.set_cons_zero, List.set_cons_succ]
        refine take_at (i := 28) (v := ?_) rfl (by kernel_rfl) (by kernel_rfl) (by kernel_rfl) (fun _ _ _ h => h) (Or.inl ⟨by rfl, ?_⟩) hHeld ?_
        case refine_2 => (intro w hSw; (try dsimp only at hSw); go_simp <;> with_reducible rfl)
        try simp only [Act.put, List.setIfInBounds_toArray, List.set_cons_zero, List.set_cons_succ]
        refine wpAnyH_done (by kernel_rfl) ?_ _
        refine NoPanic.normal ?_
        clear hHeld
        cases b with
        | false =>
          have hbad := bad_slot (V := V) (m := m) HY.out (okS_no HB.out.symm)
          go_wp2
          go_ret
          refine ⟨?_, HW.out.t_bel⟩
          rw [hbad]
          simp
        | true =>
          rcases hfw with ⟨_, hfn⟩ | ⟨fi, f, hfn, hfi, hff⟩
          · have := HB.out; unfold slotT at this; rw [hfn] at this; cases this
          have hon : oneAt m y = f.one := by unfold oneAt; rw [hff]
          rw [← HZY.out] at hfn
          rw [hfn] at HNY
          obtain ⟨gf, of, hA1, hcf⟩ := HFD.out fi f hfi
          subst hA1
          have hfi9 : fi < nf := by have := (List.getElem?_eq_some_iff.mp hfi).1; have := HNF.out; omega
          have e3 : decide ((fi : Int) < (nf : Int)) = true := decide_eq_true (by omega)
          obtain ⟨one, hone⟩ : ∃ one, one = f.one := ⟨_, rfl⟩
          rw [← hone] at hcf hon
          have HON := Lib.hid hon
          have HCF := Lib.hid hcf
          clear hfn hfi hff hon hcf hone
          obtain ⟨so, hso⟩ : ∃ so, so = strOf one := ⟨_, rfl⟩
          have HSO := Lib.hid hso
          rw [← hso] at HCF
          clear hso
          have HWY := HW
          replace HW := Lib.hid (HW.out.goes (drewN_under _ 1))
          replace HB3 := Lib.hid (vbel HB3.out (drewN_under _ 1))
          go_wp2
          go_region_held3 (fun u => (((u.cell? ⟨w.heap.size, 0, none⟩ = some (.slice A ne ca) ∧ u.cell? ⟨w.heap.size, 1, none⟩ = some (.slice (some ⟨ge, oe, none⟩) nm ca2)) ∧ (u.cell? ⟨w.heap.size + 1, 0, none⟩ = some (.slice (some ⟨gv, ov, none⟩) na cb) ∧ u.cell? ⟨w.heap.size + 1, 1, none⟩ = some (.slice B2 nr cr)) ∧ (u.cell? ⟨w2.heap.size, 0, none⟩ = some (.string sn) ∧ u.cell? ⟨w2.heap.size, 1, none⟩ = some (.slice (some ⟨gf, of, none⟩) nf c1) ∧ u.cell? ⟨w2.heap.size, 2, none⟩ = some (.slice A3 nb c3))) ∧ (u.cell? ⟨gv, ov + i * 2, none⟩ = some (.int .i64 zy) ∧ u.cell? ⟨gv, ov + i * 2 + 1, none⟩ = some (.slice C ly cc))) ∧ u.cell? ⟨gf, of + fi * 7 + 6, none⟩ = some (.string so))
            (first | exact ⟨⟨HW.out.cells, HCY.out _ HW.out.t_bel⟩, HCF.out _ HW.out.t_bel⟩ | exact ⟨⟨HWY.out.cells, HCY.out _ HWY.out.t_bel⟩, HCF.out _ HWY.out.t_bel⟩)
            (first
              | (go_at_call 84; refine (HNY.out _ HW.out.t_bel).mono ?_; rintro e w4 ⟨rfl, hb⟩; have HB4 := Lib.hid (vbel HB3.out hb); replace HW := Lib.hid (HW.out.goes hb); clear hb))
          have hown4 := own_below HOW.out HB4.out
          have HO4 := Lib.hid hown4
          have HTW := Lib.hid (txt_ways one)
          rw [← HSO.out] at HTW
          obtain ⟨oe', hoe'⟩ : ∃ b, b = decide (one = []) := ⟨_, rfl⟩
          rw [← hoe'] at HTW
          have HOE := Lib.hid hoe'
          have htw := HTW.out
          clear hown4 HTW hoe'
          obtain ⟨ones, hones⟩ : ∃ ones, ones = (sl.take i).map (oneAt m) := ⟨_, rfl⟩
          have HONES := Lib.hid hones
          have hol : ones.length = i := by rw [hones]; exact ones_len (by have := HNA.out; omega)
          have HOL := Lib.hid hol
          rw [← hones] at HO4
          obtain ⟨Ao, co, rfl, hco1, hco2⟩ : ∃ Ao co, vl = .slice Ao i co ∧ i ≤ co ∧ co ≤ 9223372036854775807 := by
            obtain ⟨A', c', h1, h2, h3, _⟩ := own_form HO4.out
            exact ⟨A', c', h1, h2, by unfold maxLen at h3; omega⟩
          clear hones hol HWY
          rcases htw with ⟨rfl, o1, o2⟩ | ⟨rfl, o1, o2⟩
          · go_wp2
            go_loopg [12] i (fun gz x0 wq => ∃ q : Nat, x0 = .int .i64 (q : Int) ∧ q + gz = i ∧ (∀ (j : Nat) t, j < q → ones[j]? = some t → ¬ (t = one ∧ ¬ one = [])) ∧ wq = w4)
            case atStart => exact ⟨0, rfl, by omega, (fun j t hj => absurd hj (Nat.not_lt_zero _)), rfl⟩
            case round =>
              obtain ⟨q, rfl, hq, hall, hwq⟩ := hrel
              subst hwq
              have HALL := Lib.hid hall
              clear hall
              obtain ⟨g1, hg1⟩ : ∃ g1, g1 = gk := ⟨_, rfl⟩
              subst hg1
              by_cases hltq : q < i
              · exact absurd hltq (by have := HI0.out; omega)
              · have tq : decide ((q : Int) < (i : Int)) = false := decide_eq_false (by omega)
                have hgood : okS V m sl y i = true := okS_free HB.out.symm (fun j t hj ht => by rw [HON.out]; exact HALL.out j t (by omega) (by rw [HONES.out]; exact ht))
                have HGOOD := Lib.hid hgood
                clear hgood
                go_wp2_with (at_builtin; refine wpList_append_sl rfl _ _ rfl w.heap.size _ _ _ rfl (own_below HO4.out ((Below.refl _ _).alloc (Nat.le_refl _) _)) _ 1 1 [one] rfl rfl (sl_txt1 _ _ _ _ HSO.out) (by have := HOL.out; show _ + 1 ≤ 1000000; omega) (by have := HW.out.t_bel.size; simp; omega) ?_; intro va3 w6 ho hg; have HO6 := Lib.hid ho; have HG6 := Lib.hid hg; clear ho hg)
                go_roundg (gn - 1)
                case measure => omega
                case rel =>
                  refine ⟨i + 1, _, by go_num, rfl, by omega, okTo_more HOK.out HY.out HGOOD.out (fun q p hq => by have := HI0.out; omega), (HW.out.goes ((Below.refl _ _).alloc (Nat.le_refl _) _)).grows (own_below HO4.out ((Below.refl _ _).alloc (Nat.le_refl _) _)) (Nat.le_refl _) HG6.out, ?_⟩
                  rw [ones_more HY.out, HON.out, ← HONES.out]
                  have h := HO6.out
                  rw [HOL.out] at h
                  exact h
          · go_wp2
            go_loopg [12] i (fun gz x0 wq => ∃ q : Nat, x0 = .int .i64 (q : Int) ∧ q + gz = i ∧ (∀ (j : Nat) t, j < q → ones[j]? = some t → ¬ (t = one ∧ ¬ one = [])) ∧ wq = w4)
            case atStart => exact ⟨0, rfl, by omega, (fun j t hj => absurd hj (Nat.not_lt_zero _)), rfl⟩
            case round =>
              obtain ⟨q, rfl, hq, hall, hwq⟩ := hrel
              subst hwq
              have HALL := Lib.hid hall
              clear hall
              obtain ⟨g1, hg1⟩ : ∃ g1, g1 = gk := ⟨_, rfl⟩
              subst hg1
              by_cases hltq : q < i
              · exact absurd hltq (by have := HI0.out; omega)
              · have tq : decide ((q : Int) < (i : Int)) = false := decide_eq_false (by omega)
                have hgood : okS V m sl y i = true := okS_free HB.out.symm (fun j t hj ht => by rw [HON.out]; exact HALL.out j t (by omega) (by rw [HONES.out]; exact ht))
                have HGOOD := Lib.hid hgood
                clear hgood
                go_wp2_with (at_builtin; refine wpList_append_sl rfl _ _ rfl w.heap.size _ _ _ rfl (own_below HO4.out ((Below.refl _ _).alloc (Nat.le_refl _) _)) _ 1 1 [one] rfl rfl (sl_txt1 _ _ _ _ HSO.out) (by have := HOL.out; show _ + 1 ≤ 1000000; omega) (by have := HW.out.t_bel.size; simp; omega) ?_; intro va3 w6 ho hg; have HO6 := Lib.hid ho; have HG6 := Lib.hid hg; clear ho hg)
                go_roundg (gn - 1)
                case measure => omega
                case rel =>
                  refine ⟨i + 1, _, by go_num, rfl, by omega, okTo_more HOK.out HY.out HGOOD.out (fun q p hq => by have := HI0.out; omega), (HW.out.goes ((Below.refl _ _).alloc (Nat.le_refl _) _)).grows (own_below HO4.out ((Below.refl _ _).alloc (Nat.le_refl _) _)) (Nat.le_refl _) HG6.out, ?_⟩
                  rw [ones_more HY.out, HON.out, ← HONES.out]
                  have h := HO6.out
                  rw [HOL.out] at h
                  exact h
      · obtain ⟨j, hj⟩ : ∃ j, j + 1 = i := ⟨i - 1, by omega⟩
        have g0 : decide ((i : Int) > 0) = true := decide_eq_true (by omega)
        have g1 : decide (0 < i) = true := decide_eq_true (by omega)
        have g2 : decide ((0 : Int) < (i : Int)) = true := decide_eq_true (by omega)
        have g0' : 0 < i := by omega
        have gx : (i : Int) - 1 = (j : Int) := by omega
        have gx2 : IntKind.i64.wrap ((i : Int) - 1) = (j : Int) := by rw [gx]; exact IntWalk.i64_in _ (by omega)
        have gx3 : IntKind.i64.wrap (j : Int) = (j : Int) := IntWalk.i64_in _ (by omega)
        have gj : decide ((j : Int) < (na : Int)) = true := decide_eq_true (by omega)
        have gj2 : j < na := by omega
        have gj3 : (0 : Int) ≤ (j : Int) := by omega
        obtain ⟨p, hp⟩ : ∃ p, sl[j]? = some p := ⟨_, List.getElem?_eq_getElem (by have := HNA.out; omega)⟩
        have HP := Lib.hid hp
        obtain ⟨gv', ov', C', cc', hB', _, hcp, _⟩ := sl_at HXS.out hp
        injection hB' with hB'
        injection hB' with hB1 hB2
        subst hB1 hB2
        have HCP : Hid (∀ u, Below w.heap.size w u → u.cell? ⟨gv, ov + j * 2, none⟩ = some (.int .i64 p.snum)) := Lib.hid (fun u hb => (hcp u (stay_bel hb)).1)
        obtain ⟨zp, hzp⟩ : ∃ z, z = p.snum := ⟨_, rfl⟩
        have HZP := Lib.hid hzp
        rw [← hzp] at HCP
        have HJ := Lib.hid hj
        clear hp hcp hzp hj
        by_cases hzz : zp < zy
        · have g3 : decide (zp ≥ zy) = false := decide_eq_false (by omega)
          have g4 : decide (zy ≤ zp) = false := decide_eq_false (by omega)
          have HZZ := Lib.hid hzz
          clear hzz
          have HWY := HW
          replace HW := Lib.hid (HW.out.goes (drewN_under _ 1))
          go_wp2
          go_region_held3 (fun u => (((u.cell? ⟨w.heap.size, 0, none⟩ = some (.slice A ne ca) ∧ u.cell? ⟨w.heap.size, 1, none⟩ = some (.slice (some ⟨ge, oe, none⟩) nm ca2)) ∧ (u.cell? ⟨w.heap.size + 1, 0, none⟩ = some (.slice (some ⟨gv, ov, none⟩) na cb) ∧ u.cell? ⟨w.heap.size + 1, 1, none⟩ = some (.slice B2 nr cr)) ∧ (u.cell? ⟨w2.heap.size, 0, none⟩ = some (.string sn) ∧ u.cell? ⟨w2.heap.size, 1, none⟩ = some (.slice A1 nf c1) ∧ u.cell? ⟨w2.heap.size, 2, none⟩ = some (.slice A3 nb c3))) ∧ (u.cell? ⟨gv, ov + i * 2, none⟩ = some (.int .i64 zy) ∧ u.cell? ⟨gv, ov + i * 2 + 1, none⟩ = some (.slice C ly cc))) ∧ u.cell? ⟨gv, ov + j * 2, none⟩ = some (.int .i64 zp))
            (first | exact ⟨⟨HW.out.cells, HCY.out _ HW.out.t_bel⟩, HCP.out _ HW.out.t_bel⟩ | exact ⟨⟨HWY.out.cells, HCY.out _ HWY.out.t_bel⟩, HCP.out _ HWY.out.t_bel⟩)
            (first
              | (go_at_call 83; refine (HS.out _ HW.out.t_bel).mono ?_; rintro e w3 ⟨rfl, hb⟩; have HB3 := Lib.hid (vbel (drewN_under wr 1) hb); replace HW := Lib.hid (HW.out.goes hb); clear hb))
          clear HWY
          cases b with
          | false =>
            have hbad := bad_slot (V := V) (m := m) HY.out (okS_no HB.out.symm)
            go_wp2
            go_ret
            refine ⟨?_, HW.out.t_bel⟩
            rw [hbad]
            simp
          | true =>
            rcases hfw with ⟨_, hfn⟩ | ⟨fi, f, hfn, hfi, hff⟩
            · have := HB.out; unfold slotT at this; rw [hfn] at this; cases this
            have hon : oneAt m y = f.one := by unfold oneAt; rw [hff]
            rw [← HZY.out] at hfn
            rw [hfn] at HNY
            obtain ⟨gf, of, hA1, hcf⟩ := HFD.out fi f hfi
            subst hA1
            have hfi9 : fi < nf := by have := (List.getElem?_eq_some_iff.mp hfi).1; have := HNF.out; omega
            have e3 : decide ((fi : Int) < (nf : Int)) = true := decide_eq_true (by omega)
            obtain ⟨one, hone⟩ : ∃ one, one = f.one := ⟨_, rfl⟩
            rw [← hone] at hcf hon
            have HON := Lib.hid hon
            have HCF := Lib.hid hcf
            clear hfn hfi hff hon hcf hone
            obtain ⟨so, hso⟩ : ∃ so, so = strOf one := ⟨_, rfl⟩
            have HSO := Lib.hid hso
            rw [← hso] at HCF
            clear hso
            have HWY := HW
            replace HW := Lib.hid (HW.out.goes (drewN_under _ 1))
            replace HB3 := Lib.hid (vbel HB3.out (drewN_under _ 1))
            go_wp2
            go_region_held3 (fun u => (((u.cell? ⟨w.heap.size, 0, none⟩ = some (.slice A ne ca) ∧ u.cell? ⟨w.heap.size, 1, none⟩ = some (.slice (some ⟨ge, oe, none⟩) nm ca2)) ∧ (u.cell? ⟨w.heap.size + 1, 0, none⟩ = some (.slice (some ⟨gv, ov, none⟩) na cb) ∧ u.cell? ⟨w.heap.size + 1, 1, none⟩ = some (.slice B2 nr cr)) ∧ (u.cell? ⟨w2.heap.size, 0, none⟩ = some (.string sn) ∧ u.cell? ⟨w2.heap.size, 1, none⟩ = some (.slice (some ⟨gf, of, none⟩) nf c1) ∧ u.cell? ⟨w2.heap.size, 2, none⟩ = some (.slice A3 nb c3))) ∧ (u.cell? ⟨gv, ov + i * 2, none⟩ = some (.int .i64 zy) ∧ u.cell? ⟨gv, ov + i * 2 + 1, none⟩ = some (.slice C ly cc))) ∧ u.cell? ⟨gf, of + fi * 7 + 6, none⟩ = some (.string so))
              (first | exact ⟨⟨HW.out.cells, HCY.out _ HW.out.t_bel⟩, HCF.out _ HW.out.t_bel⟩ | exact ⟨⟨HWY.out.cells, HCY.out _ HWY.out.t_bel⟩, HCF.out _ HWY.out.t_bel⟩)
              (first
                | (go_at_call 84; refine (HNY.out _ HW.out.t_bel).mono ?_; rintro e w4 ⟨rfl, hb⟩; have HB4 := Lib.hid (vbel HB3.out hb); replace HW := Lib.hid (HW.out.goes hb); clear hb))
            have hown4 := own_below HOW.out HB4.out
            have HO4 := Lib.hid hown4
            have HTW := Lib.hid (txt_ways one)
            rw [← HSO.out] at HTW
            obtain ⟨oe', hoe'⟩ : ∃ b, b = decide (one = []) := ⟨_, rfl⟩
            rw [← hoe'] at HTW
            have HOE := Lib.hid hoe'
            have htw := HTW.out
            clear hown4 HTW hoe'
            obtain ⟨ones, hones⟩ : ∃ ones, ones = (sl.take i).map (oneAt m) := ⟨_, rfl⟩
            have HONES := Lib.hid hones
            have hol : ones.length = i := by rw [hones]; exact ones_len (by have := HNA.out; omega)
            have HOL := Lib.hid hol
            rw [← hones] at HO4
            obtain ⟨Ao, co, rfl, hco1, hco2⟩ : ∃ Ao co, vl = .slice Ao i co ∧ i ≤ co ∧ co ≤ 9223372036854775807 := by
              obtain ⟨A', c', h1, h2, h3, _⟩ := own_form HO4.out
              exact ⟨A', c', h1, h2, by unfold maxLen at h3; omega⟩
            clear hones hol HWY
            rcases htw with ⟨rfl, o1, o2⟩ | ⟨rfl, o1, o2⟩
            · go_wp2
              go_loopg [12] i (fun gz x0 wq => ∃ q : Nat, x0 = .int .i64 (q : Int) ∧ q + gz = i ∧ (∀ (j : Nat) t, j < q → ones[j]? = some t → ¬ (t = one ∧ ¬ one = [])) ∧ wq = w4)
              case atStart => exact ⟨0, rfl, by omega, (fun j t hj => absurd hj (Nat.not_lt_zero _)), rfl⟩
              case round =>
                obtain ⟨q, rfl, hq, hall, hwq⟩ := hrel
                subst hwq
                have HALL := Lib.hid hall
                clear hall
                obtain ⟨g1, hg1⟩ : ∃ g1, g1 = gk := ⟨_, rfl⟩
                subst hg1
                by_cases hltq : q < i
                · have tq : decide ((q : Int) < (i : Int)) = true := decide_eq_true (by omega)
                  go_wp2
                  go_roundg (g1 - 1)
                  case measure => omega
                  case rel => exact ⟨q + 1, by go_num, by omega, (fun j t hj ht he => he.2 (of_decide_eq_true HOE.out.symm)), rfl⟩
                · have tq : decide ((q : Int) < (i : Int)) = false := decide_eq_false (by omega)
                  have hgood : okS V m sl y i = true := okS_free HB.out.symm (fun j t hj ht => by rw [HON.out]; exact HALL.out j t (by omega) (by rw [HONES.out]; exact ht))
                  have HGOOD := Lib.hid hgood
                  clear hgood
                  go_wp2_with (at_builtin; refine wpList_append_sl rfl _ _ rfl w.heap.size _ _ _ rfl (own_below HO4.out ((Below.refl _ _).alloc (Nat.le_refl _) _)) _ 1 1 [one] rfl rfl (sl_txt1 _ _ _ _ HSO.out) (by have := HOL.out; show _ + 1 ≤ 1000000; omega) (by have := HW.out.t_bel.size; simp; omega) ?_; intro va3 w6 ho hg; have HO6 := Lib.hid ho; have HG6 := Lib.hid hg; clear ho hg)
                  go_roundg (gn - 1)
                  case measure => omega
                  case rel =>
                    refine ⟨i + 1, _, by go_num, rfl, by omega, okTo_more HOK.out HY.out HGOOD.out (fun q p2 hq hp2 => by
              have hjq : q = j := by have := HJ.out; omega
              subst hjq
              have e := HP.out.symm.trans hp2
              injection e with e
              rw [← e, ← HZP.out, ← HZY.out]
              exact HZZ.out), (HW.out.goes ((Below.refl _ _).alloc (Nat.le_refl _) _)).grows (own_below HO4.out ((Below.refl _ _).alloc (Nat.le_refl _) _)) (Nat.le_refl _) HG6.out, ?_⟩
                    rw [ones_more HY.out, HON.out, ← HONES.out]
                    have h := HO6.out
                    rw [HOL.out] at h
                    exact h
            · go_wp2
              go_loopg [12] i (fun gz x0 wq => ∃ q : Nat, x0 = .int .i64 (q : Int) ∧ q + gz = i ∧ (∀ (j : Nat) t, j < q → ones[j]? = some t → ¬ (t = one ∧ ¬ one = [])) ∧ wq = w4)
              case atStart => exact ⟨0, rfl, by omega, (fun j t hj => absurd hj (Nat.not_lt_zero _)), rfl⟩
              case round =>
                obtain ⟨q, rfl, hq, hall, hwq⟩ := hrel
                subst hwq
                have HALL := Lib.hid hall
                clear hall
                obtain ⟨g1, hg1⟩ : ∃ g1, g1 = gk := ⟨_, rfl⟩
                subst hg1
                by_cases hltq : q < i
                · have tq : decide ((q : Int) < (i : Int)) = true := decide_eq_true (by omega)
                  obtain ⟨t, ht⟩ : ∃ t, ones[q]? = some t := ⟨_, List.getElem?_eq_getElem (by have := HOL.out; omega)⟩
                  have HT := Lib.hid ht
                  obtain ⟨go, oo, cp, hAo, _, _, hct⟩ := own_text HO4.out ht
                  injection hAo with hAo _ _
                  subst hAo
                  have heq : ((strOf t).toList == so.toList) = decide (t = one) := by rw [HSO.out]; exact strOf_beq t one
                  by_cases hte : t = one
                  · rw [decide_eq_true hte] at heq
                    have heq2 : (strOf t).toList = so.toList := beq_iff_eq.1 heq
                    have hbad := bad_slot (V := V) (m := m) HY.out (okS_found (q := q) (by rw [← HONES.out]; exact HT.out) (by rw [HON.out]; exact hte) (by rw [HON.out]; exact of_decide_eq_false HOE.out.symm))
                    have HBAD := Lib.hid hbad
                    generalize strOf t = st at *
                    clear hbad ht hte
                    go_wp2
                    go_ret
                    refine ⟨?_, HW.out.t_bel⟩
                    rw [HBAD.out]
                    simp
                  · rw [decide_eq_false hte] at heq
                    have heq2 : ¬ (strOf t).toList = so.toList := fun e => by rw [e] at heq; simp at heq
                    have HTE := Lib.hid hte
                    generalize strOf t = st at *
                    clear ht hte
                    go_wp2
                    go_roundg (g1 - 1)
                    case measure => omega
                    case rel => exact ⟨q + 1, by go_num, by omega, (fun j u hj hu he => by
                      by_cases hjq : j < q
                      · exact HALL.out j u hjq hu he
                      · obtain rfl : j = q := by omega
                        have e := HT.out.symm.trans hu
                        injection e with e
                        rw [e] at HTE
                        exact HTE.out he.1), rfl⟩
                · have tq : decide ((q : Int) < (i : Int)) = false := decide_eq_false (by omega)
                  have hgood : okS V m sl y i = true := okS_free HB.out.symm (fun j t hj ht => by rw [HON.out]; exact HALL.out j t (by omega) (by rw [HONES.out]; exact ht))
                  have HGOOD := Lib.hid hgood
                  clear hgood
                  go_wp2_with (at_builtin; refine wpList_append_sl rfl _ _ rfl w.heap.size _ _ _ rfl (own_below HO4.out ((Below.refl _ _).alloc (Nat.le_refl _) _)) _ 1 1 [one] rfl rfl (sl_txt1 _ _ _ _ HSO.out) (by have := HOL.out; show _ + 1 ≤ 1000000; omega) (by have := HW.out.t_bel.size; simp; omega) ?_; intro va3 w6 ho hg; have HO6 := Lib.hid ho; have HG6 := Lib.hid hg; clear ho hg)
                  go_roundg (gn - 1)
                  case measure => omega
                  case rel =>
                    refine ⟨i + 1, _, by go_num, rfl, by omega, okTo_more HOK.out HY.out HGOOD.out (fun q p2 hq hp2 => by
              have hjq : q = j := by have := HJ.out; omega
              subst hjq
              have e := HP.out.symm.trans hp2
              injection e with e
              rw [← e, ← HZP.out, ← HZY.out]
              exact HZZ.out), (HW.out.goes ((Below.refl _ _).alloc (Nat.le_refl _) _)).grows (own_below HO4.out ((Below.refl _ _).alloc (Nat.le_refl _) _)) (Nat.le_refl _) HG6.out, ?_⟩
                    rw [ones_more HY.out, HON.out, ← HONES.out]
                    have h := HO6.out
                    rw [HOL.out] at h
                    exact h
        · have g3 : decide (zp ≥ zy) = true := decide_eq_true (by omega)
          have g4 : decide (zy ≤ zp) = true := decide_eq_true (by omega)
          have hbad := bad_rise (l := sl) HP.out (by rw [HJ.out]; exact HY.out) (by rw [← HZP.out, ← HZY.out]; exact hzz)
          have HBAD := Lib.hid hbad
          clear hbad
          have c0 := HCP.out _ HW.out.t_bel
          obtain ⟨d0, d1'⟩ := HCY.out _ HW.out.t_bel
          clear hzz
          go_wp2
          go_quiet (fail)
          go_wp2
          go_ret
          refine ⟨?_, vbel HW.out.t_bel (drewN_under _ nq)⟩
          rw [HBAD.out]
          rfl
    · have ti : decide ((i : Int) < (na : Int)) = false := decide_eq_false (by omega)
      have HR1 := Lib.hid (okTo_rise HOK.out (by have := HNA.out; omega))
      have HR2 := Lib.hid (okTo_all HOK.out (by have := HNA.out; omega))
      clear HOK HOW HSLOT HXS HFD
      go_wp2
      go_loopg [13] nr (fun gz x13 wr => ∃ q : Nat, x13 = .int .i64 (q : Int) ∧ q + gz = nr ∧ (∀ (j : Nat) r, j < q → rl[j]? = some r → restT m r = true) ∧ RtW w w2.heap.size #[.slice A ne ca, .slice (some ⟨ge, oe, none⟩) nm ca2] #[.slice B na cb, .slice B2 nr cr] #[.string sn, .slice A1 nf c1, .slice A3 nb c3] wr)
      case atStart => exact ⟨0, rfl, by omega, (fun j r hj => absurd hj (Nat.not_lt_zero _)), HW.out⟩
      case round =>
        obtain ⟨q, rfl, hq, hall, hw⟩ := hrel
        have HALL := Lib.hid hall
        replace HW := Lib.hid hw
        clear hall hw
        obtain ⟨g1, hg1⟩ : ∃ g1, g1 = gk := ⟨_, rfl⟩
        subst hg1
        obtain ⟨⟨a0, a1⟩, ⟨t0, t1⟩, m0, m1, m2⟩ := HW.out.cells
        by_cases hltq : q < nr
        · have tq : decide ((q : Int) < (nr : Int)) = true := decide_eq_true (by omega)
          obtain ⟨r, hr⟩ : ∃ r, rl[q]? = some r := ⟨_, List.getElem?_eq_getElem (by have := HNR.out; omega)⟩
          have HRI := Lib.hid hr
          obtain ⟨gr, orr, hB2, _, hcr⟩ := rw_at HXR.out hr
          subst hB2
          have HRG := Lib.hid (fun u => HRIGHT.out r u)
          have HNR2 := Lib.hid (fun u (hb : Below w.heap.size w u) => HNUM.out u hb r.num)
          have HCR : Hid (∀ u, Below w.heap.size w u → u.cell? ⟨gr, orr + q * 4, none⟩ = some (.int .i64 r.num) ∧ u.cell? ⟨gr, orr + q * 4 + 1, none⟩ = some (.int .i64 r.wire) ∧ u.cell? ⟨gr, orr + q * 4 + 2, none⟩ = some (.int .u64 (r.n : Int)) ∧ u.cell? ⟨gr, orr + q * 4 + 3, none⟩ = some (.string (strOf r.s))) := Lib.hid (fun u hb => hcr u (stay_bel hb))
          have HRT : Hid (restT m r = (okR r && decide (numAtT m r.num < 0))) := Lib.hid rfl
          unfold rawV rawCells at HRG
          obtain ⟨v, hv⟩ : ∃ v, v = numAtT m r.num := ⟨_, rfl⟩
          rw [← hv] at HNR2 HRT
          obtain ⟨ok, hok⟩ : ∃ b, b = okR r := ⟨_, rfl⟩
          rw [← hok] at HRG HRT
          clear hr hcr hv hok
          generalize r.num = z0 at *
          generalize r.wire = z1 at *
          generalize (r.n : Int) = z2 at *
          generalize strOf r.s = z3 at *
          have HWY := HW
          replace HW := Lib.hid (HW.out.goes (drewN_under _ 1))
          cases ok with
          | false =>
            have HBAD := Lib.hid (rest_bad (m := m) HRI.out HRT.out)
            go_wp2
            refine wp_region_noPanic ?_
            refine wp_region_held_drew (S := fun u => ((u.cell? ⟨w.heap.size + 1, 1, none⟩ = some (.slice (some ⟨gr, orr, none⟩) nr cr)) ∧ (u.cell? ⟨w2.heap.size, 0, none⟩ = some (.string sn) ∧ u.cell? ⟨w2.heap.size, 1, none⟩ = some (.slice A1 nf c1) ∧ u.cell? ⟨w2.heap.size, 2, none⟩ = some (.slice A3 nb c3))) ∧ (u.cell? ⟨gr, orr + q * 4, none⟩ = some (.int .i64 z0) ∧ u.cell? ⟨gr, orr + q * 4 + 1, none⟩ = some (.int .i64 z1) ∧ u.cell? ⟨gr, orr + q * 4 + 2, none⟩ = some (.int .u64 z2) ∧ u.cell? ⟨gr, orr + q * 4 + 3, none⟩ = some (.string z3))) (by kernel_rfl) ⟨⟨HW.out.cells.2.1.2, HW.out.cells.2.2⟩, HCR.out _ HW.out.t_bel⟩ (fun hHeld => ?_)
            refine take_at (i := 0) (v := ?_) rfl (by kernel_rfl) (by kernel_rfl) (by kernel_rfl) (fun _ _ _ h => h) (Or.inl ⟨by rfl, ?_⟩) hHeld ?_
            case refine_2 => (intro w hSw; (try dsimp only at hSw); go_simp <;> with_reducible rfl)
            try simp only [Act.put, List.setIfInBounds_toArray, List.set_cons_zero, List.set_cons_succ]
            refine take_at (i := 1) (v := ?_) rfl (by kernel_rfl) (by kernel_rfl) (by kernel_rfl) (fun _ _ _ h => h) (Or.inl ⟨by rfl, ?_⟩) hHeld ?_
            case refine_2 => (intro w hSw; (try dsimp only at hSw); go_simp <;> with_reducible rfl)
            try simp only [Act.put, List.setIfInBounds_toArray, List.set_cons_zero, List.set_cons_succ]
            refine take_at (i := 2) (v := ?_) rfl (by kernel_rfl) (by kernel_rfl) (by kernel_rfl) (fun _ _ _ h => h) (Or.inl ⟨by rfl, ?_⟩) hHeld ?_
            case refine_2 => (intro w hSw; (try dsimp only at hSw); go_simp <;> with_reducible rfl)
            try simp only [Act.put, List.setIfInBounds_toArray, List.set_cons_zero, List.set_cons_succ]
            refine take_at (i := 3) (v := ?_) rfl (by kernel_rfl) (by kernel_rfl) (by kernel_rfl) (fun _ _ _ h => h) (Or.inl ⟨by rfl, ?_⟩) hHeld ?_
            case refine_2 => (intro w hSw; (try dsimp only at hSw); go_simp <;> with_reducible rfl)
            try simp only [Act.put, List.setIfInBounds_toArray, List.set_cons_zero, List.set_cons_succ]
            refine take_at (i := 4) (v := ?_) rfl (by kernel_rfl) (by kernel_rfl) (by kernel_rfl) (fun _ _ _ h => h) (Or.inl ⟨by rfl, ?_⟩) hHeld ?_
            case refine_2 => (intro w hSw; (try dsimp only at hSw); go_simp <;> with_reducible rfl)
            try simp only [Act.put, List.setIfInBounds_toArray, List.set_cons_zero, List.set_cons_succ]
            refine wpAnyH_ready (rs := [5]) (by kernel_rfl) (by simp) ?_
            refine ready_at (i := 5) rfl (fun K hK => ?_)
            go_simp
            go_at_call 85; refine (HRG.out _).mono ?_; rintro e w5 ⟨rfl, hw5⟩; replace HW := Lib.hid (HW.out.goes (show Below _ _ w5 by rw [hw5]; exact (Below.refl _ _).alloc (Nat.le_refl _) _)); clear hw5
            clear hHeld
            refine hK.out _ _ (⟨⟨HW.out.cells.2.1.2, HW.out.cells.2.2⟩, HCR.out _ HW.out.t_bel⟩) (fun hHeld => ?_)
            clear hK K
            try simp only [Act.put, List.setIfInBounds_toArray, List.set_cons_zero, List.set_cons_succ]
            refine take_at (i := 6) (v := ?_) rfl (by kernel_rfl) (by kernel_rfl) (by kernel_rfl) (fun _ _ _ h => h) (Or.inl ⟨by rfl, ?_⟩) hHeld ?_
            case refine_2 => (intro w hSw; (try dsimp only at hSw); go_simp <;> with_reducible rfl)
            try simp only [Act.put, List.setIfInBounds_toArray, List.set_cons_zero, List.set_cons_succ]
            refine take_at (i := 7) (v := ?_) rfl (by kernel_rfl) (by kernel_rfl) (by kernel_rfl) (fun _ _ _ h => h) (Or.inl ⟨by rfl, ?_⟩) hHeld ?_
            case refine_2 => (intro w hSw; (try dsimp only at hSw); go_simp <;> with_reducible rfl)
            try simp only [Act.put, List.setIfInBounds_toArray, List.set_cons_zero, List.set_cons_succ]
            refine take_at (i := 8) (v := undef) rfl (by kernel_rfl) (by kernel_rfl) (by kernel_rfl) (fun _ _ _ h => h) (Or.inr ⟨by rfl, rfl⟩) hHeld ?_
            try simp only [Act.put, List.setIfInBounds_toArray, List.set_cons_zero, List.set_cons_succ]
            refine take_at (i := 9) (v := undef) rfl (by kernel_rfl) (by kernel_rfl) (by kernel_rfl) (fun _ _ _ h => h) (Or.inr ⟨by rfl, rfl⟩) hHeld ?_
            try simp only [Act.put, List.setIfInBounds_toArray, List.set_cons_zero, List.set_cons_succ]
            refine take_at (i := 10) (v := undef) rfl (by kernel_rfl) (by kernel_rfl) (by kernel_rfl) (fun _ _ _ h => h) (Or.inr ⟨by rfl, rfl⟩) hHeld ?_
            try simp only [Act.put, List.setIfInBounds_toArray, List.set_cons_zero, List.set_cons_succ]
            refine take_at (i := 11) (v := undef) rfl (by kernel_rfl) (by kernel_rfl) (by kernel_rfl) (fun _ _ _ h => h) (Or.inr ⟨by rfl, rfl⟩) hHeld ?_
            try simp only [Act.put, List.setIfInBounds_toArray, List.set_cons_zero, List.set_cons_succ]
            refine take_at (i := 12) (v := undef) rfl (by kernel_rfl) (by kernel_rfl) (by kernel_rfl) (fun _ _ _ h => h) (Or.inr ⟨by rfl, rfl⟩) hHeld ?_
            try simp only [Act.put, List.setIfInBounds_toArray, List.set_cons_zero, List.set_cons_succ]
            refine take_at (i := 13) (v := undef) rfl (by kernel_rfl) (by kernel_rfl) (by kernel_rfl) (fun _ _ _ h => h) (Or.inr ⟨by rfl, rfl⟩) hHeld ?_
            try simp only [Act.put, List.setIfInBounds_toArray, List.set_cons_zero, List.set_cons_succ]
            refine take_at (i := 14) (v := undef) rfl (by kernel_rfl) (by kernel_rfl) (by kernel_rfl) (fun _ _ _ h => h) (Or.inr ⟨by rfl, rfl⟩) hHeld ?_
            try simp only [Act.put, List.setIfInBounds_toArray, List.set_cons_zero, List.set_cons_succ]
            refine take_at (i := 15) (v := undef) rfl (by kernel_rfl) (by kernel_rfl) (by kernel_rfl) (fun _ _ _ h => h) (Or.inr ⟨by rfl, rfl⟩) hHeld ?_
            try simp only [Act.put, List.setIfInBounds_toArray, List.set_cons_zero, List.set_cons_succ]
            refine take_at (i := 16) (v := undef) rfl (by kernel_rfl) (by kernel_rfl) (by kernel_rfl) (fun _ _ _ h => h) (Or.inr ⟨by rfl, rfl⟩) hHeld ?_
            try simp only [Act.put, List.setIfInBounds_toArray, List.set_cons_zero, List.set_cons_succ]
            refine take_at (i := 17) (v := ?_) rfl (by kernel_rfl) (by kernel_rfl) (by kernel_rfl) (fun _ _ _ h => h) (Or.inl ⟨by rfl, ?_⟩) hHeld ?_
            case refine_2 => (intro w hSw; (try dsimp only at hSw); go_simp <;> with_reducible rfl)
            try simp only [Act.put, List.setIfInBounds_toArray, List.set_cons_zero, List.set_cons_succ]
            refine wpAnyH_done (by kernel_rfl) ?_ _
            refine NoPanic.normal ?_
            clear hHeld
            go_wp2
            go_ret
            refine ⟨?_, HW.out.t_bel⟩
            rw [HBAD.out]
            simp
          | true =>
            by_cases hv0 : v < 0
            · have f1 : decide (v ≥ 0) = false := decide_eq_false (by omega)
              have f2 : decide (0 ≤ v) = false := decide_eq_false (by omega)
              rw [decide_eq_true hv0] at HRT
              clear hv0
              go_wp2
              go_region_held3 (fun u => ((u.cell? ⟨w.heap.size + 1, 1, none⟩ = some (.slice (some ⟨gr, orr, none⟩) nr cr)) ∧ (u.cell? ⟨w2.heap.size, 0, none⟩ = some (.string sn) ∧ u.cell? ⟨w2.heap.size, 1, none⟩ = some (.slice A1 nf c1) ∧ u.cell? ⟨w2.heap.size, 2, none⟩ = some (.slice A3 nb c3))) ∧ (u.cell? ⟨gr, orr + q * 4, none⟩ = some (.int .i64 z0) ∧ u.cell? ⟨gr, orr + q * 4 + 1, none⟩ = some (.int .i64 z1) ∧ u.cell? ⟨gr, orr + q * 4 + 2, none⟩ = some (.int .u64 z2) ∧ u.cell? ⟨gr, orr + q * 4 + 3, none⟩ = some (.string z3)))
                (first | exact ⟨⟨HW.out.cells.2.1.2, HW.out.cells.2.2⟩, HCR.out _ HW.out.t_bel⟩ | exact ⟨⟨HWY.out.cells.2.1.2, HWY.out.cells.2.2⟩, HCR.out _ HWY.out.t_bel⟩)
                (first
                  | (go_at_call 85; refine (HRG.out _).mono ?_; rintro e w5 ⟨rfl, hw5⟩; replace HW := Lib.hid (HW.out.goes (show Below _ _ w5 by rw [hw5]; exact (Below.refl _ _).alloc (Nat.le_refl _) _)); clear hw5)
                  | (go_at_call 84; refine (HNR2.out _ HW.out.t_bel).mono ?_; rintro e w6 ⟨rfl, hb⟩; replace HW := Lib.hid (HW.out.goes hb); clear hb))
              go_wp2
              go_roundg (g1 - 1)
              case measure => omega
              case rel => exact ⟨q + 1, by go_num, by omega, (fun j u hj hu => by
                by_cases hjq : j < q
                · exact HALL.out j u hjq hu
                · obtain rfl : j = q := by omega
                  have e := HRI.out.symm.trans hu
                  injection e with e
                  rw [← e]
                  exact HRT.out), HW.out⟩
            · have f1 : decide (v ≥ 0) = true := decide_eq_true (by omega)
              have f2 : decide (0 ≤ v) = true := decide_eq_true (by omega)
              rw [decide_eq_false hv0] at HRT
              have HBAD := Lib.hid (rest_bad (m := m) HRI.out HRT.out)
              clear hv0
              go_wp2
              go_region_held3 (fun u => ((u.cell? ⟨w.heap.size + 1, 1, none⟩ = some (.slice (some ⟨gr, orr, none⟩) nr cr)) ∧ (u.cell? ⟨w2.heap.size, 0, none⟩ = some (.string sn) ∧ u.cell? ⟨w2.heap.size, 1, none⟩ = some (.slice A1 nf c1) ∧ u.cell? ⟨w2.heap.size, 2, none⟩ = some (.slice A3 nb c3))) ∧ (u.cell? ⟨gr, orr + q * 4, none⟩ = some (.int .i64 z0) ∧ u.cell? ⟨gr, orr + q * 4 + 1, none⟩ = some (.int .i64 z1) ∧ u.cell? ⟨gr, orr + q * 4 + 2, none⟩ = some (.int .u64 z2) ∧ u.cell? ⟨gr, orr + q * 4 + 3, none⟩ = some (.string z3)))
                (first | exact ⟨⟨HW.out.cells.2.1.2, HW.out.cells.2.2⟩, HCR.out _ HW.out.t_bel⟩ | exact ⟨⟨HWY.out.cells.2.1.2, HWY.out.cells.2.2⟩, HCR.out _ HWY.out.t_bel⟩)
                (first
                  | (go_at_call 85; refine (HRG.out _).mono ?_; rintro e w5 ⟨rfl, hw5⟩; replace HW := Lib.hid (HW.out.goes (show Below _ _ w5 by rw [hw5]; exact (Below.refl _ _).alloc (Nat.le_refl _) _)); clear hw5)
                  | (go_at_call 84; refine (HNR2.out _ HW.out.t_bel).mono ?_; rintro e w6 ⟨rfl, hb⟩; replace HW := Lib.hid (HW.out.goes hb); clear hb))
              go_wp2
              go_ret
              refine ⟨?_, HW.out.t_bel⟩
              rw [HBAD.out]
              simp
        · have tq : decide ((q : Int) < (nr : Int)) = false := decide_eq_false (by omega)
          have HR3 := Lib.hid (rest_pts (m := m) HALL.out (by have := HNR.out; omega))
          go_wp2
          go_ret
          refine ⟨?_, HW.out.t_bel⟩
          rw [HR1.out, HR2.out, HR3.out]
          rfl
theorem rvtree_any (s : Sc) : ∀ n, RTree s n
  | 0 => rvtree_step (fun k hk => by omega)
  | n + 1 => rvtree_step (fun k hk => by
      obtain rfl : n = k := by omega
      exact rvtree_any s n)
end Go.Proofs.YtloheacncefkgaaGreatDoor

/- The document's layer 21: a slot's bytes. Conditions: those that each theorem names. -/
namespace Go.Proofs.YtloheacncefkgaaGreatDoor
open Go.RowKit
set_option linter.unusedVariables false
set_option maxRecDepth 100000

/-- The document's Bytes of trees at a level. -/
def RBytes (s : Sc) (n : Nat) : Prop := ∀ (SS : Nat → Nat → Prop) (S : Nat → Prop) (w : World) (A : Option Addr) (ne ca : Nat) (A2 : Option Addr) (nm ca2 : Nat) (name : List UInt8) (B : Option Addr) (na cb : Nat) (B2 : Option Addr) (nr cr : Nat) (x : Tr),
 ScAt SS w A ne ca A2 nm ca2 s → TrAt S n w B na cb B2 nr cr x → treeN s (n + 1) name x = true → OkN (n + 1) x → costN (n + 1) x ≤ 1000000000 →
 Calls Tryz.prog 37 #[.agg #[.slice A ne ca, .slice A2 nm ca2], .string (strOf name), .agg #[.slice B na cb, .slice B2 nr cr]] w (GivesOwn w (encN s (n + 1) name x))
theorem own_lower {w : World} {b b' : Nat} {e : TypeId} {v : Value} {m : Nat} {cs : List Value} (h : w.ownsRow b e 1 v m cs) (hb : b' ≤ b) : w.ownsRow b' e 1 v m cs := by
 refine ⟨h.1, h.2.imp id ?_⟩
 rintro ⟨g, cap, cur, rfl, h1, h2⟩
 exact ⟨g, cap, cur, rfl, Nat.le_trans hb h1, h2⟩
theorem putR_room {l : List Rw} {k : Nat} {x : Rw} {M : Nat} (h : l[k]? = some x) (hM : (putR l).length ≤ M) : (putR (l.take k)).length + (bytesR x).length ≤ M := by
 have h1 := putR_take h
 have h2 := putR_append (l.take (k + 1)) (l.drop (k + 1))
 rw [List.take_append_drop] at h2
 rw [h2, h1, List.length_append, List.length_append] at hM
 omega
theorem eRaw_num {E : List UInt8 → Tr → List UInt8} {f : Fd} {v : Va} (h : numberT f.ty = true) : eRaw E f v = ⟨f.num, wireT f.ty, toT f.ty v.vn, []⟩ := by unfold eRaw; rw [if_pos h]
theorem eRaw_msg {E : List UInt8 → Tr → List UInt8} {f : Fd} {v : Va} {t : Tr} (h : numberT f.ty = false) (h15 : f.ty = 15) (ht : v.vm = [t]) : eRaw E f v = ⟨f.num, 2, 0, E f.ref t⟩ := by
 unfold eRaw; rw [if_neg (by rw [h]; decide), if_pos h15, ht]; rfl
theorem eRaw_txt {E : List UInt8 → Tr → List UInt8} {f : Fd} {v : Va} (h : numberT f.ty = false) (h15 : f.ty ≠ 15) : eRaw E f v = ⟨f.num, 2, 0, v.vs⟩ := by
 unfold eRaw; rw [if_neg (by rw [h]; decide), if_neg h15]
theorem sRaws_not {E : List UInt8 → Tr → List UInt8} {f : Fd} {l : List Va} (h : packedT f = false) : sRaws E f l = l.map (eRaw E f) := by unfold sRaws; rw [if_neg (by rw [h]; decide)]

set_option maxHeartbeats 8000000 in
theorem ruslot_num {s : Sc} {n : Nat} {SS : Nat → Nat → Prop} {S : Nat → Prop} (H : ∀ k, n = k + 1 → RBytes s k) (w : World) {A A2 : Option Addr} {ne ca nm ca2 : Nat} (h : ScAt SS w A ne ca A2 nm ca2 s) (f : Fd) (l : List Va) {B1 : Option Addr} {ln d1 : Nat} (hln : ln = l.length) (hv : VsAt S n w B1 d1 l) (hval : ∀ v ∈ l, valT (treeN s n) f v = true)
 (hok : ∀ v ∈ l, v.vn < 18446744073709551616 ∧ ∀ u ∈ v.vm, OkN n u ∧ costN n u ≤ 1000000000) (RL : List Rw) (hRL : RL = l.map (eRaw (encN s n) f)) (hraw : ∀ r ∈ RL, okR r = true ∧ r.n < 18446744073709551616 ∧ r.s.length ≤ 140737488351232) (htot : (putR RL).length ≤ 140737488351232) (hpk : packedT f = false) (hnum : numberT f.ty = true) :
 Calls Tryz.prog 86 #[.agg #[.slice A ne ca, .slice A2 nm ca2], fdV f, .slice B1 ln d1] w (GivesOwn w (putR RL)) := by
 obtain ⟨i0, hi, hz0, hz1, hz2⟩ := info_parts info_u8
 have q3 := hv.l_le
 have q4 := hv.l_max
 unfold maxLen at q4
 rw [← hln] at q3
 have HPA := Lib.hid (fun u => rfpacked_any f u)
 rw [hpk] at HPA
 have HVS := Lib.hid hv
 have HN := Lib.hid (fun u => rsnumber_any f.ty u)
 have HLN := Lib.hid hln
 have HTOT := Lib.hid htot
 have HLR : Hid (RL.length = ln) := Lib.hid (by rw [hRL, List.length_map, hln])
 have HWI := Lib.hid (fun u => (rswire_any f.ty u).mono fun _ _ h => And.intro h.1 h.2.symm)
 have HR : Hid (∀ (k : Nat) v, l[k]? = some v → ∃ r, RL[k]? = some r ∧ (∀ u, Calls Tryz.prog 41 #[.int .i64 f.ty, .int .u64 (v.vn : Int)] u fun e w' => e = .returned (.int .u64 (toT f.ty v.vn : Int)) ∧ w' = u) ∧ ∀ u, Calls Tryz.prog 126 #[.int .i64 f.num, .int .i64 (wireT f.ty), .int .u64 (toT f.ty v.vn : Int), .string ⟨#[]⟩] u (GivesOwn u (bytesR r))) := Lib.hid (fun k v hk => by
  have hr : RL[k]? = some ⟨f.num, wireT f.ty, toT f.ty v.vn, []⟩ := by rw [hRL, List.getElem?_map, hk]; exact congrArg some (eRaw_num hnum)
  obtain ⟨r1, r2, r3⟩ := hraw _ (List.mem_of_getElem? hr)
  exact ⟨_, hr, fun u => (rnto_any f.ty v.vn u (hok v (List.mem_of_getElem? hk)).1).mono fun _ _ h => And.intro h.1 h.2.symm, fun u => rbytes_raw _ u r1 r2 r3⟩)
 clear hval hok hraw htot hpk hln hv
 obtain ⟨name, num, ty, ref, rep, loose, one⟩ := f
 unfold fdV at HPA ⊢
 dsimp only at *
 rw [hnum] at HN
 generalize strOf name = s0 at *
 generalize strOf one = s6 at *
 obtain ⟨s3, hs3⟩ : ∃ s3, s3 = strOf ref := ⟨_, rfl⟩
 rw [← hs3] at HPA ⊢
 have HS3 := Lib.hid hs3
 clear hs3 hRL
 obtain ⟨w1, hw1⟩ : ∃ w1, w1 = ((w.alloc (.cells #[.slice A ne ca, .slice A2 nm ca2] 25)).alloc (.cells #[.string s0, .int .i64 num, .int .i64 ty, .string s3, .bool rep, .bool loose, .string s6] 44)) := ⟨_, rfl⟩
 have hbx := bx2_start w #[.slice A ne ca, .slice A2 nm ca2] #[.string s0, .int .i64 num, .int .i64 ty, .string s3, .bool rep, .bool loose, .string s6] 25 44
 rw [← hw1] at hbx
 have hsz : w1.heap.size = w.heap.size + 1 + 1 := by rw [hw1]; simp
 have HS1 := Lib.hid hsz
 have HK : Hid (∀ u, Below (w.heap.size + 1 + 1) w1 u → (u.cell? ⟨w.heap.size, 0, none⟩ = some (.slice A ne ca) ∧ u.cell? ⟨w.heap.size, 1, none⟩ = some (.slice A2 nm ca2)) ∧ (u.cell? ⟨w.heap.size + 1, 0, none⟩ = some (.string s0) ∧ u.cell? ⟨w.heap.size + 1, 1, none⟩ = some (.int .i64 num) ∧ u.cell? ⟨w.heap.size + 1, 2, none⟩ = some (.int .i64 ty) ∧ u.cell? ⟨w.heap.size + 1, 3, none⟩ = some (.string s3) ∧ u.cell? ⟨w.heap.size + 1, 4, none⟩ = some (.bool rep) ∧ u.cell? ⟨w.heap.size + 1, 5, none⟩ = some (.bool loose) ∧ u.cell? ⟨w.heap.size + 1, 6, none⟩ = some (.string s6))) := Lib.hid (fun u hb => by
  have hu := bx2_step hbx (hsz ▸ hb)
  exact ⟨⟨obj_cell hu.b2_one 0, obj_cell hu.b2_one 1⟩, obj_cell hu.b2_two 0, obj_cell hu.b2_two 1, obj_cell hu.b2_two 2, obj_cell hu.b2_two 3, obj_cell hu.b2_two 4, obj_cell hu.b2_two 5, obj_cell hu.b2_two 6⟩)
 have HT : Hid (∀ u, Below (w.heap.size + 1 + 1) w1 u → Below w.heap.size w u) := Lib.hid (fun u hb => hbx.b2_bel.trans (hb.mono (by omega)))
 have h0 := World.ownsRow_made (base := w1.heap.size) (e := 5) (size := 1) w1 #[] 0 (Nat.le_refl _) (by decide) rfl
 have h1 : Below w1.heap.size w1 (w1.alloc (.cells #[] 5)) := (Below.refl _ w1).alloc (Nat.le_refl _) _
 have HO : Hid ((((w.alloc (.cells #[.slice A ne ca, .slice A2 nm ca2] 25)).alloc (.cells #[.string s0, .int .i64 num, .int .i64 ty, .string s3, .bool rep, .bool loose, .string s6] 44)).alloc (.cells #[] 5)).ownsRow (w.heap.size + 1 + 1) 5 1 (.slice (some ⟨w.heap.size + 1 + 1, 0, none⟩) 0 0) 0 (cellsOf (putR (RL.take 0)))) := Lib.hid (by rw [← hw1, ← hsz]; exact h0)
 have HC : Hid (Below (w.heap.size + 1 + 1) w1 (((w.alloc (.cells #[.slice A ne ca, .slice A2 nm ca2] 25)).alloc (.cells #[.string s0, .int .i64 num, .int .i64 ty, .string s3, .bool rep, .bool loose, .string s6] 44)).alloc (.cells #[] 5))) := Lib.hid (by rw [← hw1, ← hsz]; exact h1)
 clear hbx hsz h0 h1 hw1
 obtain ⟨⟨a0, a1⟩, f0, f1, f2, f3, f4, f5, f6⟩ := HK.out _ HC.out
 go_enter Tryz.func86, Tryz.ntmps86
 go_wp2_with (go_at_call 125; refine (HPA.out _).mono ?_; rintro e w2 ⟨rfl, hb⟩; replace HO := Lib.hid (own_below HO.out hb); replace HC := Lib.hid (HC.out.trans (hb.mono (Nat.le_trans (Nat.le_of_eq HS1.out.symm) HC.out.size))); clear hb)
 clear a0 a1 f0 f1 f2 f3 f4 f5 f6
 go_loopw [7, 10] (fun x7 x10 wr => ∃ (k m : Nat) (vo : Value), k ≤ ln ∧ x10 = .int .i64 (k : Int) ∧ x7 = vo ∧ wr.ownsRow (w.heap.size + 1 + 1) 5 1 vo m (cellsOf (putR (RL.take k))) ∧ Below (w.heap.size + 1 + 1) w1 wr) (fun _ x _ => ln - (intOf x).toNat)
 case atStart => exact ⟨0, 0, _, Nat.zero_le _, rfl, rfl, HO.out, HC.out⟩
 case round =>
  obtain ⟨k, m, vo, hk, rfl, rfl, hown, hbel⟩ := hrel
  replace HC := Lib.hid hbel
  clear HO
  obtain ⟨⟨a0, a1⟩, f0, f1, f2, f3, f4, f5, f6⟩ := HK.out _ HC.out
  by_cases hlt : k < ln
  ·have g1 : decide ((k : Int) < (ln : Int)) = true := decide_eq_true (by omega)
   obtain ⟨v, hv⟩ : ∃ v, l[k]? = some v := ⟨_, List.getElem?_eq_getElem (by have := HLN.out; omega)⟩
   obtain ⟨gv, ov, C, cc, rfl, _, hcv, hkv⟩ := va_at HVS.out hv
   have HCV : Hid (∀ u, Below w.heap.size w u → u.cell? ⟨gv, ov + k * 3, none⟩ = some (.int .u64 (v.vn : Int)) ∧ u.cell? ⟨gv, ov + k * 3 + 1, none⟩ = some (.string (strOf v.vs)) ∧ u.cell? ⟨gv, ov + k * 3 + 2, none⟩ = some (.slice C v.vm.length cc)) := Lib.hid (fun u hb => hcv u (stay_bel hb))
   obtain ⟨r, hr, hto, hby⟩ := HR.out k v hv
   have HTX := Lib.hid hto
   have HBY := Lib.hid hby
   generalize (toT ty v.vn : Int) = tv at *
   clear hto hby
   have hroom := putR_room hr HTOT.out
   have HPT := Lib.hid (putR_take hr)
   obtain ⟨pre, hpre⟩ : ∃ pre, pre = putR (RL.take k) := ⟨_, rfl⟩
   rw [← hpre] at hown HPT hroom
   obtain ⟨hm, Av, capv, hv0, hBs⟩ := Bs.own hown
   subst hv0
   obtain ⟨fb, hfb⟩ : ∃ fb, fb = bytesR r := ⟨_, rfl⟩
   rw [← hfb] at HPT hroom HBY
   have HROOM := Lib.hid hroom
   have HOWN := Lib.hid (own_below hown (drewN_under wr 1))
   have HC0 := HC
   replace HC := Lib.hid (HC.out.trans ((drewN_under wr 1).mono (Nat.le_trans (Nat.le_of_eq HS1.out.symm) HC.out.size)))
   generalize strOf v.vs = sv at *
   generalize (v.vn : Int) = zv at *
   clear hown hbel hpre hfb hm hBs hr hroom hcv hkv hv
   go_wp2_with (go_at_call 40; refine (HN.out _).mono ?_; rintro e w2 ⟨rfl, rfl⟩)
   go_region_held3 (fun u => ((u.cell? ⟨w.heap.size, 0, none⟩ = some (.slice A ne ca) ∧ u.cell? ⟨w.heap.size, 1, none⟩ = some (.slice A2 nm ca2)) ∧ (u.cell? ⟨w.heap.size + 1, 0, none⟩ = some (.string s0) ∧ u.cell? ⟨w.heap.size + 1, 1, none⟩ = some (.int .i64 num) ∧ u.cell? ⟨w.heap.size + 1, 2, none⟩ = some (.int .i64 ty) ∧ u.cell? ⟨w.heap.size + 1, 3, none⟩ = some (.string s3) ∧ u.cell? ⟨w.heap.size + 1, 4, none⟩ = some (.bool rep) ∧ u.cell? ⟨w.heap.size + 1, 5, none⟩ = some (.bool loose) ∧ u.cell? ⟨w.heap.size + 1, 6, none⟩ = some (.string s6))) ∧ (u.cell? ⟨gv, ov + k * 3, none⟩ = some (.int .u64 zv) ∧ u.cell? ⟨gv, ov + k * 3 + 1, none⟩ = some (.string sv) ∧ u.cell? ⟨gv, ov + k * 3 + 2, none⟩ = some (.slice C v.vm.length cc)))
    (first | exact ⟨HK.out _ HC.out, HCV.out _ (HT.out _ HC.out)⟩ | exact ⟨HK.out _ HC0.out, HCV.out _ (HT.out _ HC0.out)⟩)
    (first
     | (go_at_call 42; refine (HWI.out _).mono ?_; rintro e w2 ⟨rfl, rfl⟩)
     | (go_at_call 41; refine (HTX.out _).mono ?_; rintro e w2 ⟨rfl, rfl⟩)
     | (go_at_call 126
        refine (HBY.out _).mono ?_
        rintro e w3 ⟨v2, n2, rfl, ho2, hb2⟩
        obtain ⟨hn2, A9, cap9, hv2, hBs2⟩ := Bs.own ho2
        subst hv2
        replace HC := Lib.hid (HC.out.trans (hb2.mono (Nat.le_trans (Nat.le_of_eq HS1.out.symm) HC.out.size)))
        replace HOWN := Lib.hid (own_below HOWN.out hb2)
        have HBS := Lib.hid hBs2
        clear ho2 hb2 hBs2 hn2)
     | (refine step_append_bs rfl _ _ (by rfl) (by rfl) HOWN.out (by rfl) HBS.out rfl (by have := HROOM.out; omega) (Nat.le_trans (Nat.le_of_eq HS1.out.symm) HC.out.size) ?_
        intro v3 w4 ho3 hg3
        have HO3 := Lib.hid ho3
        replace HC := Lib.hid (HC.out.grown hg3 (Nat.le_trans (Nat.le_of_eq HS1.out.symm) HC.out.size) (fun j hj => (HOWN.out.lt j hj).1))
        clear ho3 hg3))
   go_wp2
   go_roundw
   case rel => exact ⟨k + 1, _, _, by omega, by go_num, rfl, by rw [HPT.out]; exact HO3.out, HC.out⟩
   case measure => simp [intOf]; omega
  ·have g1 : decide ((k : Int) < (ln : Int)) = false := decide_eq_false (by omega)
   have e : RL.take k = RL := List.take_of_length_le (by have := HLR.out; omega)
   rw [e] at hown
   have HOW := Lib.hid (own_lower (b' := w.heap.size) hown (by omega))
   have HBF := Lib.hid (HT.out _ hbel)
   clear hown hbel e
   go_wp2
   go_ret
   exact ⟨_, m, rfl, HOW.out, HBF.out⟩
set_option maxHeartbeats 8000000 in
theorem ruslot_txt {s : Sc} {n : Nat} {SS : Nat → Nat → Prop} {S : Nat → Prop} (H : ∀ k, n = k + 1 → RBytes s k) (w : World) {A A2 : Option Addr} {ne ca nm ca2 : Nat} (h : ScAt SS w A ne ca A2 nm ca2 s) (f : Fd) (l : List Va) {B1 : Option Addr} {ln d1 : Nat} (hln : ln = l.length) (hv : VsAt S n w B1 d1 l) (hval : ∀ v ∈ l, valT (treeN s n) f v = true)
 (hok : ∀ v ∈ l, v.vn < 18446744073709551616 ∧ ∀ u ∈ v.vm, OkN n u ∧ costN n u ≤ 1000000000) (RL : List Rw) (hRL : RL = l.map (eRaw (encN s n) f)) (hraw : ∀ r ∈ RL, okR r = true ∧ r.n < 18446744073709551616 ∧ r.s.length ≤ 140737488351232) (htot : (putR RL).length ≤ 140737488351232) (hpk : packedT f = false) (hnum : numberT f.ty = false) (h15 : f.ty ≠ 15) :
 Calls Tryz.prog 86 #[.agg #[.slice A ne ca, .slice A2 nm ca2], fdV f, .slice B1 ln d1] w (GivesOwn w (putR RL)) := by
 obtain ⟨i0, hi, hz0, hz1, hz2⟩ := info_parts info_u8
 have q3 := hv.l_le
 have q4 := hv.l_max
 unfold maxLen at q4
 rw [← hln] at q3
 have HPA := Lib.hid (fun u => rfpacked_any f u)
 rw [hpk] at HPA
 have HVS := Lib.hid hv
 have HN := Lib.hid (fun u => rsnumber_any f.ty u)
 have HLN := Lib.hid hln
 have HTOT := Lib.hid htot
 have HLR : Hid (RL.length = ln) := Lib.hid (by rw [hRL, List.length_map, hln])
 have HR : Hid (∀ (k : Nat) v, l[k]? = some v → ∃ r, RL[k]? = some r ∧ ∀ u, Calls Tryz.prog 126 #[.int .i64 f.num, .int .i64 2, .int .u64 0, .string (strOf v.vs)] u (GivesOwn u (bytesR r))) := Lib.hid (fun k v hk => by
  have hr : RL[k]? = some ⟨f.num, 2, 0, v.vs⟩ := by rw [hRL, List.getElem?_map, hk]; exact congrArg some (eRaw_txt hnum h15)
  obtain ⟨r1, r2, r3⟩ := hraw _ (List.mem_of_getElem? hr)
  exact ⟨_, hr, fun u => rbytes_raw _ u r1 r2 r3⟩)
 clear hval hok hraw htot hpk hln hv
 obtain ⟨name, num, ty, ref, rep, loose, one⟩ := f
 unfold fdV at HPA ⊢
 dsimp only at *
 rw [hnum] at HN
 have e15 := beq_false_of_ne h15
 generalize strOf name = s0 at *
 generalize strOf one = s6 at *
 obtain ⟨s3, hs3⟩ : ∃ s3, s3 = strOf ref := ⟨_, rfl⟩
 rw [← hs3] at HPA ⊢
 have HS3 := Lib.hid hs3
 clear hs3 hRL
 obtain ⟨w1, hw1⟩ : ∃ w1, w1 = ((w.alloc (.cells #[.slice A ne ca, .slice A2 nm ca2] 25)).alloc (.cells #[.string s0, .int .i64 num, .int .i64 ty, .string s3, .bool rep, .bool loose, .string s6] 44)) := ⟨_, rfl⟩
 have hbx := bx2_start w #[.slice A ne ca, .slice A2 nm ca2] #[.string s0, .int .i64 num, .int .i64 ty, .string s3, .bool rep, .bool loose, .string s6] 25 44
 rw [← hw1] at hbx
 have hsz : w1.heap.size = w.heap.size + 1 + 1 := by rw [hw1]; simp
 have HS1 := Lib.hid hsz
 have HK : Hid (∀ u, Below (w.heap.size + 1 + 1) w1 u → (u.cell? ⟨w.heap.size, 0, none⟩ = some (.slice A ne ca) ∧ u.cell? ⟨w.heap.size, 1, none⟩ = some (.slice A2 nm ca2)) ∧ (u.cell? ⟨w.heap.size + 1, 0, none⟩ = some (.string s0) ∧ u.cell? ⟨w.heap.size + 1, 1, none⟩ = some (.int .i64 num) ∧ u.cell? ⟨w.heap.size + 1, 2, none⟩ = some (.int .i64 ty) ∧ u.cell? ⟨w.heap.size + 1, 3, none⟩ = some (.string s3) ∧ u.cell? ⟨w.heap.size + 1, 4, none⟩ = some (.bool rep) ∧ u.cell? ⟨w.heap.size + 1, 5, none⟩ = some (.bool loose) ∧ u.cell? ⟨w.heap.size + 1, 6, none⟩ = some (.string s6))) := Lib.hid (fun u hb => by
  have hu := bx2_step hbx (hsz ▸ hb)
  exact ⟨⟨obj_cell hu.b2_one 0, obj_cell hu.b2_one 1⟩, obj_cell hu.b2_two 0, obj_cell hu.b2_two 1, obj_cell hu.b2_two 2, obj_cell hu.b2_two 3, obj_cell hu.b2_two 4, obj_cell hu.b2_two 5, obj_cell hu.b2_two 6⟩)
 have HT : Hid (∀ u, Below (w.heap.size + 1 + 1) w1 u → Below w.heap.size w u) := Lib.hid (fun u hb => hbx.b2_bel.trans (hb.mono (by omega)))
 have h0 := World.ownsRow_made (base := w1.heap.size) (e := 5) (size := 1) w1 #[] 0 (Nat.le_refl _) (by decide) rfl
 have h1 : Below w1.heap.size w1 (w1.alloc (.cells #[] 5)) := (Below.refl _ w1).alloc (Nat.le_refl _) _
 have HO : Hid ((((w.alloc (.cells #[.slice A ne ca, .slice A2 nm ca2] 25)).alloc (.cells #[.string s0, .int .i64 num, .int .i64 ty, .string s3, .bool rep, .bool loose, .string s6] 44)).alloc (.cells #[] 5)).ownsRow (w.heap.size + 1 + 1) 5 1 (.slice (some ⟨w.heap.size + 1 + 1, 0, none⟩) 0 0) 0 (cellsOf (putR (RL.take 0)))) := Lib.hid (by rw [← hw1, ← hsz]; exact h0)
 have HC : Hid (Below (w.heap.size + 1 + 1) w1 (((w.alloc (.cells #[.slice A ne ca, .slice A2 nm ca2] 25)).alloc (.cells #[.string s0, .int .i64 num, .int .i64 ty, .string s3, .bool rep, .bool loose, .string s6] 44)).alloc (.cells #[] 5))) := Lib.hid (by rw [← hw1, ← hsz]; exact h1)
 clear hbx hsz h0 h1 hw1
 obtain ⟨⟨a0, a1⟩, f0, f1, f2, f3, f4, f5, f6⟩ := HK.out _ HC.out
 go_enter Tryz.func86, Tryz.ntmps86
 go_wp2_with (go_at_call 125; refine (HPA.out _).mono ?_; rintro e w2 ⟨rfl, hb⟩; replace HO := Lib.hid (own_below HO.out hb); replace HC := Lib.hid (HC.out.trans (hb.mono (Nat.le_trans (Nat.le_of_eq HS1.out.symm) HC.out.size))); clear hb)
 clear a0 a1 f0 f1 f2 f3 f4 f5 f6
 go_loopw [7, 10] (fun x7 x10 wr => ∃ (k m : Nat) (vo : Value), k ≤ ln ∧ x10 = .int .i64 (k : Int) ∧ x7 = vo ∧ wr.ownsRow (w.heap.size + 1 + 1) 5 1 vo m (cellsOf (putR (RL.take k))) ∧ Below (w.heap.size + 1 + 1) w1 wr) (fun _ x _ => ln - (intOf x).toNat)
 case atStart => exact ⟨0, 0, _, Nat.zero_le _, rfl, rfl, HO.out, HC.out⟩
 case round =>
  obtain ⟨k, m, vo, hk, rfl, rfl, hown, hbel⟩ := hrel
  replace HC := Lib.hid hbel
  clear HO
  obtain ⟨⟨a0, a1⟩, f0, f1, f2, f3, f4, f5, f6⟩ := HK.out _ HC.out
  by_cases hlt : k < ln
  ·have g1 : decide ((k : Int) < (ln : Int)) = true := decide_eq_true (by omega)
   obtain ⟨v, hv⟩ : ∃ v, l[k]? = some v := ⟨_, List.getElem?_eq_getElem (by have := HLN.out; omega)⟩
   obtain ⟨gv, ov, C, cc, rfl, _, hcv, hkv⟩ := va_at HVS.out hv
   have HCV : Hid (∀ u, Below w.heap.size w u → u.cell? ⟨gv, ov + k * 3, none⟩ = some (.int .u64 (v.vn : Int)) ∧ u.cell? ⟨gv, ov + k * 3 + 1, none⟩ = some (.string (strOf v.vs)) ∧ u.cell? ⟨gv, ov + k * 3 + 2, none⟩ = some (.slice C v.vm.length cc)) := Lib.hid (fun u hb => hcv u (stay_bel hb))
   obtain ⟨r, hr, hby⟩ := HR.out k v hv
   have HBY := Lib.hid hby
   clear hby
   have hroom := putR_room hr HTOT.out
   have HPT := Lib.hid (putR_take hr)
   obtain ⟨pre, hpre⟩ : ∃ pre, pre = putR (RL.take k) := ⟨_, rfl⟩
   rw [← hpre] at hown HPT hroom
   obtain ⟨hm, Av, capv, hv0, hBs⟩ := Bs.own hown
   subst hv0
   obtain ⟨fb, hfb⟩ : ∃ fb, fb = bytesR r := ⟨_, rfl⟩
   rw [← hfb] at HPT hroom HBY
   have HROOM := Lib.hid hroom
   have HOWN := Lib.hid (own_below hown (drewN_under wr 1))
   have HC0 := HC
   replace HC := Lib.hid (HC.out.trans ((drewN_under wr 1).mono (Nat.le_trans (Nat.le_of_eq HS1.out.symm) HC.out.size)))
   generalize strOf v.vs = sv at *
   generalize (v.vn : Int) = zv at *
   clear hown hbel hpre hfb hm hBs hr hroom hcv hkv hv
   go_wp2_with (go_at_call 40; refine (HN.out _).mono ?_; rintro e w2 ⟨rfl, rfl⟩)
   go_region_held3 (fun u => ((u.cell? ⟨w.heap.size, 0, none⟩ = some (.slice A ne ca) ∧ u.cell? ⟨w.heap.size, 1, none⟩ = some (.slice A2 nm ca2)) ∧ (u.cell? ⟨w.heap.size + 1, 0, none⟩ = some (.string s0) ∧ u.cell? ⟨w.heap.size + 1, 1, none⟩ = some (.int .i64 num) ∧ u.cell? ⟨w.heap.size + 1, 2, none⟩ = some (.int .i64 ty) ∧ u.cell? ⟨w.heap.size + 1, 3, none⟩ = some (.string s3) ∧ u.cell? ⟨w.heap.size + 1, 4, none⟩ = some (.bool rep) ∧ u.cell? ⟨w.heap.size + 1, 5, none⟩ = some (.bool loose) ∧ u.cell? ⟨w.heap.size + 1, 6, none⟩ = some (.string s6))) ∧ (u.cell? ⟨gv, ov + k * 3, none⟩ = some (.int .u64 zv) ∧ u.cell? ⟨gv, ov + k * 3 + 1, none⟩ = some (.string sv) ∧ u.cell? ⟨gv, ov + k * 3 + 2, none⟩ = some (.slice C v.vm.length cc)))
    (first | exact ⟨HK.out _ HC.out, HCV.out _ (HT.out _ HC.out)⟩ | exact ⟨HK.out _ HC0.out, HCV.out _ (HT.out _ HC0.out)⟩)
    (first

     | (go_at_call 126
        refine (HBY.out _).mono ?_
        rintro e w3 ⟨v2, n2, rfl, ho2, hb2⟩
        obtain ⟨hn2, A9, cap9, hv2, hBs2⟩ := Bs.own ho2
        subst hv2
        replace HC := Lib.hid (HC.out.trans (hb2.mono (Nat.le_trans (Nat.le_of_eq HS1.out.symm) HC.out.size)))
        replace HOWN := Lib.hid (own_below HOWN.out hb2)
        have HBS := Lib.hid hBs2
        clear ho2 hb2 hBs2 hn2)
     | (refine step_append_bs rfl _ _ (by rfl) (by rfl) HOWN.out (by rfl) HBS.out rfl (by have := HROOM.out; omega) (Nat.le_trans (Nat.le_of_eq HS1.out.symm) HC.out.size) ?_
        intro v3 w4 ho3 hg3
        have HO3 := Lib.hid ho3
        replace HC := Lib.hid (HC.out.grown hg3 (Nat.le_trans (Nat.le_of_eq HS1.out.symm) HC.out.size) (fun j hj => (HOWN.out.lt j hj).1))
        clear ho3 hg3))
   go_wp2
   go_roundw
   case rel => exact ⟨k + 1, _, _, by omega, by go_num, rfl, by rw [HPT.out]; exact HO3.out, HC.out⟩
   case measure => simp [intOf]; omega
  ·have g1 : decide ((k : Int) < (ln : Int)) = false := decide_eq_false (by omega)
   have e : RL.take k = RL := List.take_of_length_le (by have := HLR.out; omega)
   rw [e] at hown
   have HOW := Lib.hid (own_lower (b' := w.heap.size) hown (by omega))
   have HBF := Lib.hid (HT.out _ hbel)
   clear hown hbel e
   go_wp2
   go_ret
   exact ⟨_, m, rfl, HOW.out, HBF.out⟩
set_option maxHeartbeats 8000000 in
theorem ruslot_msg {s : Sc} {n : Nat} {SS : Nat → Nat → Prop} {S : Nat → Prop} (H : ∀ k, n = k + 1 → RBytes s k) (w : World) {A A2 : Option Addr} {ne ca nm ca2 : Nat} (h : ScAt SS w A ne ca A2 nm ca2 s) (f : Fd) (l : List Va) {B1 : Option Addr} {ln d1 : Nat} (hln : ln = l.length) (hv : VsAt S n w B1 d1 l) (hval : ∀ v ∈ l, valT (treeN s n) f v = true)
 (hok : ∀ v ∈ l, v.vn < 18446744073709551616 ∧ ∀ u ∈ v.vm, OkN n u ∧ costN n u ≤ 1000000000) (RL : List Rw) (hRL : RL = l.map (eRaw (encN s n) f)) (hraw : ∀ r ∈ RL, okR r = true ∧ r.n < 18446744073709551616 ∧ r.s.length ≤ 140737488351232) (htot : (putR RL).length ≤ 140737488351232) (hpk : packedT f = false) (hnum : numberT f.ty = false) (h15 : f.ty = 15) :
 Calls Tryz.prog 86 #[.agg #[.slice A ne ca, .slice A2 nm ca2], fdV f, .slice B1 ln d1] w (GivesOwn w (putR RL)) := by
 obtain ⟨i0, hi, hz0, hz1, hz2⟩ := info_parts info_u8
 have q3 := hv.l_le
 have q4 := hv.l_max
 unfold maxLen at q4
 rw [← hln] at q3
 have HPA := Lib.hid (fun u => rfpacked_any f u)
 rw [hpk] at HPA
 have HVS := Lib.hid hv
 have HN := Lib.hid (fun u => rsnumber_any f.ty u)
 have HLN := Lib.hid hln
 have HTOT := Lib.hid htot
 have HLR : Hid (RL.length = ln) := Lib.hid (by rw [hRL, List.length_map, hln])
 have HREC := Lib.hid (fun (m' : Nat) (hm : n = m' + 1) u (hb : Below w.heap.size w u) name B na cb B2 nr cr t (ht : TrAt S m' w B na cb B2 nr cr t) (h1 : treeN s (m' + 1) name t = true) (h2 : OkN (m' + 1) t) (h3 : costN (m' + 1) t ≤ 1000000000) => H m' hm SS S u A ne ca A2 nm ca2 name B na cb B2 nr cr t (scAt_bel h hb) (trAt_bel ht hb) h1 h2 h3)
 have HR : Hid (∀ (k : Nat) v, l[k]? = some v → ∃ r t, RL[k]? = some r ∧ v.vm = [t] ∧ treeN s n f.ref t = true ∧ OkN n t ∧ costN n t ≤ 1000000000 ∧ ∀ u, Calls Tryz.prog 126 #[.int .i64 f.num, .int .i64 2, .int .u64 0, .string (strOf (encN s n f.ref t))] u (GivesOwn u (bytesR r))) := Lib.hid (fun k v hk => by
  have hm := List.mem_of_getElem? hk
  rcases val_parts (hval v hm) with ⟨p, _⟩ | ⟨_, _, _, _, t, ht, hV⟩ | ⟨_, p, _⟩
  ·rw [hnum] at p; cases p
  ·have hr : RL[k]? = some ⟨f.num, 2, 0, encN s n f.ref t⟩ := by rw [hRL, List.getElem?_map, hk]; exact congrArg some (eRaw_msg hnum h15 ht)
   obtain ⟨r1, r2, r3⟩ := hraw _ (List.mem_of_getElem? hr)
   have hu := (hok v hm).2 t (by rw [ht]; exact List.mem_cons_self)
   exact ⟨_, t, hr, ht, hV, hu.1, hu.2, fun u => rbytes_raw _ u r1 r2 r3⟩
  ·omega)
 clear H h
 clear hval hok hraw htot hpk hln hv
 obtain ⟨name, num, ty, ref, rep, loose, one⟩ := f
 unfold fdV at HPA ⊢
 dsimp only at *
 rw [hnum] at HN
 subst h15
 generalize strOf name = s0 at *
 generalize strOf one = s6 at *
 obtain ⟨s3, hs3⟩ : ∃ s3, s3 = strOf ref := ⟨_, rfl⟩
 rw [← hs3] at HPA ⊢
 have HS3 := Lib.hid hs3
 clear hs3 hRL
 obtain ⟨w1, hw1⟩ : ∃ w1, w1 = ((w.alloc (.cells #[.slice A ne ca, .slice A2 nm ca2] 25)).alloc (.cells #[.string s0, .int .i64 num, .int .i64 15, .string s3, .bool rep, .bool loose, .string s6] 44)) := ⟨_, rfl⟩
 have hbx := bx2_start w #[.slice A ne ca, .slice A2 nm ca2] #[.string s0, .int .i64 num, .int .i64 15, .string s3, .bool rep, .bool loose, .string s6] 25 44
 rw [← hw1] at hbx
 have hsz : w1.heap.size = w.heap.size + 1 + 1 := by rw [hw1]; simp
 have HS1 := Lib.hid hsz
 have HK : Hid (∀ u, Below (w.heap.size + 1 + 1) w1 u → (u.cell? ⟨w.heap.size, 0, none⟩ = some (.slice A ne ca) ∧ u.cell? ⟨w.heap.size, 1, none⟩ = some (.slice A2 nm ca2)) ∧ (u.cell? ⟨w.heap.size + 1, 0, none⟩ = some (.string s0) ∧ u.cell? ⟨w.heap.size + 1, 1, none⟩ = some (.int .i64 num) ∧ u.cell? ⟨w.heap.size + 1, 2, none⟩ = some (.int .i64 15) ∧ u.cell? ⟨w.heap.size + 1, 3, none⟩ = some (.string s3) ∧ u.cell? ⟨w.heap.size + 1, 4, none⟩ = some (.bool rep) ∧ u.cell? ⟨w.heap.size + 1, 5, none⟩ = some (.bool loose) ∧ u.cell? ⟨w.heap.size + 1, 6, none⟩ = some (.string s6))) := Lib.hid (fun u hb => by
  have hu := bx2_step hbx (hsz ▸ hb)
  exact ⟨⟨obj_cell hu.b2_one 0, obj_cell hu.b2_one 1⟩, obj_cell hu.b2_two 0, obj_cell hu.b2_two 1, obj_cell hu.b2_two 2, obj_cell hu.b2_two 3, obj_cell hu.b2_two 4, obj_cell hu.b2_two 5, obj_cell hu.b2_two 6⟩)
 have HT : Hid (∀ u, Below (w.heap.size + 1 + 1) w1 u → Below w.heap.size w u) := Lib.hid (fun u hb => hbx.b2_bel.trans (hb.mono (by omega)))
 have h0 := World.ownsRow_made (base := w1.heap.size) (e := 5) (size := 1) w1 #[] 0 (Nat.le_refl _) (by decide) rfl
 have h1 : Below w1.heap.size w1 (w1.alloc (.cells #[] 5)) := (Below.refl _ w1).alloc (Nat.le_refl _) _
 have HO : Hid ((((w.alloc (.cells #[.slice A ne ca, .slice A2 nm ca2] 25)).alloc (.cells #[.string s0, .int .i64 num, .int .i64 15, .string s3, .bool rep, .bool loose, .string s6] 44)).alloc (.cells #[] 5)).ownsRow (w.heap.size + 1 + 1) 5 1 (.slice (some ⟨w.heap.size + 1 + 1, 0, none⟩) 0 0) 0 (cellsOf (putR (RL.take 0)))) := Lib.hid (by rw [← hw1, ← hsz]; exact h0)
 have HC : Hid (Below (w.heap.size + 1 + 1) w1 (((w.alloc (.cells #[.slice A ne ca, .slice A2 nm ca2] 25)).alloc (.cells #[.string s0, .int .i64 num, .int .i64 15, .string s3, .bool rep, .bool loose, .string s6] 44)).alloc (.cells #[] 5))) := Lib.hid (by rw [← hw1, ← hsz]; exact h1)
 clear hbx hsz h0 h1 hw1
 obtain ⟨⟨a0, a1⟩, f0, f1, f2, f3, f4, f5, f6⟩ := HK.out _ HC.out
 go_enter Tryz.func86, Tryz.ntmps86
 go_wp2_with (go_at_call 125; refine (HPA.out _).mono ?_; rintro e w2 ⟨rfl, hb⟩; replace HO := Lib.hid (own_below HO.out hb); replace HC := Lib.hid (HC.out.trans (hb.mono (Nat.le_trans (Nat.le_of_eq HS1.out.symm) HC.out.size))); clear hb)
 clear a0 a1 f0 f1 f2 f3 f4 f5 f6
 go_loopw [7, 10] (fun x7 x10 wr => ∃ (k m : Nat) (vo : Value), k ≤ ln ∧ x10 = .int .i64 (k : Int) ∧ x7 = vo ∧ wr.ownsRow (w.heap.size + 1 + 1) 5 1 vo m (cellsOf (putR (RL.take k))) ∧ Below (w.heap.size + 1 + 1) w1 wr) (fun _ x _ => ln - (intOf x).toNat)
 case atStart => exact ⟨0, 0, _, Nat.zero_le _, rfl, rfl, HO.out, HC.out⟩
 case round =>
  obtain ⟨k, m, vo, hk, rfl, rfl, hown, hbel⟩ := hrel
  replace HC := Lib.hid hbel
  clear HO
  obtain ⟨⟨a0, a1⟩, f0, f1, f2, f3, f4, f5, f6⟩ := HK.out _ HC.out
  by_cases hlt : k < ln
  ·have g1 : decide ((k : Int) < (ln : Int)) = true := decide_eq_true (by omega)
   obtain ⟨v, hv⟩ : ∃ v, l[k]? = some v := ⟨_, List.getElem?_eq_getElem (by have := HLN.out; omega)⟩
   obtain ⟨gv, ov, C, cc, rfl, _, hcv, hkv⟩ := va_at HVS.out hv
   have HCV : Hid (∀ u, Below w.heap.size w u → u.cell? ⟨gv, ov + k * 3, none⟩ = some (.int .u64 (v.vn : Int)) ∧ u.cell? ⟨gv, ov + k * 3 + 1, none⟩ = some (.string (strOf v.vs)) ∧ u.cell? ⟨gv, ov + k * 3 + 2, none⟩ = some (.slice C v.vm.length cc)) := Lib.hid (fun u hb => hcv u (stay_bel hb))
   obtain ⟨r, t, hr, hvm, ht1, ht2, ht3, hby⟩ := HR.out k v hv
   obtain ⟨m', gk, ok, T1, na, c1, T2, nr, c2, hm', rfl, _, hck, htk⟩ := kid_at hkv (i := 0) (by rw [hvm]; rfl)
   have HCK : Hid (∀ u, Below w.heap.size w u → u.cell? ⟨gk, ok, none⟩ = some (.slice T1 na c1) ∧ u.cell? ⟨gk, ok + 1, none⟩ = some (.slice T2 nr c2)) := Lib.hid (fun u hb => by simpa using hck u (stay_bel hb))
   have HBT := Lib.hid (fun u (hb : Below w.heap.size w u) => HREC.out m' hm' u hb ref T1 na c1 T2 nr c2 t htk (hm' ▸ ht1) (hm' ▸ ht2) (hm' ▸ ht3))
   rw [← hm', ← HS3.out] at HBT
   have hl1 : v.vm.length = 1 := by rw [hvm]; rfl
   rw [hl1] at HCV
   obtain ⟨enc, henc⟩ : ∃ enc, enc = encN s n ref t := ⟨_, rfl⟩
   rw [← henc] at HBT hby
   have HBY := Lib.hid hby
   clear hby hvm ht1 ht2 ht3 hck htk hl1 henc
   have hroom := putR_room hr HTOT.out
   have HPT := Lib.hid (putR_take hr)
   obtain ⟨pre, hpre⟩ : ∃ pre, pre = putR (RL.take k) := ⟨_, rfl⟩
   rw [← hpre] at hown HPT hroom
   obtain ⟨hm, Av, capv, hv0, hBs⟩ := Bs.own hown
   subst hv0
   obtain ⟨fb, hfb⟩ : ∃ fb, fb = bytesR r := ⟨_, rfl⟩
   rw [← hfb] at HPT hroom HBY
   have HROOM := Lib.hid hroom
   have HOWN := Lib.hid (own_below hown (drewN_under wr 1))
   have HC0 := HC
   replace HC := Lib.hid (HC.out.trans ((drewN_under wr 1).mono (Nat.le_trans (Nat.le_of_eq HS1.out.symm) HC.out.size)))
   generalize strOf v.vs = sv at *
   generalize (v.vn : Int) = zv at *
   clear hown hbel hpre hfb hm hBs hr hroom hcv hkv hv
   go_wp2_with (go_at_call 40; refine (HN.out _).mono ?_; rintro e w2 ⟨rfl, rfl⟩)
   refine wp_region_noPanic ?_
   refine wp_region_held_drew (S := fun u => ((u.cell? ⟨w.heap.size, 0, none⟩ = some (.slice A ne ca) ∧ u.cell? ⟨w.heap.size, 1, none⟩ = some (.slice A2 nm ca2)) ∧ (u.cell? ⟨w.heap.size + 1, 0, none⟩ = some (.string s0) ∧ u.cell? ⟨w.heap.size + 1, 1, none⟩ = some (.int .i64 num) ∧ u.cell? ⟨w.heap.size + 1, 2, none⟩ = some (.int .i64 15) ∧ u.cell? ⟨w.heap.size + 1, 3, none⟩ = some (.string s3) ∧ u.cell? ⟨w.heap.size + 1, 4, none⟩ = some (.bool rep) ∧ u.cell? ⟨w.heap.size + 1, 5, none⟩ = some (.bool loose) ∧ u.cell? ⟨w.heap.size + 1, 6, none⟩ = some (.string s6))) ∧ (u.cell? ⟨gv, ov + k * 3, none⟩ = some (.int .u64 zv) ∧ u.cell? ⟨gv, ov + k * 3 + 1, none⟩ = some (.string sv) ∧ u.cell? ⟨gv, ov + k * 3 + 2, none⟩ = some (.slice (some ⟨gk, ok, none⟩) 1 cc)) ∧ u.cell? ⟨gk, ok, none⟩ = some (.slice T1 na c1) ∧ u.cell? ⟨gk, ok + 1, none⟩ = some (.slice T2 nr c2)) (by kernel_rfl) ⟨HK.out _ HC.out, HCV.out _ (HT.out _ HC.out), HCK.out _ (HT.out _ HC.out)⟩ (fun hHeld => ?_)
   refine take_at (i := 0) (v := ?_) rfl (by kernel_rfl) (by kernel_rfl) (by kernel_rfl) (fun _ _ _ h => h) (Or.inl ⟨by rfl, ?_⟩) hHeld ?_
   case refine_2 => (intro w hSw; (try dsimp only at hSw); go_simp <;> with_reducible rfl)
   try simp only [Act.put, List.setIfInBounds_toArray, List.set_cons_zero, List.set_cons_succ]
   refine take_at (i := 1) (v := ?_) rfl (by kernel_rfl) (by kernel_rfl) (by kernel_rfl) (fun _ _ _ h => h) (Or.inl ⟨by rfl, ?_⟩) hHeld ?_
   case refine_2 => (intro w hSw; (try dsimp only at hSw); go_simp <;> with_reducible rfl)
   try simp only [Act.put, List.setIfInBounds_toArray, List.set_cons_zero, List.set_cons_succ]
   refine take_at (i := 2) (v := ?_) rfl (by kernel_rfl) (by kernel_rfl) (by kernel_rfl) (fun _ _ _ h => h) (Or.inl ⟨by rfl, ?_⟩) hHeld ?_
   case refine_2 => (intro w hSw; (try dsimp only at hSw); go_simp <;> with_reducible rfl)
   try simp only [Act.put, List.setIfInBounds_toArray, List.set_cons_zero, List.set_cons_succ]
   refine take_at (i := 3) (v := ?_) rfl (by kernel_rfl) (by kernel_rfl) (by kernel_rfl) (fun _ _ _ h => h) (Or.inl ⟨by rfl, ?_⟩) hHeld ?_
   case refine_2 => (intro w hSw; (try dsimp only at hSw); go_simp <;> with_reducible rfl)
   try simp only [Act.put, List.setIfInBounds_toArray, List.set_cons_zero, List.set_cons_succ]
   refine take_at (i := 4) (v := ?_) rfl (by kernel_rfl) (by kernel_rfl) (by kernel_rfl) (fun _ _ _ h => h) (Or.inl ⟨by rfl, ?_⟩) hHeld ?_
   case refine_2 => (intro w hSw; (try dsimp only at hSw); go_simp <;> with_reducible rfl)
   try simp only [Act.put, List.setIfInBounds_toArray, List.set_cons_zero, List.set_cons_succ]
   refine take_at (i := 5) (v := ?_) rfl (by kernel_rfl) (by kernel_rfl) (by kernel_rfl) (fun _ _ _ h => h) (Or.inl ⟨by rfl, ?_⟩) hHeld ?_
   case refine_2 => (intro w hSw; (try dsimp only at hSw); go_simp <;> with_reducible rfl)
   try simp only [Act.put, List.setIfInBounds_toArray, List.set_cons_zero, List.set_cons_succ]
   refine take_at (i := 6) (v := ?_) rfl (by kernel_rfl) (by kernel_rfl) (by kernel_rfl) (fun _ _ _ h => h) (Or.inl ⟨by rfl, ?_⟩) hHeld ?_
   case refine_2 => (intro w hSw; (try dsimp only at hSw); go_simp <;> with_reducible rfl)
   try simp only [Act.put, List.setIfInBounds_toArray, List.set_cons_zero, List.set_cons_succ]
   refine take_at (i := 7) (v := ?_) rfl (by kernel_rfl) (by kernel_rfl) (by kernel_rfl) (fun _ _ _ h => h) (Or.inl ⟨by rfl, ?_⟩) hHeld ?_
   case refine_2 => (intro w hSw; (try dsimp only at hSw); go_simp <;> with_reducible rfl)
   try simp only [Act.put, List.setIfInBounds_toArray, List.set_cons_zero, List.set_cons_succ]
   refine take_at (i := 8) (v := ?_) rfl (by kernel_rfl) (by kernel_rfl) (by kernel_rfl) (fun _ _ _ h => h) (Or.inl ⟨by rfl, ?_⟩) hHeld ?_
   case refine_2 => (intro w hSw; (try dsimp only at hSw); go_simp <;> with_reducible rfl)
   try simp only [Act.put, List.setIfInBounds_toArray, List.set_cons_zero, List.set_cons_succ]
   refine take_at (i := 9) (v := ?_) rfl (by kernel_rfl) (by kernel_rfl) (by kernel_rfl) (fun _ _ _ h => h) (Or.inl ⟨by rfl, ?_⟩) hHeld ?_
   case refine_2 => (intro w hSw; (try dsimp only at hSw); go_simp <;> with_reducible rfl)
   try simp only [Act.put, List.setIfInBounds_toArray, List.set_cons_zero, List.set_cons_succ]
   refine take_at (i := 10) (v := ?_) rfl (by kernel_rfl) (by kernel_rfl) (by kernel_rfl) (fun _ _ _ h => h) (Or.inl ⟨by rfl, ?_⟩) hHeld ?_
   case refine_2 => (intro w hSw; (try dsimp only at hSw); go_simp <;> with_reducible rfl)
   try simp only [Act.put, List.setIfInBounds_toArray, List.set_cons_zero, List.set_cons_succ]
   refine take_at (i := 11) (v := ?_) rfl (by kernel_rfl) (by kernel_rfl) (by kernel_rfl) (fun _ _ _ h => h) (Or.inl ⟨by rfl, ?_⟩) hHeld ?_
   case refine_2 => (intro w hSw; (try dsimp only at hSw); go_simp <;> with_reducible rfl)
   try simp only [Act.put, List.setIfInBounds_toArray, List.set_cons_zero, List.set_cons_succ]
   refine take_at (i := 12) (v := ?_) rfl (by kernel_rfl) (by kernel_rfl) (by kernel_rfl) (fun _ _ _ h => h) (Or.inl ⟨by rfl, ?_⟩) hHeld ?_
   case refine_2 => (intro w hSw; (try dsimp only at hSw); go_simp <;> with_reducible rfl)
   try simp only [Act.put, List.setIfInBounds_toArray, List.set_cons_zero, List.set_cons_succ]
   refine wpAnyH_ready (rs := [13]) (by kernel_rfl) (by simp) ?_
   refine ready_at (i := 13) rfl (fun K hK => ?_)
   go_simp
   go_at_call 37
   refine (HBT.out _ (HT.out _ HC.out)).mono ?_
   rintro e w5 ⟨v5, n5, rfl, ho5, hb5⟩
   obtain ⟨hn5, A5, cap5, hv5, hBs5⟩ := Bs.own ho5
   subst hv5
   have gs := run_string_bytes (P := Tryz.prog) hBs5 Tryz.underlying34 Tryz.underlying5 Tryz.underlying9
   replace HC := Lib.hid (HC.out.trans (hb5.mono (Nat.le_trans (Nat.le_of_eq HS1.out.symm) HC.out.size)))
   replace HOWN := Lib.hid (own_below HOWN.out hb5)
   clear ho5 hb5 hBs5 hn5
   clear hHeld
   refine hK.out _ _ (⟨HK.out _ HC.out, HCV.out _ (HT.out _ HC.out), HCK.out _ (HT.out _ HC.out)⟩) (fun hHeld => ?_)
   clear hK K
   try simp only [Act.put, List.setIfInBounds_toArray, List.set_cons_zero, List.set_cons_succ]
   refine wpAnyH_ready (rs := [14]) (by kernel_rfl) (by simp) ?_
   refine ready_at (i := 14) rfl (fun K hK => ?_)
   go_simp
   clear hHeld
   refine hK.out _ _ (⟨HK.out _ HC.out, HCV.out _ (HT.out _ HC.out), HCK.out _ (HT.out _ HC.out)⟩) (fun hHeld => ?_)
   clear hK K
   try simp only [Act.put, List.setIfInBounds_toArray, List.set_cons_zero, List.set_cons_succ]
   refine wpAnyH_ready (rs := [15]) (by kernel_rfl) (by simp) ?_
   refine ready_at (i := 15) rfl (fun K hK => ?_)
   go_simp
   go_at_call 126
   refine (HBY.out _).mono ?_
   rintro e w3 ⟨v2, n2, rfl, ho2, hb2⟩
   obtain ⟨hn2, A9, cap9, hv2, hBs2⟩ := Bs.own ho2
   subst hv2
   replace HC := Lib.hid (HC.out.trans (hb2.mono (Nat.le_trans (Nat.le_of_eq HS1.out.symm) HC.out.size)))
   replace HOWN := Lib.hid (own_below HOWN.out hb2)
   have HBS := Lib.hid hBs2
   clear ho2 hb2 hBs2 hn2
   clear hHeld
   refine hK.out _ _ (⟨HK.out _ HC.out, HCV.out _ (HT.out _ HC.out), HCK.out _ (HT.out _ HC.out)⟩) (fun hHeld => ?_)
   clear hK K
   try simp only [Act.put, List.setIfInBounds_toArray, List.set_cons_zero, List.set_cons_succ]
   refine wpAnyH_ready (rs := [16]) (by kernel_rfl) (by simp) ?_
   refine ready_at (i := 16) rfl (fun K hK => ?_)
   refine step_append_bs rfl _ _ (by rfl) (by rfl) HOWN.out (by rfl) HBS.out rfl (by have := HROOM.out; omega) (Nat.le_trans (Nat.le_of_eq HS1.out.symm) HC.out.size) ?_
   intro v3 w4 ho3 hg3
   have HO3 := Lib.hid ho3
   replace HC := Lib.hid (HC.out.grown hg3 (Nat.le_trans (Nat.le_of_eq HS1.out.symm) HC.out.size) (fun j hj => (HOWN.out.lt j hj).1))
   clear ho3 hg3
   clear hHeld
   refine hK.out _ _ (⟨HK.out _ HC.out, HCV.out _ (HT.out _ HC.out), HCK.out _ (HT.out _ HC.out)⟩) (fun hHeld => ?_)
   clear hK K
   try simp only [Act.put, List.setIfInBounds_toArray, List.set_cons_zero, List.set_cons_succ]
   refine take_at (i := 17) (v := ?_) rfl (by kernel_rfl) (by kernel_rfl) (by kernel_rfl) (fun _ _ _ h => h) (Or.inl ⟨by rfl, ?_⟩) hHeld ?_
   case refine_2 => (intro w hSw; (try dsimp only at hSw); go_simp <;> with_reducible rfl)
   try simp only [Act.put, List.setIfInBounds_toArray, List.set_cons_zero, List.set_cons_succ]
   refine wpAnyH_done (by kernel_rfl) ?_ _
   refine NoPanic.normal ?_
   clear hHeld
   go_wp2
   go_roundw
   case rel => exact ⟨k + 1, _, _, by omega, by go_num, rfl, by rw [HPT.out]; exact HO3.out, HC.out⟩
   case measure => simp [intOf]; omega
  ·have g1 : decide ((k : Int) < (ln : Int)) = false := decide_eq_false (by omega)
   have e : RL.take k = RL := List.take_of_length_le (by have := HLR.out; omega)
   rw [e] at hown
   have HOW := Lib.hid (own_lower (b' := w.heap.size) hown (by omega))
   have HBF := Lib.hid (HT.out _ hbel)
   clear hown hbel e
   go_wp2
   go_ret
   exact ⟨_, m, rfl, HOW.out, HBF.out⟩
end Go.Proofs.YtloheacncefkgaaGreatDoor

/- The document's layer 21: a packed slot's bytes, and a slot's of any field. Conditions: those that each theorem names. -/
namespace Go.Proofs.YtloheacncefkgaaGreatDoor
open Go.RowKit
set_option linter.unusedVariables false
set_option maxRecDepth 100000
set_option maxHeartbeats 8000000 in
theorem ruslot_pack {n : Nat} {S : Nat → Prop} (w : World) {A A2 : Option Addr} {ne ca nm ca2 : Nat} (f : Fd) (l : List Va) {B1 : Option Addr} {ln d1 : Nat} (hln : ln = l.length) (hv : VsAt S n w B1 d1 l)
 (hok : ∀ v ∈ l, v.vn < 18446744073709551616) (hlen : l.length ≤ 1000000000) (r : Rw) (hr : r = ⟨f.num, 2, 0, packB f (l.map (·.vn))⟩) (hraw : okR r = true ∧ r.n < 18446744073709551616 ∧ r.s.length ≤ 140737488351232) (hpk : packedT f = true) :
 Calls Tryz.prog 86 #[.agg #[.slice A ne ca, .slice A2 nm ca2], fdV f, .slice B1 ln d1] w (GivesOwn w (bytesR r)) := by
 obtain ⟨i0, hi, hz0, hz1, hz2⟩ := info_parts info_u64
 have q3 := hv.l_le
 have q4 := hv.l_max
 unfold maxLen at q4
 rw [← hln] at q3 hlen
 have HPA := Lib.hid (fun u => rfpacked_any f u)
 rw [hpk] at HPA
 have HVS := Lib.hid hv
 have HLN := Lib.hid hln
 have HBY : Hid (∀ u, Calls Tryz.prog 126 #[.int .i64 f.num, .int .i64 2, .int .u64 0, .string (strOf (packB f (l.map (·.vn))))] u (GivesOwn u (bytesR r))) := Lib.hid (fun u => by
  have := rbytes_raw r u hraw.1 hraw.2.1 hraw.2.2
  rw [hr] at this ⊢
  exact this)
 obtain ⟨NL, hNL⟩ : ∃ NL, NL = l.map (·.vn) := ⟨_, rfl⟩
 have HNL : Hid (NL.length = ln) := Lib.hid (by rw [hNL, List.length_map, hln])
 have HNA : Hid (∀ (k : Nat) v, l[k]? = some v → NL[k]? = some v.vn) := Lib.hid (fun k v hk => by rw [hNL, List.getElem?_map, hk]; rfl)
 have hNb : ∀ x ∈ NL, x < 18446744073709551616 := fun x hx => by
  rw [hNL] at hx
  obtain ⟨v, hv', rfl⟩ := List.mem_map.mp hx
  exact hok v hv'
 have HPC := Lib.hid (fun u A9 c9 (hs : Sl u A9 c9 (u64s NL)) => rupack_any f u hs (n := ln) (by rw [hNL, List.length_map, hln]) (by rw [hNL, List.length_map, ← hln]; omega) hNb)
 rw [← hNL] at HBY
 obtain ⟨pk, hpk'⟩ : ∃ pk, pk = packB f NL := ⟨_, rfl⟩
 rw [← hpk'] at HBY HPC
 obtain ⟨fb, hfb⟩ : ∃ fb, fb = bytesR r := ⟨_, rfl⟩
 rw [← hfb] at HBY ⊢
 clear hok hpk hln hv hr hraw hNL hNb hpk' hfb
 obtain ⟨name, num, ty, ref, rep, loose, one⟩ := f
 unfold fdV at HPA HPC ⊢
 dsimp only at *
 generalize strOf name = s0 at *
 generalize strOf one = s6 at *
 generalize strOf ref = s3 at *
 obtain ⟨w1, hw1⟩ : ∃ w1, w1 = ((w.alloc (.cells #[.slice A ne ca, .slice A2 nm ca2] 25)).alloc (.cells #[.string s0, .int .i64 num, .int .i64 ty, .string s3, .bool rep, .bool loose, .string s6] 44)) := ⟨_, rfl⟩
 have hbx := bx2_start w #[.slice A ne ca, .slice A2 nm ca2] #[.string s0, .int .i64 num, .int .i64 ty, .string s3, .bool rep, .bool loose, .string s6] 25 44
 rw [← hw1] at hbx
 have hsz : w1.heap.size = w.heap.size + 1 + 1 := by rw [hw1]; simp
 have HS1 := Lib.hid hsz
 have HK : Hid (∀ u, Below (w.heap.size + 1 + 1) w1 u → (u.cell? ⟨w.heap.size, 0, none⟩ = some (.slice A ne ca) ∧ u.cell? ⟨w.heap.size, 1, none⟩ = some (.slice A2 nm ca2)) ∧ (u.cell? ⟨w.heap.size + 1, 0, none⟩ = some (.string s0) ∧ u.cell? ⟨w.heap.size + 1, 1, none⟩ = some (.int .i64 num) ∧ u.cell? ⟨w.heap.size + 1, 2, none⟩ = some (.int .i64 ty) ∧ u.cell? ⟨w.heap.size + 1, 3, none⟩ = some (.string s3) ∧ u.cell? ⟨w.heap.size + 1, 4, none⟩ = some (.bool rep) ∧ u.cell? ⟨w.heap.size + 1, 5, none⟩ = some (.bool loose) ∧ u.cell? ⟨w.heap.size + 1, 6, none⟩ = some (.string s6))) := Lib.hid (fun u hb => by
  have hu := bx2_step hbx (hsz ▸ hb)
  exact ⟨⟨obj_cell hu.b2_one 0, obj_cell hu.b2_one 1⟩, obj_cell hu.b2_two 0, obj_cell hu.b2_two 1, obj_cell hu.b2_two 2, obj_cell hu.b2_two 3, obj_cell hu.b2_two 4, obj_cell hu.b2_two 5, obj_cell hu.b2_two 6⟩)
 have HT : Hid (∀ u, Below (w.heap.size + 1 + 1) w1 u → Below w.heap.size w u) := Lib.hid (fun u hb => hbx.b2_bel.trans (hb.mono (by omega)))
 have h1 : Below w1.heap.size w1 (w1.alloc (.cells #[] 5)) := (Below.refl _ w1).alloc (Nat.le_refl _) _
 have HC : Hid (Below (w.heap.size + 1 + 1) w1 (((w.alloc (.cells #[.slice A ne ca, .slice A2 nm ca2] 25)).alloc (.cells #[.string s0, .int .i64 num, .int .i64 ty, .string s3, .bool rep, .bool loose, .string s6] 44)).alloc (.cells #[] 5))) := Lib.hid (by rw [← hw1, ← hsz]; exact h1)
 clear hbx hsz h1 hw1
 obtain ⟨⟨a0, a1⟩, f0, f1, f2, f3, f4, f5, f6⟩ := HK.out _ HC.out
 go_enter Tryz.func86, Tryz.ntmps86
 go_wp2_with (go_at_call 125; refine (HPA.out _).mono ?_; rintro e w2 ⟨rfl, hb⟩; replace HC := Lib.hid (HC.out.trans (hb.mono (Nat.le_trans (Nat.le_of_eq HS1.out.symm) HC.out.size))); clear hb)
 clear a0 a1 f0 f1 f2 f3 f4 f5 f6
 have hq : (w.heap.size + 1 + 1) ≤ w2.heap.size := Nat.le_trans (Nat.le_of_eq HS1.out.symm) HC.out.size
 have HO := Lib.hid (own_lower (own0_u64 w2) hq)
 have HC1 : Hid (Below (w.heap.size + 1 + 1) w1 (w2.alloc (.cells #[] 61))) := Lib.hid (HC.out.alloc hq _)
 clear hq
 go_loopw [8, 9] (fun x8 x9 wr => ∃ (k : Nat) (vo : Value), k ≤ ln ∧ x9 = .int .i64 (k : Int) ∧ x8 = vo ∧ wr.ownsRow (w.heap.size + 1 + 1) 61 1 vo k (u64s (NL.take k)) ∧ Below (w.heap.size + 1 + 1) w1 wr) (fun _ x _ => ln - (intOf x).toNat)
 case atStart => exact ⟨0, _, Nat.zero_le _, rfl, rfl, HO.out, HC1.out⟩
 case round =>
  obtain ⟨k, vo, hk, rfl, rfl, hown, hbel⟩ := hrel
  replace HC := Lib.hid hbel
  clear HO HC1
  have hwr : (w.heap.size + 1 + 1) ≤ wr.heap.size := Nat.le_trans (Nat.le_of_eq HS1.out.symm) hbel.size
  by_cases hlt : k < ln
  ·have g1 : decide ((k : Int) < (ln : Int)) = true := decide_eq_true (by omega)
   obtain ⟨v, hv⟩ : ∃ v, l[k]? = some v := ⟨_, List.getElem?_eq_getElem (by have := HLN.out; omega)⟩
   obtain ⟨gv, ov, C, cc, rfl, _, hcv, hkv⟩ := va_at HVS.out hv
   obtain ⟨c0, _, _⟩ := hcv wr (stay_bel (HT.out _ hbel))
   have hn := HNA.out k v hv
   have HTK : Hid (u64s (NL.take (k + 1)) = u64s (NL.take k) ++ [.int .u64 (v.vn : Int)]) := Lib.hid (by rw [List.take_add_one, hn, u64s_snoc]; rfl)
   have hsl := Sl.own hown
   obtain ⟨hsl1, Av, capv, hv0, _⟩ := hsl
   have hkl : (u64s (NL.take k)).length = k := by rw [u64s_length, List.length_take, HNL.out]; omega
   rw [hkl] at hv0
   subst hv0
   generalize (v.vn : Int) = zv at *
   clear hcv hkv hv hn hsl1 hkl
   go_wp2_with (at_builtin; refine wpList_append_own _ rfl _ _ 45 rfl (w.heap.size + 1 + 1) 61 i0 (.int .u64 0) 1 8 Tryz.underlying45 hi hz0 hz1 hz2 rfl (by decide) _ _ _ (by first | rfl | (simp [u64s_length, HNL.out]; omega)) (hown.alloc _) ⟨wr.heap.size, 0, none⟩ 1 1 [.int .u64 zv] rfl rfl (cell_one_new _ _ _) (one_u64 _) (by unfold maxLen; omega) (by omega) (by simp; omega) ?_; intro v2 w2 hown2 hgrow2 _)
   have hb2 : Below (w.heap.size + 1 + 1) w1 w2 := (hbel.alloc hwr _).grown hgrow2 (by simp; omega) (fun j hj => (hown.lt j hj).1)
   have hown3 : w2.ownsRow (w.heap.size + 1 + 1) 61 1 v2 (k + 1) (u64s (NL.take (k + 1))) := by rw [HTK.out]; exact hown2
   clear hown hown2 hgrow2 hbel
   go_wp2
   go_roundw
   case rel => exact ⟨k + 1, _, by omega, by go_num, rfl, hown3, hb2⟩
   case measure => simp [intOf]; omega
  ·have g1 : decide ((k : Int) < (ln : Int)) = false := decide_eq_false (by omega)
   have e : NL.take k = NL := List.take_of_length_le (by have := HNL.out; omega)
   rw [e] at hown
   obtain ⟨_, Av, capv, hv0, hsl⟩ := Sl.own hown
   rw [u64s_length, HNL.out] at hv0
   subst hv0
   have HPK2 := Lib.hid (fun u (hb : Below wr.heap.size wr u) => HPC.out u Av capv (hsl.keep (fun q hq => hb.cell hq)))
   have HC0 := HC
   replace HC := Lib.hid (HC.out.trans ((drewN_under wr 1).mono hwr))
   have HU := Lib.hid (drewN_under wr 1)
   obtain ⟨⟨a0, a1⟩, f0, f1, f2, f3, f4, f5, f6⟩ := HK.out _ HC0.out
   clear hown hbel e hsl hwr
   go_wp2
   go_region_held3 (fun u => (u.cell? ⟨w.heap.size, 0, none⟩ = some (.slice A ne ca) ∧ u.cell? ⟨w.heap.size, 1, none⟩ = some (.slice A2 nm ca2)) ∧ (u.cell? ⟨w.heap.size + 1, 0, none⟩ = some (.string s0) ∧ u.cell? ⟨w.heap.size + 1, 1, none⟩ = some (.int .i64 num) ∧ u.cell? ⟨w.heap.size + 1, 2, none⟩ = some (.int .i64 ty) ∧ u.cell? ⟨w.heap.size + 1, 3, none⟩ = some (.string s3) ∧ u.cell? ⟨w.heap.size + 1, 4, none⟩ = some (.bool rep) ∧ u.cell? ⟨w.heap.size + 1, 5, none⟩ = some (.bool loose) ∧ u.cell? ⟨w.heap.size + 1, 6, none⟩ = some (.string s6)))
    (first | exact HK.out _ HC.out | exact HK.out _ HC0.out)
    (first
     | (go_at_call 16
        refine (HPK2.out _ HU.out).mono ?_
        rintro e w5 ⟨rfl, hb5⟩
        replace HC := Lib.hid (HC.out.trans (hb5.mono (Nat.le_trans (Nat.le_of_eq HS1.out.symm) HC.out.size)))
        clear hb5)
     | (go_at_call 126
        refine (HBY.out _).mono ?_
        rintro e w3 ⟨v2, n2, rfl, ho2, hb2⟩
        have HOW := Lib.hid (own_lower (b' := w.heap.size) ho2 (HT.out _ HC.out).size)
        replace HC := Lib.hid (HC.out.trans (hb2.mono (Nat.le_trans (Nat.le_of_eq HS1.out.symm) HC.out.size)))
        clear ho2 hb2))
   go_wp2
   go_ret
   exact ⟨_, _, rfl, HOW.out, HT.out _ HC.out⟩
theorem ruslot_any {s : Sc} {n : Nat} {SS : Nat → Nat → Prop} {S : Nat → Prop} (H : ∀ k, n = k + 1 → RBytes s k) (w : World) {A A2 : Option Addr} {ne ca nm ca2 : Nat} (h : ScAt SS w A ne ca A2 nm ca2 s) (f : Fd) (l : List Va) {B1 : Option Addr} {ln d1 : Nat} (hln : ln = l.length) (hv : VsAt S n w B1 d1 l) (hval : ∀ v ∈ l, valT (treeN s n) f v = true)
 (hok : ∀ v ∈ l, v.vn < 18446744073709551616 ∧ ∀ u ∈ v.vm, OkN n u ∧ costN n u ≤ 1000000000) (hlen : l.length ≤ 1000000000) (hraw : ∀ r ∈ sRaws (encN s n) f l, okR r = true ∧ r.n < 18446744073709551616 ∧ r.s.length ≤ 140737488351232) (htot : (putR (sRaws (encN s n) f l)).length ≤ 140737488351232) :
 Calls Tryz.prog 86 #[.agg #[.slice A ne ca, .slice A2 nm ca2], fdV f, .slice B1 ln d1] w (GivesOwn w (putR (sRaws (encN s n) f l))) := by
 cases hpk : packedT f with
 | true =>
   have e : sRaws (encN s n) f l = [⟨f.num, 2, 0, packB f (l.map (·.vn))⟩] := by unfold sRaws; rw [if_pos hpk]
   rw [e] at hraw ⊢
   rw [show putR [(⟨f.num, 2, 0, packB f (l.map (·.vn))⟩ : Rw)] = bytesR ⟨f.num, 2, 0, packB f (l.map (·.vn))⟩ from List.append_nil _]
   exact ruslot_pack w f l hln hv (fun v hm => (hok v hm).1) hlen _ rfl (hraw _ List.mem_cons_self) hpk
 | false =>
   rw [sRaws_not hpk] at hraw htot ⊢
   cases hnum : numberT f.ty with
   | true => exact ruslot_num H w h f l hln hv hval hok _ rfl hraw htot hpk hnum
   | false =>
     by_cases h15 : f.ty = 15
     ·exact ruslot_msg H w h f l hln hv hval hok _ rfl hraw htot hpk hnum h15
     ·exact ruslot_txt H w h f l hln hv hval hok _ rfl hraw htot hpk hnum h15
end Go.Proofs.YtloheacncefkgaaGreatDoor

/- The document's layer 21: a value's bytes. Conditions: those that each theorem names. -/
namespace Go.Proofs.YtloheacncefkgaaGreatDoor
open Go.RowKit
set_option linter.unusedVariables false
set_option maxRecDepth 100000

theorem raws_fit {s : Sc} (hc : checkT s = 0) {k : Nat} {m : Ms} {name : List UInt8} {x : Tr} (hm : vMsg s name = some m) (ht : treeN s (k + 1) name x = true) (ho : OkN (k + 1) x) (hcost : costN (k + 1) x ≤ 1000000000) :
 (putR (tRaws (encN s k) m x)).length ≤ 40000000000 ∧ ∀ r ∈ tRaws (encN s k) m x, okR r = true ∧ r.n < 18446744073709551616 ∧ r.s.length ≤ 140737488351232 := by
 have hlen := enc_cost (s := s) (k + 1) name x ho (by omega)
 rw [encN_some hm] at hlen
 refine ⟨by omega, ?_⟩
 rw [treeN_some hm] at ht
 simp only [Bool.and_eq_true, decide_eq_true_eq, List.all_eq_true] at ht
 obtain ⟨_, x2, x3⟩ := ht
 obtain ⟨_, _, oxr, oxs⟩ := ho
 intro r hrm
 have hs : r.wire = 2 → r.s.length ≤ 40000000000 := fun hw => Nat.le_trans (Nat.le_trans (bytesR_len hw) (bytesR_mem hrm)) (by omega)
 unfold tRaws at hrm
 rcases List.mem_append.mp hrm with hrm | hrm
 ·obtain ⟨z, hz, hrz⟩ := List.mem_flatMap.mp hrm
  have hsl : slotT (treeN s k) m z = true := by
   obtain ⟨i, hi⟩ := List.mem_iff_getElem?.mp hz
   have := x2 i z hi
   unfold okS at this
   rw [Bool.and_eq_true] at this
   exact this.1
  have hl : r.s.length ≤ 40000000000 := by
   by_cases hw : r.wire = 2
   ·exact hs hw
   ·rw [xRaws_nos hsl r hrz hw]; exact Nat.zero_le _
  obtain ⟨r1, r2, r3⟩ := slot_fit hc (vMsg_mem hm) hsl (fun v hv => ((oxs z hz).2 v hv).1.2) r hrz (by omega)
  exact ⟨r1, r2, by omega⟩
 ·have h1 := x3 r hrm
  unfold restT at h1
  rw [Bool.and_eq_true] at h1
  have h2 := oxr r hrm
  exact ⟨h1.1, h2.2, h2.1⟩
theorem slot_room {α : Type} {g : α → List Rw} {l : List α} {c : List Rw} {k : Nat} {y : α} {M : Nat} (h : l[k]? = some y) (hM : (putR (l.flatMap g ++ c)).length ≤ M) : (putR ((l.take k).flatMap g)).length + (putR (g y)).length ≤ M := by
 have e : l.flatMap g = (l.take (k + 1)).flatMap g ++ (l.drop (k + 1)).flatMap g := by rw [← List.flatMap_append, List.take_append_drop]
 rw [e, flatm_take h, putR_append, putR_append, putR_append, List.length_append, List.length_append, List.length_append] at hM
 omega

set_option maxHeartbeats 16000000 in
theorem rubytes_step {s : Sc} (hc0 : checkT s = 0) {n : Nat} (H : ∀ k, n = k + 1 → RBytes s k) : RBytes s n := by
 intro SS S w A ne ca A2 nm ca2 name B na cb B2 nr cr x h hx ht ho hcost
 obtain ⟨i0, hi, hz0, hz1, hz2⟩ := info_parts info_u8
 have HM := Lib.hid (fun u (hb : Below w.heap.size w u) => rvmessage_any u (scAt_bel h hb) name)
 obtain ⟨k1, k2, k3, k4⟩ := scAt_max h
 obtain ⟨q1, q2, q3, q4⟩ := trAt_max hx
 rcases msg_way s name with ⟨hn1, hn2⟩ | ⟨mi, m, hn1, him, hn2⟩
 ·rw [treeN_none hn2] at ht; cases ht
 have hfit := raws_fit hc0 hn2 ht ho hcost
 rw [encN_some hn2]
 rw [treeN_some hn2] at ht
 simp only [Bool.and_eq_true, decide_eq_true_eq, List.all_eq_true] at ht
 obtain ⟨_, x2, x3⟩ := ht
 rw [hn1] at HM
 have hi2 := (List.getElem?_eq_some_iff.mp him).1
 obtain ⟨ge, oe, A1, c1, A3, c3, rfl, _, hc, hl, hl2⟩ := ms_at h.s_m him
 have HC := Lib.hid hc
 have HXS := Lib.hid hx.t_s
 have HNA := Lib.hid hx.t_ns
 have p1 := hl.l_le
 have p2 := hl.l_max
 unfold maxLen at p2
 have HNUM := Lib.hid (fun u (hb : Below w.heap.size w u) (t : Int) => rxnumber_any u (strOf m.name) (lst_keep (S' := SS 1) hl fdR_keep (fun _ h => h) (bel_keep hb)) (lst_keep (S' := SS 2) hl2 inR_keep (fun _ h => h) (bel_keep hb)) rfl rfl t)
 have HSL : Hid (∀ (i : Nat) y, x.slots[i]? = some y → ∃ (fi : Nat) (f : Fd) (gf off : Nat), numAtT m y.snum = (fi : Int) ∧ fi < m.fields.length ∧ A1 = some ⟨gf, off, none⟩ ∧
  (∀ u, Below w.heap.size w u → u.cell? ⟨gf, off + fi * 7, none⟩ = some (.string (strOf f.name)) ∧ u.cell? ⟨gf, off + fi * 7 + 1, none⟩ = some (.int .i64 f.num) ∧ u.cell? ⟨gf, off + fi * 7 + 2, none⟩ = some (.int .i64 f.ty) ∧ u.cell? ⟨gf, off + fi * 7 + 3, none⟩ = some (.string (strOf f.ref)) ∧ u.cell? ⟨gf, off + fi * 7 + 4, none⟩ = some (.bool f.rep) ∧ u.cell? ⟨gf, off + fi * 7 + 5, none⟩ = some (.bool f.loose) ∧ u.cell? ⟨gf, off + fi * 7 + 6, none⟩ = some (.string (strOf f.one))) ∧
  ∀ u C cc, Below w.heap.size w u → VsAt S n u C cc y.svals → Calls Tryz.prog 86 #[.agg #[.slice A ne ca, .slice (some ⟨ge, oe, none⟩) nm ca2], fdV f, .slice C y.svals.length cc] u (GivesOwn u (putR (xRaws (encN s n) m y)))) := Lib.hid (fun i y hy => by
  have hmy := List.mem_of_getElem? hy
  have hsl : slotT (treeN s n) m y = true := by
   have := x2 i y hy
   unfold okS at this
   rw [Bool.and_eq_true] at this
   exact this.1
  obtain ⟨f, f1, f2, f3⟩ := slotT_parts hsl
  rcases fld_way m y.snum with ⟨_, e2⟩ | ⟨fi, g, e1, e2, e3⟩
  ·rw [e2] at f1; cases f1
  ·rw [e3] at f1
   obtain rfl := Option.some.inj f1
   obtain ⟨gf, off, ea, _, hcf⟩ := fd_at hl e2
   refine ⟨fi, g, gf, off, e1, (List.getElem?_eq_some_iff.mp e2).1, ea, hcf, fun u C cc hb hv => ?_⟩
   rw [xRaws_some e3]
   have hsub : ∀ r ∈ sRaws (encN s n) g y.svals, r ∈ tRaws (encN s n) m x := fun r hr => by
    unfold tRaws
    exact List.mem_append_left _ (List.mem_flatMap.mpr ⟨y, hmy, by rw [xRaws_some e3]; exact hr⟩)
   have hoy := (ho.2.2.2 y hmy)
   refine ruslot_any H u (scAt_bel h hb) g y.svals rfl hv f3 (fun v hm => ⟨(hoy.2 v hm).1.2, fun t ht => ⟨(hoy.2 v hm).2.2 t ht, ?_⟩⟩) ?_ (fun r hr => hfit.2 r (hsub r hr)) ?_
   ·have := cost_kid (k := n) hmy hm ht; omega
   ·have h1 := sumB_mem (fun s : Slt => s.svals.length + sumB (fun v : Va => v.vs.length / 20 + sumB (fun u => 1 + costN n u) v.vm) s.svals) hmy
    rw [costN] at hcost
    omega
   ·have := slot_room hy (g := xRaws (encN s n) m) (c := x.rest) hfit.1
    rw [xRaws_some e3] at this
    omega)
 have HREST := Lib.hid (fun u (hb : Below w.heap.size w u) => rput_long u (raws_of (trAt_bel hx hb).t_r) hx.t_nr (fun r hr => (hfit.2 r (by unfold tRaws; exact List.mem_append_right _ hr)).1) (fun r hr => (hfit.2 r (by unfold tRaws; exact List.mem_append_right _ hr)).2) (by have := hfit.1; unfold tRaws at this; rw [putR_append, List.length_append] at this; omega))
 have HLEN := Lib.hid hfit.1
 obtain ⟨sl, hsl⟩ : ∃ sl, sl = x.slots := ⟨_, rfl⟩
 obtain ⟨rl, hrl⟩ : ∃ rl, rl = x.rest := ⟨_, rfl⟩
 have HTR : Hid (tRaws (encN s n) m x = sl.flatMap (xRaws (encN s n) m) ++ rl) := Lib.hid (by rw [hsl, hrl]; rfl)
 rw [HTR.out] at HLEN
 rw [HTR.out]
 rw [← hsl] at HXS HNA HSL
 rw [← hrl] at HREST
 obtain ⟨E, hE⟩ : ∃ E, E = xRaws (encN s n) m := ⟨_, rfl⟩
 rw [← hE] at HLEN HSL ⊢
 have hmi : mi < nm := by have := h.s_nm; omega
 have e1 : decide ((mi : Int) < 0) = false := decide_eq_false (by omega)
 have e2 : decide ((mi : Int) < (nm : Int)) = true := decide_eq_true (by omega)
 have e3 : (mi : Int) < (nm : Int) := by omega
 have e4 : (0 : Int) ≤ (mi : Int) := by omega
 obtain ⟨nf, hnf⟩ : ∃ nf, nf = m.fields.length := ⟨_, rfl⟩
 obtain ⟨nb, hnb⟩ : ∃ nb, nb = m.barred.length := ⟨_, rfl⟩
 obtain ⟨sn, hsn⟩ : ∃ sn, sn = strOf m.name := ⟨_, rfl⟩
 rw [← hnf] at HC HNUM HSL p1
 rw [← hnb] at HC HNUM
 rw [← hsn] at HC HNUM
 clear H h hx ho hcost hc0 hn1 hn2 hi2 hc hl hl2 him hsl hrl hnf hnb hsn hfit x2 x3 HTR hE
 generalize strOf name = sm at *
 obtain ⟨w0, hw0⟩ : ∃ w0, w0 = ((w.alloc (.cells #[.slice A ne ca, .slice (some ⟨ge, oe, none⟩) nm ca2] 25)).alloc (.cells #[.slice B na cb, .slice B2 nr cr] 29)) := ⟨_, rfl⟩
 have hbx := bx2_start w #[.slice A ne ca, .slice (some ⟨ge, oe, none⟩) nm ca2] #[.slice B na cb, .slice B2 nr cr] 25 29
 rw [← hw0] at hbx
 have hsz : w0.heap.size = w.heap.size + 1 + 1 := by rw [hw0]; simp
 have HB0 := Lib.hid hbx
 have HK : Hid (∀ u, Below w0.heap.size w0 u → (u.cell? ⟨w.heap.size, 0, none⟩ = some (.slice A ne ca) ∧ u.cell? ⟨w.heap.size, 1, none⟩ = some (.slice (some ⟨ge, oe, none⟩) nm ca2)) ∧ (u.cell? ⟨ge, oe + mi * 3, none⟩ = some (.string sn) ∧ u.cell? ⟨ge, oe + mi * 3 + 1, none⟩ = some (.slice A1 nf c1) ∧ u.cell? ⟨ge, oe + mi * 3 + 2, none⟩ = some (.slice A3 nb c3))) := Lib.hid (fun u hb => by
  have hu := bx2_step HB0.out hb
  obtain ⟨c0, c1', c2⟩ := HC.out _ hu.b2_bel
  exact ⟨⟨obj_cell hu.b2_one 0, obj_cell hu.b2_one 1⟩, c0, c1', c2⟩)
 have HFR : Hid (Below w0.heap.size w0 w0.drew) := Lib.hid (drewN_under w0 1)
 have HZW : Hid (Below w0.heap.size w0 (w0.alloc (.cells #[.string ⟨#[]⟩, .slice none 0 0, .slice none 0 0] 57)).drew) := Lib.hid ((Below.refl _ w0).alloc (Nat.le_refl _) _).drew
 have HZX : Hid ((w0.alloc (.cells #[.string ⟨#[]⟩, .slice none 0 0, .slice none 0 0] 57)).drew.heap[w0.heap.size]? = some (.cells #[.string ⟨#[]⟩, .slice none 0 0, .slice none 0 0] 57 (0, 0))) := Lib.hid (heap_alloc_new w0 _)
 have HW8 : Hid (Below w.heap.size w w0.drew) := Lib.hid HB0.out.b2_bel.drew
 have HZA : Hid (Below w.heap.size w (w0.alloc (.cells #[.string ⟨#[]⟩, .slice none 0 0, .slice none 0 0] 57)).drew) := Lib.hid (HB0.out.b2_bel.trans (HZW.out.mono HB0.out.b2_bel.size))
 clear hbx hsz
 go_enter Tryz.func37, Tryz.ntmps37
 go_wp2
 rw [← hw0]
 have HW0 := Lib.hid hw0
 clear hw0
 obtain ⟨⟨a0, a1⟩, m0, m1, m2⟩ := HK.out _ (Below.refl _ _)
 go_cut [7] from 10 (fun t wx => ∃ pm, t = .pointer (some ⟨pm, 0, none⟩) ∧ Bx2 w wx (.cells #[.slice A ne ca, .slice (some ⟨ge, oe, none⟩) nm ca2] 25 (0, 0)) (.cells #[.slice B na cb, .slice B2 nr cr] 29 (0, 0)) ∧ wx.heap[pm]? = some (.cells #[.string sn, .slice A1 nf c1, .slice A3 nb c3] 57 (0, 0)))
 case first =>
  go_region_held3 (fun u => (u.cell? ⟨w.heap.size, 0, none⟩ = some (.slice A ne ca) ∧ u.cell? ⟨w.heap.size, 1, none⟩ = some (.slice (some ⟨ge, oe, none⟩) nm ca2)) ∧ (u.cell? ⟨ge, oe + mi * 3, none⟩ = some (.string sn) ∧ u.cell? ⟨ge, oe + mi * 3 + 1, none⟩ = some (.slice A1 nf c1) ∧ u.cell? ⟨ge, oe + mi * 3 + 2, none⟩ = some (.slice A3 nb c3)))
   (exact HK.out _ (by repeat' (first | with_reducible exact HFR.out | with_reducible exact HZW.out | with_reducible exact HFR.out.size | with_reducible refine Below.alloc ?_ ?_ _ | with_reducible refine Below.setCell ?_ ?_ _ | (simp; done))))
   (first
    | (go_at_call 34; refine (HM.out _ (by with_reducible exact HW8.out)).mono ?_; rintro e w1 ⟨rfl, hb⟩; replace HFR := Lib.hid (HFR.out.trans (hb.mono HFR.out.size)); clear hb)
    | (go_at_call 34; refine (HM.out _ (by with_reducible exact HZA.out)).mono ?_; rintro e w1 ⟨rfl, hb⟩; have hxz := (hb.block _ (lt_of_block HZX.out)).trans HZX.out; have z0 := obj_cell hxz 0; have z1 := obj_cell hxz 1; have z2 := obj_cell hxz 2; have f0 := obj_free hxz 0; have f1 := obj_free hxz 1; have f2 := obj_free hxz 2; have HXZ := Lib.hid hxz; replace HFR := Lib.hid (HZW.out.trans (hb.mono HZW.out.size)); clear hb hxz))
  ·have hbw : Below w0.heap.size w0 (w1.alloc (.cells #[.string sn, .slice A1 nf c1, .slice A3 nb c3] 57)) := HFR.out.alloc HFR.out.size _
   have hmb : (w1.alloc (.cells #[.string sn, .slice A1 nf c1, .slice A3 nb c3] 57)).heap[w1.heap.size]? = some (.cells #[.string sn, .slice A1 nf c1, .slice A3 nb c3] 57 (0, 0)) := heap_alloc_new w1 _
   go_wp2
   go_meet
   case rel => exact ⟨_, rfl, bx2_step HB0.out hbw, hmb⟩
  ·have hbw : Below w0.heap.size w0 (((w1.setCell ⟨w0.heap.size, 0, none⟩ (.string sn)).setCell ⟨w0.heap.size, 1, none⟩ (.slice A1 nf c1)).setCell ⟨w0.heap.size, 2, none⟩ (.slice A3 nb c3)) := ((HFR.out.setCell (p := ⟨w0.heap.size, 0, none⟩) (Nat.le_refl _) _).setCell (p := ⟨w0.heap.size, 1, none⟩) (Nat.le_refl _) _).setCell (p := ⟨w0.heap.size, 2, none⟩) (Nat.le_refl _) _
   have hmb : (((w1.setCell ⟨w0.heap.size, 0, none⟩ (.string sn)).setCell ⟨w0.heap.size, 1, none⟩ (.slice A1 nf c1)).setCell ⟨w0.heap.size, 2, none⟩ (.slice A3 nb c3)).heap[w0.heap.size]? = some (.cells #[.string sn, .slice A1 nf c1, .slice A3 nb c3] 57 (0, 0)) := (obj_set (obj_set (obj_set HXZ.out 0 _) 1 _) 2 _).trans rfl
   go_wp2
   go_meet
   case rel => exact ⟨_, rfl, bx2_step HB0.out hbw, hmb⟩
 case rest =>
  obtain ⟨pm, rfl, hb2, hpm⟩ := hcut
  have hwcsz : w.heap.size ≤ wc.heap.size := hb2.b2_bel.size
  have HT : Hid (∀ u, Below wc.heap.size wc u → Below w.heap.size w u) := Lib.hid (fun u hb => hb2.b2_bel.trans (hb.mono hb2.b2_bel.size))
  have HK2 : Hid (∀ u, Below wc.heap.size wc u → ((u.cell? ⟨w.heap.size, 0, none⟩ = some (.slice A ne ca) ∧ u.cell? ⟨w.heap.size, 1, none⟩ = some (.slice (some ⟨ge, oe, none⟩) nm ca2)) ∧ (u.cell? ⟨w.heap.size + 1, 0, none⟩ = some (.slice B na cb) ∧ u.cell? ⟨w.heap.size + 1, 1, none⟩ = some (.slice B2 nr cr)) ∧ (u.cell? ⟨pm, 0, none⟩ = some (.string sn) ∧ u.cell? ⟨pm, 1, none⟩ = some (.slice A1 nf c1) ∧ u.cell? ⟨pm, 2, none⟩ = some (.slice A3 nb c3)))) := Lib.hid (fun u hb => by
   have hu := bx2_step hb2 hb
   have hm := (hb.block _ (lt_of_block hpm)).trans hpm
   exact ⟨⟨obj_cell hu.b2_one 0, obj_cell hu.b2_one 1⟩, ⟨obj_cell hu.b2_two 0, obj_cell hu.b2_two 1⟩, obj_cell hm 0, obj_cell hm 1, obj_cell hm 2⟩)
  have HO : Hid ((wc.alloc (.cells #[] 5)).ownsRow wc.heap.size 5 1 (.slice (some ⟨wc.heap.size, 0, none⟩) 0 0) 0 (cellsOf (putR ((sl.take 0).flatMap E)))) := World.ownsRow_made (base := wc.heap.size) (e := 5) (size := 1) wc #[] 0 (Nat.le_refl _) (by decide) rfl
  have HC1 : Hid (Below wc.heap.size wc (wc.alloc (.cells #[] 5))) := (Below.refl _ wc).alloc (Nat.le_refl _) _
  clear HB0 HK HFR HZW HZX HW8 HZA HW0 a0 a1 m0 m1 m2 hb2 hpm HM
  go_wp2
  go_loopw [8, 9] (fun x8 x9 wr => ∃ (k q : Nat) (vo : Value), k ≤ na ∧ x9 = .int .i64 (k : Int) ∧ x8 = vo ∧ wr.ownsRow wc.heap.size 5 1 vo q (cellsOf (putR ((sl.take k).flatMap E))) ∧ Below wc.heap.size wc wr) (fun _ x _ => na - (intOf x).toNat)
  case atStart => exact ⟨0, 0, _, Nat.zero_le _, rfl, rfl, HO.out, HC1.out⟩
  case round =>
   obtain ⟨k, q, vo, hk, rfl, rfl, hown, hbel⟩ := hrel
   have HC2 := Lib.hid hbel
   clear HO HC1
   obtain ⟨⟨a0, a1⟩, ⟨t0, t1⟩, m0, m1, m2⟩ := HK2.out _ HC2.out
   by_cases hlt : k < na
   ·have g1 : decide ((k : Int) < (na : Int)) = true := decide_eq_true (by omega)
    obtain ⟨y, hy⟩ : ∃ y, sl[k]? = some y := ⟨_, List.getElem?_eq_getElem (by have := HNA.out; omega)⟩
    obtain ⟨gv, ov, C, cc, hB, _, hcy, hvy⟩ := sl_at HXS.out hy
    obtain ⟨fi, f, gf, off, hfi, hfl, hA1, hcf, hcall⟩ := HSL.out k y hy
    subst hB hA1
    have HNY := Lib.hid (fun u (hb : Below w.heap.size w u) => HNUM.out u hb y.snum)
    rw [hfi] at HNY
    have HCY : Hid (∀ u, Below w.heap.size w u → u.cell? ⟨gv, ov + k * 2, none⟩ = some (.int .i64 y.snum) ∧ u.cell? ⟨gv, ov + k * 2 + 1, none⟩ = some (.slice C y.svals.length cc)) := Lib.hid (fun u hb => hcy u (stay_bel hb))
    have HCF := Lib.hid hcf
    have HCALL := Lib.hid (fun u (hb : Below w.heap.size w u) => hcall u C cc hb (vsAt_bel hvy hb))
    have hroom := slot_room hy HLEN.out
    have HFT : Hid (putR ((sl.take (k + 1)).flatMap E) = putR ((sl.take k).flatMap E) ++ putR (E y)) := Lib.hid (by rw [flatm_take hy, putR_append])
    obtain ⟨pre, hpre⟩ : ∃ pre, pre = putR ((sl.take k).flatMap E) := ⟨_, rfl⟩
    rw [← hpre] at hown HFT hroom
    obtain ⟨fb, hfb⟩ : ∃ fb, fb = putR (E y) := ⟨_, rfl⟩
    rw [← hfb] at HFT hroom HCALL
    obtain ⟨hm, Av, capv, hv0, hBs⟩ := Bs.own hown
    subst hv0
    have HROOM := Lib.hid hroom
    have HOWN := Lib.hid (own_below hown (drewN_under wr 1))
    have HC0 := HC2
    have HC := Lib.hid (HC2.out.trans ((drewN_under wr 1).mono HC2.out.size))
    have r1 : decide ((fi : Int) < 0) = false := decide_eq_false (by omega)
    have r2 : decide ((fi : Int) < (nf : Int)) = true := decide_eq_true (by omega)
    have r3 : (fi : Int) < (nf : Int) := by omega
    have r4 : (0 : Int) ≤ (fi : Int) := by omega
    clear hown hbel hpre hfb hm hBs hroom hcy hvy hcf hcall hy hfi HC2
    unfold fdV at HCALL
    generalize strOf f.name = s0 at *
    generalize strOf f.ref = s3 at *
    generalize strOf f.one = s6 at *
    generalize f.num = z1 at *
    generalize f.ty = z2 at *
    generalize f.rep = b4 at *
    generalize f.loose = b5 at *
    generalize y.svals.length = ly at *
    generalize y.snum = zy at *
    go_wp2
    go_region_held3 (fun u => ((u.cell? ⟨w.heap.size, 0, none⟩ = some (.slice A ne ca) ∧ u.cell? ⟨w.heap.size, 1, none⟩ = some (.slice (some ⟨ge, oe, none⟩) nm ca2)) ∧ (u.cell? ⟨w.heap.size + 1, 0, none⟩ = some (.slice (some ⟨gv, ov, none⟩) na cb) ∧ u.cell? ⟨w.heap.size + 1, 1, none⟩ = some (.slice B2 nr cr)) ∧ (u.cell? ⟨pm, 0, none⟩ = some (.string sn) ∧ u.cell? ⟨pm, 1, none⟩ = some (.slice (some ⟨gf, off, none⟩) nf c1) ∧ u.cell? ⟨pm, 2, none⟩ = some (.slice A3 nb c3))) ∧ (u.cell? ⟨gv, ov + k * 2, none⟩ = some (.int .i64 zy) ∧ u.cell? ⟨gv, ov + k * 2 + 1, none⟩ = some (.slice C ly cc)) ∧ (u.cell? ⟨gf, off + fi * 7, none⟩ = some (.string s0) ∧ u.cell? ⟨gf, off + fi * 7 + 1, none⟩ = some (.int .i64 z1) ∧ u.cell? ⟨gf, off + fi * 7 + 2, none⟩ = some (.int .i64 z2) ∧ u.cell? ⟨gf, off + fi * 7 + 3, none⟩ = some (.string s3) ∧ u.cell? ⟨gf, off + fi * 7 + 4, none⟩ = some (.bool b4) ∧ u.cell? ⟨gf, off + fi * 7 + 5, none⟩ = some (.bool b5) ∧ u.cell? ⟨gf, off + fi * 7 + 6, none⟩ = some (.string s6)))
     (first | exact ⟨HK2.out _ HC.out, HCY.out _ (HT.out _ HC.out), HCF.out _ (HT.out _ HC.out)⟩ | exact ⟨HK2.out _ HC0.out, HCY.out _ (HT.out _ HC0.out), HCF.out _ (HT.out _ HC0.out)⟩)
     (first
      | (go_at_call 84
         refine (HNY.out _ (HT.out _ HC.out)).mono ?_
         rintro e w3 ⟨rfl, hb⟩
         replace HC := Lib.hid (HC.out.trans (hb.mono HC.out.size))
         replace HOWN := Lib.hid (own_below HOWN.out hb)
         clear hb)
      | (go_at_call 86
         refine (HCALL.out _ (HT.out _ HC.out)).mono ?_
         rintro e w3 ⟨v2, n2, rfl, ho2, hb2⟩
         obtain ⟨hn2, A9, cap9, hv2, hBs2⟩ := Bs.own ho2
         subst hv2
         replace HC := Lib.hid (HC.out.trans (hb2.mono HC.out.size))
         replace HOWN := Lib.hid (own_below HOWN.out hb2)
         have HBS := Lib.hid hBs2
         clear ho2 hb2 hBs2 hn2)
      | (refine step_append_bs rfl _ _ (by rfl) (by rfl) HOWN.out (by rfl) HBS.out rfl (by have := HROOM.out; omega) HC.out.size ?_
         intro v3 w4 ho3 hg3
         have HO3 := Lib.hid ho3
         replace HC := Lib.hid (HC.out.grown hg3 HC.out.size (fun j hj => (HOWN.out.lt j hj).1))
         clear ho3 hg3))
    go_wp2
    go_roundw
    case rel => exact ⟨k + 1, _, _, by omega, by go_num, rfl, by rw [HFT.out]; exact HO3.out, HC.out⟩
    case measure => simp [intOf]; omega
   ·have g1 : decide ((k : Int) < (na : Int)) = false := decide_eq_false (by omega)
    have e : sl.take k = sl := List.take_of_length_le (by have := HNA.out; omega)
    rw [e] at hown
    have HPA : Hid (putR (sl.flatMap E ++ rl) = putR (sl.flatMap E) ++ putR rl) := Lib.hid (putR_append _ _)
    have hroom := HLEN.out
    rw [HPA.out, List.length_append] at hroom
    obtain ⟨pre, hpre⟩ : ∃ pre, pre = putR (sl.flatMap E) := ⟨_, rfl⟩
    obtain ⟨rb, hrb⟩ : ∃ rb, rb = putR rl := ⟨_, rfl⟩
    rw [← hpre] at hown hroom
    rw [← hrb] at hroom HREST
    obtain ⟨hm, Av, capv, hv0, hBs⟩ := Bs.own hown
    subst hv0
    have HR := Lib.hid (HREST.out _ (HT.out _ HC2.out))
    have HOWN := Lib.hid hown
    have HPRE := Lib.hid hpre
    have HRB := Lib.hid hrb
    clear hown hbel e hBs hm hpre hrb
    go_wp2_with (first
     | (go_at_call 87; refine HR.out.mono ?_; rintro e w3 ⟨v2, n2, rfl, ho2, hb2⟩; obtain ⟨hn2, A9, cap9, hv2, hBs2⟩ := Bs.own ho2; subst hv2; replace HC2 := Lib.hid (HC2.out.trans (hb2.mono HC2.out.size)); replace HOWN := Lib.hid (own_below HOWN.out hb2); have HBS := Lib.hid hBs2; clear ho2 hb2 hBs2 hn2)
     | (at_builtin; refine wpList_append_bs2 rfl _ _ 34 rfl wc.heap.size 5 i0 Tryz.underlying34 hi hz0 hz1 hz2 _ _ pre rfl HOWN.out _ _ _ rb rfl rfl HBS.out (by omega) HC2.out.size ?_; intro v3 w4 ho3 hg3 hm3; have HO3 := Lib.hid ho3; have HC3 := Lib.hid (HC2.out.grown hg3 HC2.out.size (fun j hj => (HOWN.out.lt j hj).1)); clear ho3 hg3 hm3))
    go_ret
    have hfin := own_lower (b' := w.heap.size) HO3.out hwcsz
    rw [HPRE.out, HRB.out, ← HPA.out] at hfin
    exact ⟨_, _, rfl, hfin, HT.out _ HC3.out⟩
theorem rubytes_any {s : Sc} (hc0 : checkT s = 0) : ∀ n, RBytes s n
 | 0 => rubytes_step hc0 (fun k hk => by cases hk)
 | n + 1 => rubytes_step hc0 (fun k hk => by cases hk; exact rubytes_any hc0 n)
end Go.Proofs.YtloheacncefkgaaGreatDoor

/- The document's layer 21: Put. Conditions: those that each theorem names. -/
namespace Go.Proofs.YtloheacncefkgaaGreatDoor
open Go.RowKit
set_option linter.unusedVariables false
set_option maxRecDepth 100000

/-- The error that writing a value ends with. -/
def putC (s : Sc) (k : Nat) (name : List UInt8) (x : Tr) : Nat :=
 if messageT s name < 0 then 5 else if treeN s k name x = true then (if 16 < deepN k x then 3 else if 65536 < (encN s k name x).length then 3 else 0) else 1
def putB (s : Sc) (k : Nat) (name : List UInt8) (x : Tr) : List UInt8 := if putC s k name x = 0 then encN s k name x else []
/-- What a call of Put gives. -/
def EnPut (w : World) (bs : List UInt8) (c : Nat) (e : Ending) (w' : World) : Prop := ∃ A cap, e = .returned (.tuple #[.slice A bs.length cap, .int .i64 (c : Int)]) ∧ Bs w' A cap bs ∧ Below w.heap.size w w'
theorem put_ways (s : Sc) (k : Nat) (name : List UInt8) (x : Tr) : (messageT s name < 0 ∧ putC s k name x = 5 ∧ putB s k name x = []) ∨ (¬ messageT s name < 0 ∧ treeN s k name x = false ∧ putC s k name x = 1 ∧ putB s k name x = []) ∨ (¬ messageT s name < 0 ∧ treeN s k name x = true ∧ 16 < deepN k x ∧ putC s k name x = 3 ∧ putB s k name x = []) ∨ (¬ messageT s name < 0 ∧ treeN s k name x = true ∧ ¬ 16 < deepN k x ∧ 65536 < (encN s k name x).length ∧ putC s k name x = 3 ∧ putB s k name x = []) ∨ (¬ messageT s name < 0 ∧ treeN s k name x = true ∧ ¬ 16 < deepN k x ∧ ¬ 65536 < (encN s k name x).length ∧ putC s k name x = 0 ∧ putB s k name x = encN s k name x) := by
 unfold putB putC
 by_cases h1 : messageT s name < 0
 ·rw [if_pos h1]; exact .inl ⟨h1, rfl, rfl⟩
 ·rw [if_neg h1]
  cases h2 : treeN s k name x with
  | false => exact .inr (.inl ⟨h1, rfl, rfl, rfl⟩)
  | true =>
    rw [if_pos rfl]
    by_cases h3 : 16 < deepN k x
    ·rw [if_pos h3]; exact .inr (.inr (.inl ⟨h1, rfl, h3, rfl, rfl⟩))
    ·rw [if_neg h3]
     by_cases h4 : 65536 < (encN s k name x).length
     ·rw [if_pos h4]; exact .inr (.inr (.inr (.inl ⟨h1, rfl, h3, h4, rfl, rfl⟩)))
     ·rw [if_neg h4]; exact .inr (.inr (.inr (.inr ⟨h1, rfl, h3, h4, rfl, rfl⟩)))
set_option maxHeartbeats 8000000 in
theorem ruput_any {s : Sc} (hc0 : checkT s = 0) {n : Nat} {SS : Nat → Nat → Prop} {S : Nat → Prop} (w : World) (env : U8Env w) {A A2 : Option Addr} {ne ca nm ca2 : Nat} (name : List UInt8) {B B2 : Option Addr} {na cb nr cr : Nat} {x : Tr} (h : ScAt SS w A ne ca A2 nm ca2 s) (hx : TrAt S n w B na cb B2 nr cr x) (hf : FitN (n + 1) x) (ho : OkN (n + 1) x) (hd : deepN (n + 1) x ≤ 1000) (hcost : costN (n + 1) x ≤ 1000000000) :
 Calls Tryz.prog 12 #[.agg #[.slice A ne ca, .slice A2 nm ca2], .string (strOf name), .agg #[.slice B na cb, .slice B2 nr cr]] w (EnPut w (putB s (n + 1) name x) (putC s (n + 1) name x)) := by
 have HBX := Lib.hid (bx2_start w #[.slice A ne ca, .slice A2 nm ca2] #[.slice B na cb, .slice B2 nr cr] 25 29)
 have HK : Hid (∀ u, Bx2 w u (.cells #[.slice A ne ca, .slice A2 nm ca2] 25 (0, 0)) (.cells #[.slice B na cb, .slice B2 nr cr] 29 (0, 0)) → u.cell? ⟨w.heap.size, 0, none⟩ = some (.slice A ne ca) ∧ u.cell? ⟨w.heap.size, 1, none⟩ = some (.slice A2 nm ca2) ∧ u.cell? ⟨w.heap.size + 1, 0, none⟩ = some (.slice B na cb) ∧ u.cell? ⟨w.heap.size + 1, 1, none⟩ = some (.slice B2 nr cr)) := Lib.hid (fun u hu => ⟨obj_cell hu.b2_one 0, obj_cell hu.b2_one 1, obj_cell hu.b2_two 0, obj_cell hu.b2_two 1⟩)
 obtain ⟨s0, s1, t0, t1⟩ := HK.out _ HBX.out
 have HM := Lib.hid (fun u (hb : Below w.heap.size w u) => rvmessage_any u (scAt_bel h hb) name)
 have HT := Lib.hid (fun u (hb : Below w.heap.size w u) => rvtree_any s n SS S u A ne ca A2 nm ca2 name B na cb B2 nr cr x (env.goesOn hb) (scAt_bel h hb) (trAt_bel hx hb) hf ho)
 have HD := Lib.hid (fun u (hb : Below w.heap.size w u) => rtdeepN_any n S u B na cb B2 nr cr x (trAt_bel hx hb) hd)
 have HBY := Lib.hid (fun u (hb : Below w.heap.size w u) (ht : treeN s (n + 1) name x = true) => rubytes_any hc0 n SS S u A ne ca A2 nm ca2 name B na cb B2 nr cr x (scAt_bel h hb) (trAt_bel hx hb) ht ho hcost)
 have hways := put_ways s (n + 1) name x
 obtain ⟨mz, hmz⟩ : ∃ z, z = messageT s name := ⟨_, rfl⟩
 obtain ⟨tb, htb⟩ : ∃ z, z = treeN s (n + 1) name x := ⟨_, rfl⟩
 obtain ⟨dp, hdp⟩ : ∃ z, z = deepN (n + 1) x := ⟨_, rfl⟩
 obtain ⟨en, hen⟩ : ∃ z, z = encN s (n + 1) name x := ⟨_, rfl⟩
 obtain ⟨pb, hpb⟩ : ∃ z, z = putB s (n + 1) name x := ⟨_, rfl⟩
 obtain ⟨pc, hpc⟩ : ∃ z, z = putC s (n + 1) name x := ⟨_, rfl⟩
 rw [← hmz] at HM
 rw [← htb] at HT HBY
 rw [← hdp] at HD
 rw [← hen] at HBY
 rw [← hmz, ← htb, ← hdp, ← hen, ← hpb, ← hpc] at hways
 rw [← hpb, ← hpc]
 clear env h hx hf ho hd hcost hmz htb hdp hen hpb hpc
 generalize strOf name = sm at *
 rcases hways with ⟨e1, rfl, rfl⟩ | ⟨e1, rfl, rfl, rfl⟩ | ⟨e1, rfl, e3, rfl, rfl⟩ | ⟨e1, rfl, e3, e4, rfl, rfl⟩ | ⟨e1, rfl, e3, e4, rfl, he⟩
 ·have g1 : decide (mz < 0) = true := decide_eq_true e1
  go_enter Tryz.func12, Tryz.ntmps12
  go_wp2_with (go_at_call 34; refine (HM.out _ HBX.out.b2_bel).mono ?_; rintro e w2 ⟨rfl, hb⟩; replace HBX := Lib.hid (bx2_step HBX.out hb); obtain ⟨s0, s1, t0, t1⟩ := HK.out _ HBX.out; clear hb)
  go_ret2
  exact ⟨none, 0, rfl, bs_nil _, HBX.out.b2_bel⟩
 all_goals have g1 : decide (mz < 0) = false := decide_eq_false e1
 ·go_enter Tryz.func12, Tryz.ntmps12
  go_wp2_with (first
   | (go_at_call 34; refine (HM.out _ HBX.out.b2_bel).mono ?_; rintro e w2 ⟨rfl, hb⟩; replace HBX := Lib.hid (bx2_step HBX.out hb); obtain ⟨s0, s1, t0, t1⟩ := HK.out _ HBX.out; clear hb)
   | (go_at_call 35; refine (HT.out _ HBX.out.b2_bel).mono ?_; rintro e w3 ⟨rfl, hb⟩; replace HBX := Lib.hid (bx2_step HBX.out hb); obtain ⟨s0, s1, t0, t1⟩ := HK.out _ HBX.out; clear hb))
  go_ret2
  exact ⟨none, 0, rfl, bs_nil _, HBX.out.b2_bel⟩
 ·have g2 : decide ((dp : Int) > 16) = true := decide_eq_true (by omega)
  have g3 : decide ((16 : Int) < (dp : Int)) = true := decide_eq_true (by omega)
  go_enter Tryz.func12, Tryz.ntmps12
  go_wp2_with (first
   | (go_at_call 34; refine (HM.out _ HBX.out.b2_bel).mono ?_; rintro e w2 ⟨rfl, hb⟩; replace HBX := Lib.hid (bx2_step HBX.out hb); obtain ⟨s0, s1, t0, t1⟩ := HK.out _ HBX.out; clear hb)
   | (go_at_call 35; refine (HT.out _ HBX.out.b2_bel).mono ?_; rintro e w3 ⟨rfl, hb⟩; replace HBX := Lib.hid (bx2_step HBX.out hb); obtain ⟨s0, s1, t0, t1⟩ := HK.out _ HBX.out; clear hb)
   | (go_at_call 36; refine (HD.out _ HBX.out.b2_bel).mono ?_; rintro e w4 ⟨rfl, hb⟩; replace HBX := Lib.hid (bx2_step HBX.out hb); obtain ⟨s0, s1, t0, t1⟩ := HK.out _ HBX.out; clear hb))
  go_ret2
  exact ⟨none, 0, rfl, bs_nil _, HBX.out.b2_bel⟩
 all_goals have g2 : decide ((dp : Int) > 16) = false := decide_eq_false (by omega)
 all_goals have g3 : decide ((16 : Int) < (dp : Int)) = false := decide_eq_false (by omega)
 ·have g4 : decide ((en.length : Int) > 65536) = true := decide_eq_true (by omega)
  have g5 : decide ((65536 : Int) < (en.length : Int)) = true := decide_eq_true (by omega)
  go_enter Tryz.func12, Tryz.ntmps12
  go_wp2_with (first
   | (go_at_call 34; refine (HM.out _ HBX.out.b2_bel).mono ?_; rintro e w2 ⟨rfl, hb⟩; replace HBX := Lib.hid (bx2_step HBX.out hb); obtain ⟨s0, s1, t0, t1⟩ := HK.out _ HBX.out; clear hb)
   | (go_at_call 35; refine (HT.out _ HBX.out.b2_bel).mono ?_; rintro e w3 ⟨rfl, hb⟩; replace HBX := Lib.hid (bx2_step HBX.out hb); obtain ⟨s0, s1, t0, t1⟩ := HK.out _ HBX.out; clear hb)
   | (go_at_call 36; refine (HD.out _ HBX.out.b2_bel).mono ?_; rintro e w4 ⟨rfl, hb⟩; replace HBX := Lib.hid (bx2_step HBX.out hb); obtain ⟨s0, s1, t0, t1⟩ := HK.out _ HBX.out; clear hb)
   | (go_at_call 37; refine (HBY.out _ HBX.out.b2_bel (by first | trivial | rfl)).mono ?_; rintro e w5 ⟨v2, n2, rfl, ho2, hb⟩; obtain ⟨hn2, A9, cap9, hv2, hBs2⟩ := Bs.own ho2; subst hv2; replace HBX := Lib.hid (bx2_step HBX.out hb); clear hb))
  go_ret2
  exact ⟨none, 0, rfl, bs_nil _, HBX.out.b2_bel⟩
 ·rw [he]
  clear he pb
  have g4 : decide ((en.length : Int) > 65536) = false := decide_eq_false (by omega)
  have g5 : decide ((65536 : Int) < (en.length : Int)) = false := decide_eq_false (by omega)
  go_enter Tryz.func12, Tryz.ntmps12
  go_wp2_with (first
   | (go_at_call 34; refine (HM.out _ HBX.out.b2_bel).mono ?_; rintro e w2 ⟨rfl, hb⟩; replace HBX := Lib.hid (bx2_step HBX.out hb); obtain ⟨s0, s1, t0, t1⟩ := HK.out _ HBX.out; clear hb)
   | (go_at_call 35; refine (HT.out _ HBX.out.b2_bel).mono ?_; rintro e w3 ⟨rfl, hb⟩; replace HBX := Lib.hid (bx2_step HBX.out hb); obtain ⟨s0, s1, t0, t1⟩ := HK.out _ HBX.out; clear hb)
   | (go_at_call 36; refine (HD.out _ HBX.out.b2_bel).mono ?_; rintro e w4 ⟨rfl, hb⟩; replace HBX := Lib.hid (bx2_step HBX.out hb); obtain ⟨s0, s1, t0, t1⟩ := HK.out _ HBX.out; clear hb)
   | (go_at_call 37; refine (HBY.out _ HBX.out.b2_bel (by first | trivial | rfl)).mono ?_; rintro e w5 ⟨v2, n2, rfl, ho2, hb⟩; obtain ⟨hn2, A9, cap9, hv2, hBs2⟩ := Bs.own ho2; subst hv2; replace HBX := Lib.hid (bx2_step HBX.out hb); have HBS := Lib.hid hBs2; clear hb))
  go_ret2
  exact ⟨_, _, rfl, HBS.out, HBX.out.b2_bel⟩
end Go.Proofs.YtloheacncefkgaaGreatDoor
