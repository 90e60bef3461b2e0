/- Several texts in one: RvE, RvF, RvG. What each proves, and its conditions, stands at its own head. -/
import Derived.Test.YtloheacncefkgaaGreatDoorPkEU22
import Derived.Test.YtloheacncefkgaaGreatDoorPkEU3
import Derived.Test.YtloheacncefkgaaGreatDoorPkEU25
import Derived.Test.YtloheacncefkgaaGreatDoorPkEU14
import Derived.Test.YtloheacncefkgaaGreatDoorPkEU20
/- The document's layer 15: what is there twice. Conditions: those that each theorem names. -/
namespace Go.Proofs.YtloheacncefkgaaGreatDoor
open Go.RowKit
set_option linter.unusedVariables false
set_option maxRecDepth 100000

section
variable {P : Program} {Q : Exit → Act → World → Prop} {md : Region.Mode} {S : World → Prop} {l rest : List Oper} {oi : Oper} {fuel : Nat} {listed : Array Bool} {a : Act} {w : World}
/-- take_at in short. -/
theorem tve (i : Nat) (v : Value) (hS : S w) (hy : ∀ w, S w → (execOp a.eval oi).run P w = .ok (.value v) w) (h : wpAnyH P md l.toArray Q S fuel (listed.setIfInBounds i true) (a.put oi.dst v) w)
 (hd : l.drop i = oi :: rest := by exact rfl) (hs : Region.noSelect l.toArray = true := by kernel_rfl) (hf : Region.free md l.toArray listed i = true := by kernel_rfl) (hr : (Region.ready md l.toArray listed).contains i = true := by kernel_rfl) (hQ : ∀ c a w, Q (.panic c) (a.put oi.dst v) w → Q (.panic c) a w := by exact (fun _ _ _ h => h)) (hw : Region.wanted oi (yielded l.toArray a.tmps) = true := by rfl) : wpAnyH P md l.toArray Q S (fuel + 1) listed a w :=
 take_at hd hs hf hr hQ (.inl ⟨hw, hy⟩) hS h
theorem tse (i : Nat) (hS : S w) (h : wpAnyH P md l.toArray Q S fuel (listed.setIfInBounds i true) (a.put oi.dst undef) w)
 (hd : l.drop i = oi :: rest := by exact rfl) (hs : Region.noSelect l.toArray = true := by kernel_rfl) (hf : Region.free md l.toArray listed i = true := by kernel_rfl) (hr : (Region.ready md l.toArray listed).contains i = true := by kernel_rfl) (hQ : ∀ c a w, Q (.panic c) (a.put oi.dst undef) w → Q (.panic c) a w := by exact (fun _ _ _ h => h)) (hw : Region.wanted oi (yielded l.toArray a.tmps) = false := by rfl) : wpAnyH P md l.toArray Q S (fuel + 1) listed a w :=
 take_at hd hs hf hr hQ (.inr ⟨hw, rfl⟩) hS h
end
set_option maxHeartbeats 16000000 in
theorem rvtwice_any {S : Nat → Nat → Prop} (w : World) {A A2 : Option Addr} {n cap n2 cap2 : Nat} {s : Sc} (h : ScAt S w A n cap A2 n2 cap2 s) (hfew : Few s) :
 Calls Tryz.prog 22 #[.agg #[.slice A n cap, .slice A2 n2 cap2]] w fun e w' => e = .returned (.bool (twiceT s)) ∧ Below w.heap.size w w' := by
 obtain ⟨m1, m2, m3, m4⟩ := scAt_max h
 have H := Lib.hid h
 have HBX := Lib.hid (bx_start w #[.slice A n cap, .slice A2 n2 cap2] 25)
 have HFEW := Lib.hid hfew
 have HV : Hid (twiceT s = ((s.enums.any twiceE || s.msgs.any twiceM) || !onceB (eNames s ++ mNames s))) := Lib.hid rfl
 obtain ⟨w0, hw0⟩ : ∃ w0, w0 = w.alloc (.cells #[.slice A n cap, .slice A2 n2 cap2] 25) := ⟨_, rfl⟩
 have HW0 := Lib.hid hw0
 rw [← hw0] at HBX
 have HB0 := Lib.hid HBX.out
 have HOW0 := Lib.hid (own0_str w0)
 have HBL0 : Hid (Below w0.heap.size w0 (w0.alloc (.cells #[] 9))) := Lib.hid ((Below.refl _ w0).alloc (Nat.le_refl _) _)
 have HN3 : Hid (n ≤ 3 ∧ n2 ≤ 6) := Lib.hid (by have := hfew.few_e; have := hfew.few_m; have := h.s_ne; have := h.s_nm; omega)
 clear h hfew hw0 HBX
 go_enter Tryz.func22, Tryz.ntmps22
 go_wp2
 go_loopg [3, 4, 5] n (fun gz x0 x1 x2 wr => ∃ i : Nat, x2 = .int .i64 (i : Int) ∧ i + gz = n ∧ ∃ va, x0 = va ∧ wr.ownsRow w0.heap.size 9 1 va ((eNames s).take i).length (txts ((eNames s).take i)) ∧ x1 = .bool ((s.enums.take i).any twiceE) ∧ Below w0.heap.size w0 wr)
 case atStart => exact ⟨0, rfl, by omega, (by have e := HW0.out; subst e; have h1 := HOW0.out; simp only [World.size_alloc] at h1 ⊢; have h2 := HBL0.out; simp only [World.size_alloc] at h2; exact ⟨_, rfl, h1, rfl, h2⟩)⟩
 case round =>
  obtain ⟨i, rfl, hi, va, rfl, hown, rfl, hbel⟩ := hrel
  have HOWN := Lib.hid hown
  have HBEL := Lib.hid hbel
  have HBX := Lib.hid (bx_step HB0.out hbel)
  clear hown hbel
  have r0 := obj_cell (HBX.out).b_blk 0
  have r1 := obj_cell (HBX.out).b_blk 1
  obtain ⟨g0, hg0⟩ : ∃ g0, g0 = gk := ⟨_, rfl⟩
  subst hg0
  by_cases hlti : i < n
  ·have ti : decide ((i : Int) < (n : Int)) = true := decide_eq_true (by omega)
   obtain ⟨x, hx⟩ : ∃ x, s.enums[i]? = some x := ⟨_, List.getElem?_eq_getElem (by have := H.out.s_ne; omega)⟩
   have HXI := Lib.hid hx
   obtain ⟨ge, oe, A1, cap1, rfl, _, hc, hl⟩ := en_at H.out.s_e hx
   have q1 := hl.l_le
   have q2 := hl.l_max
   unfold maxLen at q2
   have HL := Lib.hid hl
   obtain ⟨nv, hnv⟩ : ∃ nv, nv = x.values.length := ⟨_, rfl⟩
   have HNV := Lib.hid hnv
   rw [← hnv] at hc q1
   obtain ⟨sn, hsn⟩ : ∃ sn, sn = strOf x.name := ⟨_, rfl⟩
   have HSN := Lib.hid hsn
   rw [← hsn] at hc
   have HC := Lib.hid hc
   clear hx hl hnv hsn hc
   obtain ⟨c0, c1⟩ := HC.out _ HBX.out.b_bel
   have HLN : Hid (((eNames s).take i).length ≤ 3) := Lib.hid (by have := HN3.out; rw [List.length_take]; omega)
   have HTK : Hid ((eNames s).take (i + 1) = (eNames s).take i ++ [x.name]) := Lib.hid (split_take (by unfold eNames; rw [List.getElem?_map, HXI.out]; rfl))
   have HX := Lib.hid (any_snoc s.enums twiceE i x HXI.out)
   have HNV8 : Hid (nv ≤ 8) := Lib.hid (by have := HFEW.out.few_v x (List.mem_of_getElem? HXI.out); have := HNV.out; omega)
   go_wp2_with (first
    | (at_builtin; refine wpList_append_sl rfl _ _ rfl w0.heap.size _ _ _ rfl (own_below HOWN.out ((Below.refl _ _).alloc (Nat.le_refl _) _)) _ 1 1 [x.name] rfl rfl (sl_txt1 _ _ _ _ HSN.out) (by have := HLN.out; show _ + 1 ≤ 1000000; omega) (by have := HBEL.out.size; simp; omega) ?_; intro va2 w2 ho hg; have HOA := Lib.hid ho; have HBA := Lib.hid ((HBEL.out.alloc HBEL.out.size _).grown hg (by have := HBEL.out.size; simp; omega) (fun k hk => (HOWN.out.lt k hk).1)); clear ho hg))
   have HBXA := Lib.hid (bx_step HB0.out HBA.out)
   have HOW2 := Lib.hid (own0_str w2)
   clear c0 c1 r0 r1
   go_loopg [6, 7] nv (fun gz x0 x1 wr => ∃ k : Nat, x1 = .int .i64 (k : Int) ∧ k + gz = nv ∧ ∃ vl, x0 = vl ∧ wr.ownsRow w2.heap.size 9 1 vl ((vNames x).take k).length (txts ((vNames x).take k)) ∧ Below w2.heap.size w2 wr)
   case atStart => exact ⟨0, rfl, by omega, _, rfl, HOW2.out, (Below.refl _ w2).alloc (Nat.le_refl _) _⟩
   case round =>
    obtain ⟨k, rfl, hk, vl, rfl, hown, hbel⟩ := hrel
    have HOWL := Lib.hid hown
    have HBEL2 := Lib.hid hbel
    have HBX := Lib.hid (bx_step HBXA.out hbel)
    clear hown hbel
    have r0 := obj_cell (HBX.out).b_blk 0
    have r1 := obj_cell (HBX.out).b_blk 1
    obtain ⟨g1, hg1⟩ : ∃ g1, g1 = gk := ⟨_, rfl⟩
    subst hg1
    by_cases hltk : k < nv
    ·have tk : decide ((k : Int) < (nv : Int)) = true := decide_eq_true (by omega)
     obtain ⟨v, hv⟩ : ∃ v, x.values[k]? = some v := ⟨_, List.getElem?_eq_getElem (by have := HNV.out; omega)⟩
     have HVI := Lib.hid hv
     obtain ⟨gv, ov, rfl, _, hcv⟩ := vl_at HL.out hv
     obtain ⟨c0, c1⟩ := HC.out _ HBX.out.b_bel
     obtain ⟨d0, d1⟩ := hcv _ HBX.out.b_bel
     obtain ⟨sv, hsv⟩ : ∃ sv, sv = strOf v.name := ⟨_, rfl⟩
     have HSV := Lib.hid hsv
     rw [← hsv] at d0
     have HLN : Hid (((vNames x).take k).length ≤ 8) := Lib.hid (by have := HNV8.out; rw [List.length_take]; omega)
     have HTV : Hid ((vNames x).take (k + 1) = (vNames x).take k ++ [v.name]) := Lib.hid (split_take (by unfold vNames; rw [List.getElem?_map, HVI.out]; rfl))
     clear hv hsv hcv
     go_wp2_with (first
      | (at_builtin; refine wpList_append_sl rfl _ _ rfl w2.heap.size _ _ _ rfl (own_below HOWL.out ((Below.refl _ _).alloc (Nat.le_refl _) _)) _ 1 1 [v.name] rfl rfl (sl_txt1 _ _ _ _ HSV.out) (by have := HLN.out; show _ + 1 ≤ 1000000; omega) (by have := HBEL2.out.size; simp; omega) ?_; intro vl2 w3 ho hg; have HOL := Lib.hid ho; have HBL := Lib.hid ((HBEL2.out.alloc HBEL2.out.size _).grown hg (by have := HBEL2.out.size; simp; omega) (fun k hk => (HOWL.out.lt k hk).1)); clear ho hg))
     go_roundg (g1 - 1)
     case measure => omega
     case rel => exact ⟨k + 1, by go_num, by omega, _, rfl, (by rw [HTV.out, List.length_append]; exact HOL.out), HBL.out⟩
    ·have tk : decide ((k : Int) < (nv : Int)) = false := decide_eq_false (by omega)
     obtain ⟨c0, c1⟩ := HC.out _ HBX.out.b_bel
     have HF : Hid ((vNames x).take k = vNames x) := Lib.hid (List.take_of_length_le (by unfold vNames; rw [List.length_map]; have := HNV.out; omega))
     have ho := HOWL.out
     rw [HF.out] at ho
     obtain ⟨_, Al, capl, hvl, hsl⟩ := Sl.own ho
     rw [txts_length] at hvl
     obtain ⟨nl, hnl⟩ : ∃ nl, nl = (vNames x).length := ⟨_, rfl⟩
     rw [← hnl] at hvl
     subst hvl
     have HSL := Lib.hid hsl
     have HNL := Lib.hid hnl
     have HON := Lib.hid (ronce_any wr hsl hnl)
     clear ho hsl hnl
     obtain ⟨b, hb⟩ : ∃ b, b = ((s.enums.take i).any twiceE) := ⟨_, rfl⟩
     have HBB := Lib.hid hb
     rw [← hb]
     clear hb
     cases b with
     | true =>
       go_wp2
       go_roundg (g0 - 1)
       case measure => omega
       case rel => exact ⟨i + 1, by go_num, by omega, _, rfl, (by rw [HTK.out, List.length_append]; exact own_below HOA.out HBEL2.out), (by rw [HX.out, ← HBB.out]; rfl), HBA.out.trans (HBEL2.out.mono HBA.out.size)⟩
     | false =>
       go_wp2_with (first
        | (go_at_call 49; refine (HON.out).mono ?_; rintro e wq ⟨rfl, kq, rfl⟩))
       go_roundg (g0 - 1)
       case measure => omega
       case rel => exact ⟨i + 1, by go_num, by omega, _, rfl, (by rw [HTK.out, List.length_append]; exact own_below HOA.out (HBEL2.out.trans ((drewN_under wr kq).mono HBEL2.out.size))), (by rw [HX.out, ← HBB.out]; rfl), HBA.out.trans ((HBEL2.out.trans ((drewN_under wr kq).mono HBEL2.out.size)).mono HBA.out.size)⟩
  ·have ti : decide ((i : Int) < (n : Int)) = false := decide_eq_false (by omega)
   rw [any_whole s.enums twiceE i (by have := H.out.s_ne; omega)]
   have HFE : Hid ((eNames s).take i = eNames s) := Lib.hid (List.take_of_length_le (by unfold eNames; rw [List.length_map]; have := H.out.s_ne; omega))
   rw [HFE.out] at HOWN
   obtain ⟨h2, hh2⟩ : ∃ h2, h2 = s.enums.any twiceE := ⟨_, rfl⟩
   rw [← hh2] at HV ⊢
   have HLE : Hid ((eNames s).length ≤ 3) := Lib.hid (by unfold eNames; rw [List.length_map]; exact HFEW.out.few_e)
   clear hh2
   go_wp2
   go_loopg [3, 4, 8] n2 (fun gz x0 x1 x2 wr => ∃ i : Nat, x2 = .int .i64 (i : Int) ∧ i + gz = n2 ∧ ∃ va, x0 = va ∧ wr.ownsRow w0.heap.size 9 1 va (eNames s ++ (mNames s).take i).length (txts (eNames s ++ (mNames s).take i)) ∧ x1 = .bool (h2 || (s.msgs.take i).any twiceM) ∧ Below w0.heap.size w0 wr)
   case atStart => exact ⟨0, rfl, by omega, _, rfl, (by rw [List.take_zero, List.append_nil]; exact HOWN.out), by simp, HBEL.out⟩
   case round =>
    obtain ⟨i, rfl, hi, va, rfl, hown, rfl, hbel⟩ := hrel
    have HOWN := Lib.hid hown
    have HBEL := Lib.hid hbel
    have HBX := Lib.hid (bx_step HB0.out hbel)
    clear hown hbel
    have r0 := obj_cell (HBX.out).b_blk 0
    have r1 := obj_cell (HBX.out).b_blk 1
    obtain ⟨g0, hg0⟩ : ∃ g0, g0 = gk := ⟨_, rfl⟩
    subst hg0
    by_cases hlti : i < n2
    ·have ti : decide ((i : Int) < (n2 : Int)) = true := decide_eq_true (by omega)
     obtain ⟨x, hx⟩ : ∃ x, s.msgs[i]? = some x := ⟨_, List.getElem?_eq_getElem (by have := H.out.s_nm; omega)⟩
     have HXI := Lib.hid hx
     obtain ⟨ge, oe, A1, cap1, A3, cap3, rfl, _, hc, hl, hl2⟩ := ms_at H.out.s_m hx
     have q1 := hl.l_le
     have q2 := hl.l_max
     have q3 := hl2.l_le
     have q4 := hl2.l_max
     unfold maxLen at q2 q4
     have HL := Lib.hid hl
     have HL2 := Lib.hid hl2
     obtain ⟨nf, hnf⟩ : ∃ nf, nf = x.fields.length := ⟨_, rfl⟩
     obtain ⟨nb, hnb⟩ : ∃ nb, nb = x.barred.length := ⟨_, rfl⟩
     have HNF := Lib.hid hnf
     have HNB := Lib.hid hnb
     rw [← hnf] at hc q1
     rw [← hnb] at hc q3
     obtain ⟨sn, hsn⟩ : ∃ sn, sn = strOf x.name := ⟨_, rfl⟩
     have HSN := Lib.hid hsn
     rw [← hsn] at hc
     have HC := Lib.hid hc
     clear hx hl hl2 hnf hnb hsn hc
     obtain ⟨c0, c1, c2⟩ := HC.out _ HBX.out.b_bel
     have HLN : Hid ((eNames s ++ (mNames s).take i).length ≤ 9) := Lib.hid (by have := HN3.out; have := HLE.out; rw [List.length_append, List.length_take]; omega)
     have HTK : Hid (eNames s ++ (mNames s).take (i + 1) = (eNames s ++ (mNames s).take i) ++ [x.name]) := Lib.hid (by rw [split_take (x := x.name) (by unfold mNames; rw [List.getElem?_map, HXI.out]; rfl), List.append_assoc])
     have HX := Lib.hid (any_snoc s.msgs twiceM i x HXI.out)
     have HNF10 : Hid (nf ≤ 10) := Lib.hid (by have := (HFEW.out.few_f x (List.mem_of_getElem? HXI.out)).1; have := HNF.out; omega)
     go_wp2_with (first
      | (at_builtin; refine wpList_append_sl rfl _ _ rfl w0.heap.size _ _ _ rfl (own_below HOWN.out ((Below.refl _ _).alloc (Nat.le_refl _) _)) _ 1 1 [x.name] rfl rfl (sl_txt1 _ _ _ _ HSN.out) (by have := HLN.out; show _ + 1 ≤ 1000000; omega) (by have := HBEL.out.size; simp; omega) ?_; intro va2 w2 ho hg; have HOA := Lib.hid ho; have HBA := Lib.hid ((HBEL.out.alloc HBEL.out.size _).grown hg (by have := HBEL.out.size; simp; omega) (fun k hk => (HOWN.out.lt k hk).1)); clear ho hg; obtain ⟨c0, c1, c2⟩ := HC.out _ (bx_step HB0.out HBA.out).b_bel; have r0 := obj_cell (bx_step HB0.out HBA.out).b_blk 0; have r1 := obj_cell (bx_step HB0.out HBA.out).b_blk 1))
     have HBXA := Lib.hid (bx_step HB0.out HBA.out)
     have HOW2 := Lib.hid (own0_str w2)
     clear c0 c1 c2 r0 r1
     go_loopg [10, 11] nf (fun gz x0 x1 wr => ∃ k : Nat, x1 = .int .i64 (k : Int) ∧ k + gz = nf ∧ ∃ vl, x0 = vl ∧ wr.ownsRow w2.heap.size 9 1 vl ((fNames x).take k).length (txts ((fNames x).take k)) ∧ Below w2.heap.size w2 wr)
     case atStart => exact ⟨0, rfl, by omega, _, rfl, HOW2.out, (Below.refl _ w2).alloc (Nat.le_refl _) _⟩
     case round =>
      obtain ⟨k, rfl, hk, vl, rfl, hown, hbel⟩ := hrel
      have HOWL := Lib.hid hown
      have HBEL2 := Lib.hid hbel
      have HBX := Lib.hid (bx_step HBXA.out hbel)
      clear hown hbel
      have r0 := obj_cell (HBX.out).b_blk 0
      have r1 := obj_cell (HBX.out).b_blk 1
      obtain ⟨g1, hg1⟩ : ∃ g1, g1 = gk := ⟨_, rfl⟩
      subst hg1
      by_cases hltk : k < nf
      ·have tk : decide ((k : Int) < (nf : Int)) = true := decide_eq_true (by omega)
       obtain ⟨f, hf⟩ : ∃ f, x.fields[k]? = some f := ⟨_, List.getElem?_eq_getElem (by have := HNF.out; omega)⟩
       have HFI := Lib.hid hf
       obtain ⟨gf, of, rfl, _, hcf⟩ := fd_at HL.out hf
       have HCF := Lib.hid hcf
       clear hf hcf
       obtain ⟨d0, d1, d2, d3, d4, d5, d6⟩ := HCF.out _ HBX.out.b_bel
       obtain ⟨sv, hsv⟩ : ∃ sv, sv = strOf f.name := ⟨_, rfl⟩
       have HSV := Lib.hid hsv
       rw [← hsv] at d0
       have HLN : Hid (((fNames x).take k).length ≤ 10) := Lib.hid (by have := HNF10.out; rw [List.length_take]; omega)
       have HTV : Hid ((fNames x).take (k + 1) = (fNames x).take k ++ [f.name]) := Lib.hid (split_take (by unfold fNames; rw [List.getElem?_map, HFI.out]; rfl))
       clear hsv d1 d2 d3 d4 d5 d6
       go_wp2_with (first
        | (at_builtin; refine wpList_append_sl rfl _ _ rfl w2.heap.size _ _ _ rfl (own_below HOWL.out ((Below.refl _ _).alloc (Nat.le_refl _) _)) _ 1 1 [f.name] rfl rfl (sl_txt1 _ _ _ _ HSV.out) (by have := HLN.out; show _ + 1 ≤ 1000000; omega) (by have := HBEL2.out.size; simp; omega) ?_; intro vl2 w3 ho hg; have HOL := Lib.hid ho; have HBL := Lib.hid ((HBEL2.out.alloc HBEL2.out.size _).grown hg (by have := HBEL2.out.size; simp; omega) (fun k hk => (HOWL.out.lt k hk).1)); clear ho hg))
       go_roundg (g1 - 1)
       case measure => omega
       case rel => exact ⟨k + 1, by go_num, by omega, _, rfl, (by rw [HTV.out, List.length_append]; exact HOL.out), HBL.out⟩
      ·have tk : decide ((k : Int) < (nf : Int)) = false := decide_eq_false (by omega)
       have HF : Hid ((fNames x).take k = fNames x) := Lib.hid (List.take_of_length_le (by unfold fNames; rw [List.length_map]; have := HNF.out; omega))
       have ho := HOWL.out
       rw [HF.out] at ho
       obtain ⟨_, Al, capl, hvl, hsl⟩ := Sl.own ho
       rw [txts_length] at hvl
       obtain ⟨nl, hnl⟩ : ∃ nl, nl = (fNames x).length := ⟨_, rfl⟩
       rw [← hnl] at hvl
       subst hvl
       have HSL := Lib.hid hsl
       have HNL := Lib.hid hnl
       have HON := Lib.hid (ronce_any wr hsl hnl)
       clear ho hsl hnl
       obtain ⟨w4, hw4⟩ : ∃ w4, w4 = wr := ⟨_, rfl⟩
       subst hw4
       obtain ⟨b0, hb0⟩ : ∃ b0, b0 = (h2 || (s.msgs.take i).any twiceM || !onceB (fNames x)) := ⟨_, rfl⟩
       have HB9 := Lib.hid hb0
       clear hb0
       obtain ⟨b, hb⟩ : ∃ b, b = (h2 || (s.msgs.take i).any twiceM) := ⟨_, rfl⟩
       have HBB := Lib.hid hb
       rw [← hb]
       clear hb
       cases b with
       | true =>
         go_wp2
         go_loopg [4, 12] nf (fun gz x0 x1 wr => ∃ j : Nat, x1 = .int .i64 (j : Int) ∧ j + gz = nf ∧ x0 = .bool (b0 || (x.fields.take j).any (twiceF (fNames x))) ∧ Below w4.heap.size w4 wr)
         case atStart => exact ⟨0, rfl, by omega, by rw [HB9.out, ← HBB.out]; simp, Below.refl _ _⟩
         case round =>
          obtain ⟨j, rfl, hj, rfl, hbel⟩ := hrel
          have HBEL4 := Lib.hid hbel
          have HBX := Lib.hid (bx_step (bx_step HBXA.out HBEL2.out) hbel)
          clear hbel
          have r0 := obj_cell (HBX.out).b_blk 0
          have r1 := obj_cell (HBX.out).b_blk 1
          obtain ⟨g2, hg2⟩ : ∃ g2, g2 = gk := ⟨_, rfl⟩
          subst hg2
          by_cases hltj : j < nf
          ·have tj : decide ((j : Int) < (nf : Int)) = true := decide_eq_true (by omega)
           obtain ⟨f, hf⟩ : ∃ f, x.fields[j]? = some f := ⟨_, List.getElem?_eq_getElem (by have := HNF.out; omega)⟩
           have HFI := Lib.hid hf
           obtain ⟨gf, of, rfl, _, hcf⟩ := fd_at HL.out hf
           have HCF := Lib.hid hcf
           clear hf hcf
           obtain ⟨d0, d1, d2, d3, d4, d5, d6⟩ := HCF.out _ HBX.out.b_bel
           obtain ⟨so1, hso1⟩ : ∃ sv, sv = strOf f.one := ⟨_, rfl⟩
           have HSO := Lib.hid hso1
           rw [← hso1] at d6
           have HXF := Lib.hid (any_snoc x.fields (twiceF (fNames x)) j f HFI.out)
           clear d0 d1 d2 d3 d4 d5 hso1
           obtain ⟨b, hb⟩ : ∃ b, b = (b0 || (x.fields.take j).any (twiceF (fNames x))) := ⟨_, rfl⟩
           have HBB := Lib.hid hb
           rw [← hb]
           clear hb
           cases b with
           | true =>
             go_wp2
             refine wp_region_noPanic ?_
             refine wp_region_held_drew (S := fun _ => True) (by kernel_rfl) trivial (fun hHeld => ?_)
             refine tve 0 ?_ hHeld ?zy ?_
             case zy => intro w hSw; (try dsimp only at hSw); go_simp <;> with_reducible rfl
             try simp only [Act.put, List.setIfInBounds_toArray, List.set_cons_zero, List.set_cons_succ]
             refine tve 1 ?_ hHeld ?zy ?_
             case zy => intro w hSw; (try dsimp only at hSw); go_simp <;> with_reducible rfl
             try simp only [Act.put, List.setIfInBounds_toArray, List.set_cons_zero, List.set_cons_succ]
             refine tse 2 hHeld ?_
             try simp only [Act.put, List.setIfInBounds_toArray, List.set_cons_zero, List.set_cons_succ]
             refine tse 3 hHeld ?_
             try simp only [Act.put, List.setIfInBounds_toArray, List.set_cons_zero, List.set_cons_succ]
             refine tse 4 hHeld ?_
             try simp only [Act.put, List.setIfInBounds_toArray, List.set_cons_zero, List.set_cons_succ]
             refine tse 5 hHeld ?_
             try simp only [Act.put, List.setIfInBounds_toArray, List.set_cons_zero, List.set_cons_succ]
             refine tse 6 hHeld ?_
             try simp only [Act.put, List.setIfInBounds_toArray, List.set_cons_zero, List.set_cons_succ]
             refine tse 7 hHeld ?_
             try simp only [Act.put, List.setIfInBounds_toArray, List.set_cons_zero, List.set_cons_succ]
             refine tse 8 hHeld ?_
             try simp only [Act.put, List.setIfInBounds_toArray, List.set_cons_zero, List.set_cons_succ]
             refine tse 9 hHeld ?_
             try simp only [Act.put, List.setIfInBounds_toArray, List.set_cons_zero, List.set_cons_succ]
             refine tse 10 hHeld ?_
             try simp only [Act.put, List.setIfInBounds_toArray, List.set_cons_zero, List.set_cons_succ]
             refine tse 11 hHeld ?_
             try simp only [Act.put, List.setIfInBounds_toArray, List.set_cons_zero, List.set_cons_succ]
             refine tse 12 hHeld ?_
             try simp only [Act.put, List.setIfInBounds_toArray, List.set_cons_zero, List.set_cons_succ]
             refine tse 13 hHeld ?_
             try simp only [Act.put, List.setIfInBounds_toArray, List.set_cons_zero, List.set_cons_succ]
             refine tse 14 hHeld ?_
             try simp only [Act.put, List.setIfInBounds_toArray, List.set_cons_zero, List.set_cons_succ]
             refine tse 15 hHeld ?_
             try simp only [Act.put, List.setIfInBounds_toArray, List.set_cons_zero, List.set_cons_succ]
             refine tse 16 hHeld ?_
             try simp only [Act.put, List.setIfInBounds_toArray, List.set_cons_zero, List.set_cons_succ]
             refine tse 17 hHeld ?_
             try simp only [Act.put, List.setIfInBounds_toArray, List.set_cons_zero, List.set_cons_succ]
             refine tse 18 hHeld ?_
             try simp only [Act.put, List.setIfInBounds_toArray, List.set_cons_zero, List.set_cons_succ]
             refine tse 19 hHeld ?_
             try simp only [Act.put, List.setIfInBounds_toArray, List.set_cons_zero, List.set_cons_succ]
             refine tse 20 hHeld ?_
             try simp only [Act.put, List.setIfInBounds_toArray, List.set_cons_zero, List.set_cons_succ]
             refine tse 21 hHeld ?_
             try simp only [Act.put, List.setIfInBounds_toArray, List.set_cons_zero, List.set_cons_succ]
             refine tve 22 ?_ hHeld ?zy ?_
             case zy => intro w hSw; (try dsimp only at hSw); go_simp <;> with_reducible rfl
             try simp only [Act.put, List.setIfInBounds_toArray, List.set_cons_zero, List.set_cons_succ]
             refine tve 23 ?_ hHeld ?zy ?_
             case zy => intro w hSw; (try dsimp only at hSw); go_simp <;> with_reducible rfl
             try simp only [Act.put, List.setIfInBounds_toArray, List.set_cons_zero, List.set_cons_succ]
             refine wpAnyH_done (by kernel_rfl) ?_ _
             refine NoPanic.normal ?_
             clear hHeld
             go_wp2
             go_roundg (g2 - 1)
             case measure => omega
             case rel => exact ⟨j + 1, by go_num, by omega, by rw [HXF.out, ← Bool.or_assoc, ← HBB.out]; rfl, HBEL4.out.trans ((drewN_under wr 1).mono HBEL4.out.size)⟩
           | false =>
             by_cases hone : f.one = []
             ·have hoe : (so1.toList == []) = true := by rw [HSO.out, empty_facts]; exact decide_eq_true hone
              have o3 : so1.toList = [] := beq_iff_eq.1 hoe
              have o2 : so1.toList.isEmpty = true := by rw [o3]; rfl
              have HTF : Hid (twiceF (fNames x) f = false) := Lib.hid (by unfold twiceF; rw [decide_eq_true hone]; rfl)
              clear hone
              go_wp2
              refine wp_region_noPanic ?_
              refine wp_region_held_drew (S := fun w' => w'.cell? ⟨gf, of + j * 7 + 6, none⟩ = some (.string so1)) (by kernel_rfl) d6 (fun hHeld => ?_)
              refine tve 0 ?_ hHeld ?zy ?_
              case zy => intro w hSw; (try dsimp only at hSw); go_simp <;> with_reducible rfl
              try simp only [Act.put, List.setIfInBounds_toArray, List.set_cons_zero, List.set_cons_succ]
              refine tve 1 ?_ hHeld ?zy ?_
              case zy => intro w hSw; (try dsimp only at hSw); go_simp <;> with_reducible rfl
              try simp only [Act.put, List.setIfInBounds_toArray, List.set_cons_zero, List.set_cons_succ]
              refine tve 2 ?_ hHeld ?zy ?_
              case zy => intro w hSw; (try dsimp only at hSw); go_simp <;> with_reducible rfl
              try simp only [Act.put, List.setIfInBounds_toArray, List.set_cons_zero, List.set_cons_succ]
              refine tve 3 ?_ hHeld ?zy ?_
              case zy => intro w hSw; (try dsimp only at hSw); go_simp <;> with_reducible rfl
              try simp only [Act.put, List.setIfInBounds_toArray, List.set_cons_zero, List.set_cons_succ]
              refine tve 4 ?_ hHeld ?zy ?_
              case zy => intro w hSw; (try dsimp only at hSw); go_simp <;> with_reducible rfl
              try simp only [Act.put, List.setIfInBounds_toArray, List.set_cons_zero, List.set_cons_succ]
              refine tve 5 ?_ hHeld ?zy ?_
              case zy => intro w hSw; (try dsimp only at hSw); go_simp <;> with_reducible rfl
              try simp only [Act.put, List.setIfInBounds_toArray, List.set_cons_zero, List.set_cons_succ]
              refine tve 6 ?_ hHeld ?zy ?_
              case zy => intro w hSw; (try dsimp only at hSw); go_simp <;> with_reducible rfl
              try simp only [Act.put, List.setIfInBounds_toArray, List.set_cons_zero, List.set_cons_succ]
              refine tve 7 ?_ hHeld ?zy ?_
              case zy => intro w hSw; (try dsimp only at hSw); go_simp <;> with_reducible rfl
              try simp only [Act.put, List.setIfInBounds_toArray, List.set_cons_zero, List.set_cons_succ]
              refine tve 8 ?_ hHeld ?zy ?_
              case zy => intro w hSw; (try dsimp only at hSw); go_simp <;> with_reducible rfl
              try simp only [Act.put, List.setIfInBounds_toArray, List.set_cons_zero, List.set_cons_succ]
              refine tse 9 hHeld ?_
              try simp only [Act.put, List.setIfInBounds_toArray, List.set_cons_zero, List.set_cons_succ]
              refine tse 10 hHeld ?_
              try simp only [Act.put, List.setIfInBounds_toArray, List.set_cons_zero, List.set_cons_succ]
              refine tse 11 hHeld ?_
              try simp only [Act.put, List.setIfInBounds_toArray, List.set_cons_zero, List.set_cons_succ]
              refine tse 12 hHeld ?_
              try simp only [Act.put, List.setIfInBounds_toArray, List.set_cons_zero, List.set_cons_succ]
              refine tse 13 hHeld ?_
              try simp only [Act.put, List.setIfInBounds_toArray, List.set_cons_zero, List.set_cons_succ]
              refine tse 14 hHeld ?_
              try simp only [Act.put, List.setIfInBounds_toArray, List.set_cons_zero, List.set_cons_succ]
              refine tse 15 hHeld ?_
              try simp only [Act.put, List.setIfInBounds_toArray, List.set_cons_zero, List.set_cons_succ]
              refine tse 16 hHeld ?_
              try simp only [Act.put, List.setIfInBounds_toArray, List.set_cons_zero, List.set_cons_succ]
              refine tse 17 hHeld ?_
              try simp only [Act.put, List.setIfInBounds_toArray, List.set_cons_zero, List.set_cons_succ]
              refine tse 18 hHeld ?_
              try simp only [Act.put, List.setIfInBounds_toArray, List.set_cons_zero, List.set_cons_succ]
              refine tse 19 hHeld ?_
              try simp only [Act.put, List.setIfInBounds_toArray, List.set_cons_zero, List.set_cons_succ]
              refine tse 20 hHeld ?_
              try simp only [Act.put, List.setIfInBounds_toArray, List.set_cons_zero, List.set_cons_succ]
              refine tve 21 ?_ hHeld ?zy ?_
              case zy => intro w hSw; (try dsimp only at hSw); go_simp <;> with_reducible rfl
              try simp only [Act.put, List.setIfInBounds_toArray, List.set_cons_zero, List.set_cons_succ]
              refine tve 22 ?_ hHeld ?zy ?_
              case zy => intro w hSw; (try dsimp only at hSw); go_simp <;> with_reducible rfl
              try simp only [Act.put, List.setIfInBounds_toArray, List.set_cons_zero, List.set_cons_succ]
              refine tve 23 ?_ hHeld ?zy ?_
              case zy => intro w hSw; (try dsimp only at hSw); go_simp <;> with_reducible rfl
              try simp only [Act.put, List.setIfInBounds_toArray, List.set_cons_zero, List.set_cons_succ]
              refine wpAnyH_done (by kernel_rfl) ?_ _
              refine NoPanic.normal ?_
              clear hHeld
              go_wp2
              go_roundg (g2 - 1)
              case measure => omega
              case rel => exact ⟨j + 1, by go_num, by omega, by rw [HXF.out, ← Bool.or_assoc, ← HBB.out, HTF.out]; rfl, HBEL4.out.trans ((drewN_under wr 1).mono HBEL4.out.size)⟩
             ·have hoe : (so1.toList == []) = false := by rw [HSO.out, empty_facts]; exact decide_eq_false hone
              have o3 : ¬ so1.toList = [] := fun e => by rw [e] at hoe; cases hoe
              have o2 : so1.toList.isEmpty = false := by rw [List.isEmpty_eq_false_iff]; exact o3
              obtain ⟨r, hr⟩ : ∃ r, r = onceB (fNames x ++ [f.one]) := ⟨_, rfl⟩
              have HR := Lib.hid hr
              have HTF : Hid (twiceF (fNames x) f = !r) := Lib.hid (by unfold twiceF; rw [decide_eq_false hone, hr]; rfl)
              have HLN : Hid ((fNames x).length ≤ 10) := Lib.hid (by unfold fNames; rw [List.length_map]; have := HNF10.out; have := HNF.out; omega)
              have HD6 : Hid (∀ w', Below wr.heap.size wr w' → w'.cell? ⟨gf, of + j * 7 + 6, none⟩ = some (.string so1)) := Lib.hid (fun w' hb => cell_under hb d6)
              have HSLQ : Hid (∀ W, Below wr.heap.size wr W → Sl W Al capl (txts (fNames x))) := Lib.hid (fun W hb => HSL.out.below (HBEL4.out.trans (hb.mono HBEL4.out.size)) (Nat.le_refl _))
              have HBQ : Hid (Below wr.heap.size wr wr.drew) := Lib.hid (drewN_under wr 1)
              clear hone hr
              go_wp2
              go_region_held3 (fun w' => w'.cell? ⟨gf, of + j * 7 + 6, none⟩ = some (.string so1))
               (first | exact HD6.out _ HBQ.out | exact HD6.out _ (HBQ.out.alloc HBQ.out.size _) | exact HD6.out _ ((HBQ.out.alloc HBQ.out.size _).alloc (HBQ.out.alloc HBQ.out.size _).size _))
               (first
                | (refine step_append_txts (bs := [f.one]) (m := 1) (by rfl) _ _ (by rfl) (by rfl) (by first | exact HO1.out | exact own_below HO1.out ((Below.refl _ _).alloc (Nat.le_refl _) _)) (by rfl) (by first | exact sl_block1 (heap_alloc_new _ _) HSO.out | exact sl_block1 ((HG1.out.block (wr.heap.size + 1) (by first | (simp; done) | (simp; omega)) (by simp [Value.ownBlock])).trans (by have hh := heap_alloc_new (wr.alloc (.cells #[] 9)) (.cells #[.string so1] 9); rw [World.size_alloc] at hh; exact hh)) HSO.out | exact sl_block1 ((HG1.out.block wr.heap.size (by first | (simp; done) | (simp; omega)) (by simp [Value.ownBlock])).trans ((Below.heap_alloc _ _ _ (by simp)).trans (heap_alloc_new wr _))) HSO.out) rfl (by have := HLN.out; show _ + 1 ≤ 1000000; omega) (show Below wr.heap.size wr _ from by first | exact HBQ.out | exact (HBQ.out.alloc HBQ.out.size _) | exact ((HBQ.out.alloc HBQ.out.size _).alloc (HBQ.out.alloc HBQ.out.size _).size _)).size ?_; intro v2 u2 ho2 hg2; have HO2 := Lib.hid ho2; have hbq : Below wr.heap.size wr u2 := (show Below wr.heap.size wr _ from (by first | exact HBQ.out | exact (HBQ.out.alloc HBQ.out.size _) | exact ((HBQ.out.alloc HBQ.out.size _).alloc (HBQ.out.alloc HBQ.out.size _).size _))).grown hg2 (show Below wr.heap.size wr _ from (by first | exact HBQ.out | exact (HBQ.out.alloc HBQ.out.size _) | exact ((HBQ.out.alloc HBQ.out.size _).alloc (HBQ.out.alloc HBQ.out.size _).size _))).size (fun k hk => (HO1.out.lt k hk).1); replace HBQ := Lib.hid hbq; obtain ⟨_, A5, cap5, hv5, hs5⟩ := Sl.own ho2; rw [txts_length] at hv5; obtain ⟨n5, hn5⟩ : ∃ n5, n5 = (fNames x ++ [f.one]).length := ⟨_, rfl⟩; rw [← hn5] at hv5; subst hv5; have HON2 := Lib.hid (ronce_any u2 hs5 hn5); rw [← HR.out] at HON2; clear ho2 hg2 hbq hs5 hn5)
                | (refine step_append_txts (by rfl) _ _ (by rfl) (by rfl) (own_block0 (by first | exact heap_alloc_new _ _ | (have hh := heap_alloc_new (wr.alloc (.cells #[.string so1] 9)) (.cells #[] 9); rw [World.size_alloc] at hh; exact hh) | exact (Below.heap_alloc _ _ _ (by simp)).trans (heap_alloc_new wr _)) (by first | exact Nat.le_refl _ | omega)) (by rfl) (HSLQ.out _ (by first | exact HBQ.out | exact (HBQ.out.alloc HBQ.out.size _) | exact ((HBQ.out.alloc HBQ.out.size _).alloc (HBQ.out.alloc HBQ.out.size _).size _))) HNL.out (by have := HLN.out; show 0 + _ ≤ 1000000; omega) (show Below wr.heap.size wr _ from by first | exact HBQ.out | exact (HBQ.out.alloc HBQ.out.size _) | exact ((HBQ.out.alloc HBQ.out.size _).alloc (HBQ.out.alloc HBQ.out.size _).size _)).size ?_; intro v1 u1 ho1 hg1; rw [List.nil_append, List.length_nil, Nat.zero_add] at ho1; have HO1 := Lib.hid ho1; have HG1 := Lib.hid hg1; have hbq : Below wr.heap.size wr u1 := (show Below wr.heap.size wr _ from (by first | exact HBQ.out | exact (HBQ.out.alloc HBQ.out.size _) | exact ((HBQ.out.alloc HBQ.out.size _).alloc (HBQ.out.alloc HBQ.out.size _).size _))).grown hg1 (show Below wr.heap.size wr _ from (by first | exact HBQ.out | exact (HBQ.out.alloc HBQ.out.size _) | exact ((HBQ.out.alloc HBQ.out.size _).alloc (HBQ.out.alloc HBQ.out.size _).size _))).size (by intro k hk; simp [Value.ownBlock] at hk; omega); replace HBQ := Lib.hid hbq; clear ho1 hg1 hbq)
                | (go_at_call 49; refine (HON2.out).mono ?_; rintro e wq ⟨rfl, kq, rfl⟩; replace HBQ := Lib.hid (HBQ.out.trans ((drewN_under u2 kq).mono HBQ.out.size))))
              all_goals go_wp2
              all_goals go_roundg (g2 - 1)
              all_goals first | omega | skip
              all_goals exact ⟨j + 1, by go_num, by omega, by rw [HXF.out, ← Bool.or_assoc, ← HBB.out, HTF.out]; rfl, HBEL4.out.trans (HBQ.out.mono HBEL4.out.size)⟩
          ·have tj : decide ((j : Int) < (nf : Int)) = false := decide_eq_false (by omega)
           rw [any_whole x.fields _ j (by have := HNF.out; omega)]
           go_wp2
           go_roundg (g0 - 1)
           case measure => omega
           case rel => exact ⟨i + 1, by go_num, by omega, _, rfl, (by rw [HTK.out, List.length_append]; exact own_below HOA.out (HBEL2.out.trans (HBEL4.out.mono HBEL2.out.size))), (by rw [HX.out, HB9.out]; simp only [Bool.or_assoc]; rfl), HBA.out.trans ((HBEL2.out.trans (HBEL4.out.mono HBEL2.out.size)).mono HBA.out.size)⟩
       | false =>
         go_wp2_with (first
          | (go_at_call 49; refine (HON.out).mono ?_; rintro e wq ⟨rfl, kq, rfl⟩))
         go_loopg [4, 12] nf (fun gz x0 x1 wr => ∃ j : Nat, x1 = .int .i64 (j : Int) ∧ j + gz = nf ∧ x0 = .bool (b0 || (x.fields.take j).any (twiceF (fNames x))) ∧ Below w4.heap.size w4 wr)
         case atStart => exact ⟨0, rfl, by omega, by rw [HB9.out, ← HBB.out]; simp, drewN_under _ _⟩
         case round =>
          obtain ⟨j, rfl, hj, rfl, hbel⟩ := hrel
          have HBEL4 := Lib.hid hbel
          have HBX := Lib.hid (bx_step (bx_step HBXA.out HBEL2.out) hbel)
          clear hbel
          have r0 := obj_cell (HBX.out).b_blk 0
          have r1 := obj_cell (HBX.out).b_blk 1
          obtain ⟨g2, hg2⟩ : ∃ g2, g2 = gk := ⟨_, rfl⟩
          subst hg2
          by_cases hltj : j < nf
          ·have tj : decide ((j : Int) < (nf : Int)) = true := decide_eq_true (by omega)
           obtain ⟨f, hf⟩ : ∃ f, x.fields[j]? = some f := ⟨_, List.getElem?_eq_getElem (by have := HNF.out; omega)⟩
           have HFI := Lib.hid hf
           obtain ⟨gf, of, rfl, _, hcf⟩ := fd_at HL.out hf
           have HCF := Lib.hid hcf
           clear hf hcf
           obtain ⟨d0, d1, d2, d3, d4, d5, d6⟩ := HCF.out _ HBX.out.b_bel
           obtain ⟨so1, hso1⟩ : ∃ sv, sv = strOf f.one := ⟨_, rfl⟩
           have HSO := Lib.hid hso1
           rw [← hso1] at d6
           have HXF := Lib.hid (any_snoc x.fields (twiceF (fNames x)) j f HFI.out)
           clear d0 d1 d2 d3 d4 d5 hso1
           obtain ⟨b, hb⟩ : ∃ b, b = (b0 || (x.fields.take j).any (twiceF (fNames x))) := ⟨_, rfl⟩
           have HBB := Lib.hid hb
           rw [← hb]
           clear hb
           cases b with
           | true =>
             go_wp2
             refine wp_region_noPanic ?_
             refine wp_region_held_drew (S := fun _ => True) (by kernel_rfl) trivial (fun hHeld => ?_)
             refine tve 0 ?_ hHeld ?zy ?_
             case zy => intro w hSw; (try dsimp only at hSw); go_simp <;> with_reducible rfl
             try simp only [Act.put, List.setIfInBounds_toArray, List.set_cons_zero, List.set_cons_succ]
             refine tve 1 ?_ hHeld ?zy ?_
             case zy => intro w hSw; (try dsimp only at hSw); go_simp <;> with_reducible rfl
             try simp only [Act.put, List.setIfInBounds_toArray, List.set_cons_zero, List.set_cons_succ]
             refine tse 2 hHeld ?_
             try simp only [Act.put, List.setIfInBounds_toArray, List.set_cons_zero, List.set_cons_succ]
             refine tse 3 hHeld ?_
             try simp only [Act.put, List.setIfInBounds_toArray, List.set_cons_zero, List.set_cons_succ]
             refine tse 4 hHeld ?_
             try simp only [Act.put, List.setIfInBounds_toArray, List.set_cons_zero, List.set_cons_succ]
             refine tse 5 hHeld ?_
             try simp only [Act.put, List.setIfInBounds_toArray, List.set_cons_zero, List.set_cons_succ]
             refine tse 6 hHeld ?_
             try simp only [Act.put, List.setIfInBounds_toArray, List.set_cons_zero, List.set_cons_succ]
             refine tse 7 hHeld ?_
             try simp only [Act.put, List.setIfInBounds_toArray, List.set_cons_zero, List.set_cons_succ]
             refine tse 8 hHeld ?_
             try simp only [Act.put, List.setIfInBounds_toArray, List.set_cons_zero, List.set_cons_succ]
             refine tse 9 hHeld ?_
             try simp only [Act.put, List.setIfInBounds_toArray, List.set_cons_zero, List.set_cons_succ]
             refine tse 10 hHeld ?_
             try simp only [Act.put, List.setIfInBounds_toArray, List.set_cons_zero, List.set_cons_succ]
             refine tse 11 hHeld ?_
             try simp only [Act.put, List.setIfInBounds_toArray, List.set_cons_zero, List.set_cons_succ]
             refine tse 12 hHeld ?_
             try simp only [Act.put, List.setIfInBounds_toArray, List.set_cons_zero, List.set_cons_succ]
             refine tse 13 hHeld ?_
             try simp only [Act.put, List.setIfInBounds_toArray, List.set_cons_zero, List.set_cons_succ]
             refine tse 14 hHeld ?_
             try simp only [Act.put, List.setIfInBounds_toArray, List.set_cons_zero, List.set_cons_succ]
             refine tse 15 hHeld ?_
             try simp only [Act.put, List.setIfInBounds_toArray, List.set_cons_zero, List.set_cons_succ]
             refine tse 16 hHeld ?_
             try simp only [Act.put, List.setIfInBounds_toArray, List.set_cons_zero, List.set_cons_succ]
             refine tse 17 hHeld ?_
             try simp only [Act.put, List.setIfInBounds_toArray, List.set_cons_zero, List.set_cons_succ]
             refine tse 18 hHeld ?_
             try simp only [Act.put, List.setIfInBounds_toArray, List.set_cons_zero, List.set_cons_succ]
             refine tse 19 hHeld ?_
             try simp only [Act.put, List.setIfInBounds_toArray, List.set_cons_zero, List.set_cons_succ]
             refine tse 20 hHeld ?_
             try simp only [Act.put, List.setIfInBounds_toArray, List.set_cons_zero, List.set_cons_succ]
             refine tse 21 hHeld ?_
             try simp only [Act.put, List.setIfInBounds_toArray, List.set_cons_zero, List.set_cons_succ]
             refine tve 22 ?_ hHeld ?zy ?_
             case zy => intro w hSw; (try dsimp only at hSw); go_simp <;> with_reducible rfl
             try simp only [Act.put, List.setIfInBounds_toArray, List.set_cons_zero, List.set_cons_succ]
             refine tve 23 ?_ hHeld ?zy ?_
             case zy => intro w hSw; (try dsimp only at hSw); go_simp <;> with_reducible rfl
             try simp only [Act.put, List.setIfInBounds_toArray, List.set_cons_zero, List.set_cons_succ]
             refine wpAnyH_done (by kernel_rfl) ?_ _
             refine NoPanic.normal ?_
             clear hHeld
             go_wp2
             go_roundg (g2 - 1)
             case measure => omega
             case rel => exact ⟨j + 1, by go_num, by omega, by rw [HXF.out, ← Bool.or_assoc, ← HBB.out]; rfl, HBEL4.out.trans ((drewN_under wr 1).mono HBEL4.out.size)⟩
           | false =>
             by_cases hone : f.one = []
             ·have hoe : (so1.toList == []) = true := by rw [HSO.out, empty_facts]; exact decide_eq_true hone
              have o3 : so1.toList = [] := beq_iff_eq.1 hoe
              have o2 : so1.toList.isEmpty = true := by rw [o3]; rfl
              have HTF : Hid (twiceF (fNames x) f = false) := Lib.hid (by unfold twiceF; rw [decide_eq_true hone]; rfl)
              clear hone
              go_wp2
              refine wp_region_noPanic ?_
              refine wp_region_held_drew (S := fun w' => w'.cell? ⟨gf, of + j * 7 + 6, none⟩ = some (.string so1)) (by kernel_rfl) d6 (fun hHeld => ?_)
              refine tve 0 ?_ hHeld ?zy ?_
              case zy => intro w hSw; (try dsimp only at hSw); go_simp <;> with_reducible rfl
              try simp only [Act.put, List.setIfInBounds_toArray, List.set_cons_zero, List.set_cons_succ]
              refine tve 1 ?_ hHeld ?zy ?_
              case zy => intro w hSw; (try dsimp only at hSw); go_simp <;> with_reducible rfl
              try simp only [Act.put, List.setIfInBounds_toArray, List.set_cons_zero, List.set_cons_succ]
              refine tve 2 ?_ hHeld ?zy ?_
              case zy => intro w hSw; (try dsimp only at hSw); go_simp <;> with_reducible rfl
              try simp only [Act.put, List.setIfInBounds_toArray, List.set_cons_zero, List.set_cons_succ]
              refine tve 3 ?_ hHeld ?zy ?_
              case zy => intro w hSw; (try dsimp only at hSw); go_simp <;> with_reducible rfl
              try simp only [Act.put, List.setIfInBounds_toArray, List.set_cons_zero, List.set_cons_succ]
              refine tve 4 ?_ hHeld ?zy ?_
              case zy => intro w hSw; (try dsimp only at hSw); go_simp <;> with_reducible rfl
              try simp only [Act.put, List.setIfInBounds_toArray, List.set_cons_zero, List.set_cons_succ]
              refine tve 5 ?_ hHeld ?zy ?_
              case zy => intro w hSw; (try dsimp only at hSw); go_simp <;> with_reducible rfl
              try simp only [Act.put, List.setIfInBounds_toArray, List.set_cons_zero, List.set_cons_succ]
              refine tve 6 ?_ hHeld ?zy ?_
              case zy => intro w hSw; (try dsimp only at hSw); go_simp <;> with_reducible rfl
              try simp only [Act.put, List.setIfInBounds_toArray, List.set_cons_zero, List.set_cons_succ]
              refine tve 7 ?_ hHeld ?zy ?_
              case zy => intro w hSw; (try dsimp only at hSw); go_simp <;> with_reducible rfl
              try simp only [Act.put, List.setIfInBounds_toArray, List.set_cons_zero, List.set_cons_succ]
              refine tve 8 ?_ hHeld ?zy ?_
              case zy => intro w hSw; (try dsimp only at hSw); go_simp <;> with_reducible rfl
              try simp only [Act.put, List.setIfInBounds_toArray, List.set_cons_zero, List.set_cons_succ]
              refine tse 9 hHeld ?_
              try simp only [Act.put, List.setIfInBounds_toArray, List.set_cons_zero, List.set_cons_succ]
              refine tse 10 hHeld ?_
              try simp only [Act.put, List.setIfInBounds_toArray, List.set_cons_zero, List.set_cons_succ]
              refine tse 11 hHeld ?_
              try simp only [Act.put, List.setIfInBounds_toArray, List.set_cons_zero, List.set_cons_succ]
              refine tse 12 hHeld ?_
              try simp only [Act.put, List.setIfInBounds_toArray, List.set_cons_zero, List.set_cons_succ]
              refine tse 13 hHeld ?_
              try simp only [Act.put, List.setIfInBounds_toArray, List.set_cons_zero, List.set_cons_succ]
              refine tse 14 hHeld ?_
              try simp only [Act.put, List.setIfInBounds_toArray, List.set_cons_zero, List.set_cons_succ]
              refine tse 15 hHeld ?_
              try simp only [Act.put, List.setIfInBounds_toArray, List.set_cons_zero, List.set_cons_succ]
              refine tse 16 hHeld ?_
              try simp only [Act.put, List.setIfInBounds_toArray, List.set_cons_zero, List.set_cons_succ]
              refine tse 17 hHeld ?_
              try simp only [Act.put, List.setIfInBounds_toArray, List.set_cons_zero, List.set_cons_succ]
              refine tse 18 hHeld ?_
              try simp only [Act.put, List.setIfInBounds_toArray, List.set_cons_zero, List.set_cons_succ]
              refine tse 19 hHeld ?_
              try simp only [Act.put, List.setIfInBounds_toArray, List.set_cons_zero, List.set_cons_succ]
              refine tse 20 hHeld ?_
              try simp only [Act.put, List.setIfInBounds_toArray, List.set_cons_zero, List.set_cons_succ]
              refine tve 21 ?_ hHeld ?zy ?_
              case zy => intro w hSw; (try dsimp only at hSw); go_simp <;> with_reducible rfl
              try simp only [Act.put, List.setIfInBounds_toArray, List.set_cons_zero, List.set_cons_succ]
              refine tve 22 ?_ hHeld ?zy ?_
              case zy => intro w hSw; (try dsimp only at hSw); go_simp <;> with_reducible rfl
              try simp only [Act.put, List.setIfInBounds_toArray, List.set_cons_zero, List.set_cons_succ]
              refine tve 23 ?_ hHeld ?zy ?_
              case zy => intro w hSw; (try dsimp only at hSw); go_simp <;> with_reducible rfl
              try simp only [Act.put, List.setIfInBounds_toArray, List.set_cons_zero, List.set_cons_succ]
              refine wpAnyH_done (by kernel_rfl) ?_ _
              refine NoPanic.normal ?_
              clear hHeld
              go_wp2
              go_roundg (g2 - 1)
              case measure => omega
              case rel => exact ⟨j + 1, by go_num, by omega, by rw [HXF.out, ← Bool.or_assoc, ← HBB.out, HTF.out]; rfl, HBEL4.out.trans ((drewN_under wr 1).mono HBEL4.out.size)⟩
             ·have hoe : (so1.toList == []) = false := by rw [HSO.out, empty_facts]; exact decide_eq_false hone
              have o3 : ¬ so1.toList = [] := fun e => by rw [e] at hoe; cases hoe
              have o2 : so1.toList.isEmpty = false := by rw [List.isEmpty_eq_false_iff]; exact o3
              obtain ⟨r, hr⟩ : ∃ r, r = onceB (fNames x ++ [f.one]) := ⟨_, rfl⟩
              have HR := Lib.hid hr
              have HTF : Hid (twiceF (fNames x) f = !r) := Lib.hid (by unfold twiceF; rw [decide_eq_false hone, hr]; rfl)
              have HLN : Hid ((fNames x).length ≤ 10) := Lib.hid (by unfold fNames; rw [List.length_map]; have := HNF10.out; have := HNF.out; omega)
              have HD6 : Hid (∀ w', Below wr.heap.size wr w' → w'.cell? ⟨gf, of + j * 7 + 6, none⟩ = some (.string so1)) := Lib.hid (fun w' hb => cell_under hb d6)
              have HSLQ : Hid (∀ W, Below wr.heap.size wr W → Sl W Al capl (txts (fNames x))) := Lib.hid (fun W hb => HSL.out.below (HBEL4.out.trans (hb.mono HBEL4.out.size)) (Nat.le_refl _))
              have HBQ : Hid (Below wr.heap.size wr wr.drew) := Lib.hid (drewN_under wr 1)
              clear hone hr
              go_wp2
              go_region_held3 (fun w' => w'.cell? ⟨gf, of + j * 7 + 6, none⟩ = some (.string so1))
               (first | exact HD6.out _ HBQ.out | exact HD6.out _ (HBQ.out.alloc HBQ.out.size _) | exact HD6.out _ ((HBQ.out.alloc HBQ.out.size _).alloc (HBQ.out.alloc HBQ.out.size _).size _))
               (first
                | (refine step_append_txts (bs := [f.one]) (m := 1) (by rfl) _ _ (by rfl) (by rfl) (by first | exact HO1.out | exact own_below HO1.out ((Below.refl _ _).alloc (Nat.le_refl _) _)) (by rfl) (by first | exact sl_block1 (heap_alloc_new _ _) HSO.out | exact sl_block1 ((HG1.out.block (wr.heap.size + 1) (by first | (simp; done) | (simp; omega)) (by simp [Value.ownBlock])).trans (by have hh := heap_alloc_new (wr.alloc (.cells #[] 9)) (.cells #[.string so1] 9); rw [World.size_alloc] at hh; exact hh)) HSO.out | exact sl_block1 ((HG1.out.block wr.heap.size (by first | (simp; done) | (simp; omega)) (by simp [Value.ownBlock])).trans ((Below.heap_alloc _ _ _ (by simp)).trans (heap_alloc_new wr _))) HSO.out) rfl (by have := HLN.out; show _ + 1 ≤ 1000000; omega) (show Below wr.heap.size wr _ from by first | exact HBQ.out | exact (HBQ.out.alloc HBQ.out.size _) | exact ((HBQ.out.alloc HBQ.out.size _).alloc (HBQ.out.alloc HBQ.out.size _).size _)).size ?_; intro v2 u2 ho2 hg2; have HO2 := Lib.hid ho2; have hbq : Below wr.heap.size wr u2 := (show Below wr.heap.size wr _ from (by first | exact HBQ.out | exact (HBQ.out.alloc HBQ.out.size _) | exact ((HBQ.out.alloc HBQ.out.size _).alloc (HBQ.out.alloc HBQ.out.size _).size _))).grown hg2 (show Below wr.heap.size wr _ from (by first | exact HBQ.out | exact (HBQ.out.alloc HBQ.out.size _) | exact ((HBQ.out.alloc HBQ.out.size _).alloc (HBQ.out.alloc HBQ.out.size _).size _))).size (fun k hk => (HO1.out.lt k hk).1); replace HBQ := Lib.hid hbq; obtain ⟨_, A5, cap5, hv5, hs5⟩ := Sl.own ho2; rw [txts_length] at hv5; obtain ⟨n5, hn5⟩ : ∃ n5, n5 = (fNames x ++ [f.one]).length := ⟨_, rfl⟩; rw [← hn5] at hv5; subst hv5; have HON2 := Lib.hid (ronce_any u2 hs5 hn5); rw [← HR.out] at HON2; clear ho2 hg2 hbq hs5 hn5)
                | (refine step_append_txts (by rfl) _ _ (by rfl) (by rfl) (own_block0 (by first | exact heap_alloc_new _ _ | (have hh := heap_alloc_new (wr.alloc (.cells #[.string so1] 9)) (.cells #[] 9); rw [World.size_alloc] at hh; exact hh) | exact (Below.heap_alloc _ _ _ (by simp)).trans (heap_alloc_new wr _)) (by first | exact Nat.le_refl _ | omega)) (by rfl) (HSLQ.out _ (by first | exact HBQ.out | exact (HBQ.out.alloc HBQ.out.size _) | exact ((HBQ.out.alloc HBQ.out.size _).alloc (HBQ.out.alloc HBQ.out.size _).size _))) HNL.out (by have := HLN.out; show 0 + _ ≤ 1000000; omega) (show Below wr.heap.size wr _ from by first | exact HBQ.out | exact (HBQ.out.alloc HBQ.out.size _) | exact ((HBQ.out.alloc HBQ.out.size _).alloc (HBQ.out.alloc HBQ.out.size _).size _)).size ?_; intro v1 u1 ho1 hg1; rw [List.nil_append, List.length_nil, Nat.zero_add] at ho1; have HO1 := Lib.hid ho1; have HG1 := Lib.hid hg1; have hbq : Below wr.heap.size wr u1 := (show Below wr.heap.size wr _ from (by first | exact HBQ.out | exact (HBQ.out.alloc HBQ.out.size _) | exact ((HBQ.out.alloc HBQ.out.size _).alloc (HBQ.out.alloc HBQ.out.size _).size _))).grown hg1 (show Below wr.heap.size wr _ from (by first | exact HBQ.out | exact (HBQ.out.alloc HBQ.out.size _) | exact ((HBQ.out.alloc HBQ.out.size _).alloc (HBQ.out.alloc HBQ.out.size _).size _))).size (by intro k hk; simp [Value.ownBlock] at hk; omega); replace HBQ := Lib.hid hbq; clear ho1 hg1 hbq)
                | (go_at_call 49; refine (HON2.out).mono ?_; rintro e wq ⟨rfl, kq, rfl⟩; replace HBQ := Lib.hid (HBQ.out.trans ((drewN_under u2 kq).mono HBQ.out.size))))
              all_goals go_wp2
              all_goals go_roundg (g2 - 1)
              all_goals first | omega | skip
              all_goals exact ⟨j + 1, by go_num, by omega, by rw [HXF.out, ← Bool.or_assoc, ← HBB.out, HTF.out]; rfl, HBEL4.out.trans (HBQ.out.mono HBEL4.out.size)⟩
          ·have tj : decide ((j : Int) < (nf : Int)) = false := decide_eq_false (by omega)
           rw [any_whole x.fields _ j (by have := HNF.out; omega)]
           go_wp2
           go_roundg (g0 - 1)
           case measure => omega
           case rel => exact ⟨i + 1, by go_num, by omega, _, rfl, (by rw [HTK.out, List.length_append]; exact own_below HOA.out (HBEL2.out.trans (HBEL4.out.mono HBEL2.out.size))), (by rw [HX.out, HB9.out]; simp only [Bool.or_assoc]; rfl), HBA.out.trans ((HBEL2.out.trans (HBEL4.out.mono HBEL2.out.size)).mono HBA.out.size)⟩
    ·have ti : decide ((i : Int) < (n2 : Int)) = false := decide_eq_false (by omega)
     rw [any_whole s.msgs twiceM i (by have := H.out.s_nm; omega)]
     have HFM : Hid ((mNames s).take i = mNames s) := Lib.hid (List.take_of_length_le (by unfold mNames; rw [List.length_map]; have := H.out.s_nm; omega))
     have ho := HOWN.out
     rw [HFM.out] at ho
     obtain ⟨_, Al, capl, hvl, hsl⟩ := Sl.own ho
     rw [txts_length] at hvl
     obtain ⟨nl, hnl⟩ : ∃ nl, nl = (eNames s ++ mNames s).length := ⟨_, rfl⟩
     rw [← hnl] at hvl
     subst hvl
     have HON := Lib.hid (ronce_any wr hsl hnl)
     clear ho hsl hnl
     obtain ⟨b, hb⟩ : ∃ b, b = (h2 || s.msgs.any twiceM) := ⟨_, rfl⟩
     have HBB := Lib.hid hb
     rw [← hb]
     clear hb
     cases b with
     | true =>
       go_wp2
       go_ret
       exact ⟨ret_bool' (by rw [HV.out, ← HBB.out]; rfl), HBX.out.b_bel⟩
     | false =>
       go_wp2_with (first
        | (go_at_call 49; refine (HON.out).mono ?_; rintro e wq ⟨rfl, kq, rfl⟩))
       go_ret
       exact ⟨ret_bool' (by rw [HV.out, ← HBB.out]; rfl), (bx_drew HBX.out _).b_bel⟩
end Go.Proofs.YtloheacncefkgaaGreatDoor

/- The document's layer 15: what rises, what lies within bounds. Conditions: those that each theorem names. -/
namespace Go.Proofs.YtloheacncefkgaaGreatDoor
open Go.RowKit
set_option linter.unusedVariables false
set_option maxRecDepth 100000

set_option maxHeartbeats 8000000 in
theorem rvnums_any {S : Nat → Prop} (w : World) {A1 A3 : Option Addr} {nf cap1 nb cap3 : Nat} {x : Ms} (sn : ByteArray) (hl : Lst 7 S fdR w A1 cap1 x.fields) (hn : nf = x.fields.length) (h10 : nf ≤ 1000) :
 Calls Tryz.prog 52 #[.agg #[.string sn, .slice A1 nf cap1, .slice A3 nb cap3]] w fun e w' => ∃ A cap, e = .returned (.slice A nf cap) ∧ Lst 1 (fun g => w.heap.size ≤ g) inR w' A cap (fNums x) ∧ Below w.heap.size w w' := by
 have q1 := hl.l_le
 have q2 := hl.l_max
 rw [← hn] at q1
 unfold maxLen at q2
 have HL := Lib.hid hl
 have HNF := Lib.hid hn
 have H10 := Lib.hid h10
 obtain ⟨w0, hw0⟩ : ∃ w0, w0 = w.alloc (.cells #[.string sn, .slice A1 nf cap1, .slice A3 nb cap3] 57) := ⟨_, rfl⟩
 have HW0 := Lib.hid hw0
 have HB0 : Hid (Bx w w0 (.cells #[.string sn, .slice A1 nf cap1, .slice A3 nb cap3] 57 (0, 0))) := Lib.hid (by rw [hw0]; exact bx_start w _ _)
 have HOW0 := Lib.hid (own0_int w0)
 have HBL0 : Hid (Below w0.heap.size w0 (w0.alloc (.cells #[] 3))) := Lib.hid ((Below.refl _ w0).alloc (Nat.le_refl _) _)
 clear hl hn hw0 h10
 go_enter Tryz.func52, Tryz.ntmps52
 go_wp2
 go_loopg [3, 4] nf (fun gz x0 x1 wr => ∃ k : Nat, x1 = .int .i64 (k : Int) ∧ k + gz = nf ∧ ∃ vl, x0 = vl ∧ wr.ownsRow w0.heap.size 3 1 vl ((fNums x).take k).length (zs ((fNums x).take k)) ∧ Below w0.heap.size w0 wr)
 case atStart => exact ⟨0, rfl, by omega, (by have e := HW0.out; subst e; have h1 := HOW0.out; simp only [World.size_alloc] at h1 ⊢; have h2 := HBL0.out; simp only [World.size_alloc] at h2; exact ⟨_, rfl, h1, h2⟩)⟩
 case round =>
  obtain ⟨k, rfl, hk, vl, rfl, hown, hbel⟩ := hrel
  have HOWL := Lib.hid hown
  have HBEL := Lib.hid hbel
  have HBX := Lib.hid (bx_step HB0.out hbel)
  clear hown hbel
  have r0 := obj_cell (HBX.out).b_blk 0
  have r1 := obj_cell (HBX.out).b_blk 1
  obtain ⟨g1, hg1⟩ : ∃ g1, g1 = gk := ⟨_, rfl⟩
  subst hg1
  by_cases hltk : k < nf
  ·have tk : decide ((k : Int) < (nf : Int)) = true := decide_eq_true (by omega)
   obtain ⟨f, hf⟩ : ∃ f, x.fields[k]? = some f := ⟨_, List.getElem?_eq_getElem (by have := HNF.out; omega)⟩
   have HFI := Lib.hid hf
   obtain ⟨gf, of, rfl, _, hcf⟩ := fd_at HL.out hf
   have HCF := Lib.hid hcf
   clear hf hcf
   obtain ⟨d0, d1, d2, d3, d4, d5, d6⟩ := HCF.out _ (HBX.out.b_bel)
   have HLN : Hid (((fNums x).take k).length ≤ 1000) := Lib.hid (by have := H10.out; rw [List.length_take]; omega)
   have HTV : Hid ((fNums x).take (k + 1) = (fNums x).take k ++ [f.num]) := Lib.hid (split_take (by unfold fNums; rw [List.getElem?_map, HFI.out]; rfl))
   clear d0 d2 d3 d4 d5 d6
   go_wp2_with (first
    | (at_builtin; refine wpList_append_zs rfl _ _ rfl w0.heap.size _ _ _ rfl (own_below HOWL.out ((Below.refl _ _).alloc (Nat.le_refl _) _)) _ 1 1 [f.num] rfl rfl (sl_int1 _ _ _) (by have := HLN.out; show _ + 1 ≤ 1000000; omega) (by have := HBEL.out.size; simp; omega) ?_; intro vl2 w3 ho hg; have HOL := Lib.hid ho; have HBL := Lib.hid ((HBEL.out.alloc HBEL.out.size _).grown hg (by have := HBEL.out.size; simp; omega) (fun k hk => (HOWL.out.lt k hk).1)); clear ho hg))
   go_roundg (g1 - 1)
   case measure => omega
   case rel => exact ⟨k + 1, by go_num, by omega, _, rfl, (by rw [HTV.out, List.length_append]; exact HOL.out), HBL.out⟩
  ·have tk : decide ((k : Int) < (nf : Int)) = false := decide_eq_false (by omega)
   have HF : Hid ((fNums x).take k = fNums x) := Lib.hid (List.take_of_length_le (by unfold fNums; rw [List.length_map]; have := HNF.out; omega))
   have ho := HOWL.out
   rw [HF.out] at ho
   obtain ⟨_, Al, capl, hvl, hsl⟩ := zs_own ho
   rw [show (fNums x).length = nf by unfold fNums; rw [List.length_map, HNF.out]] at hvl
   subst hvl
   have HSL := Lib.hid hsl
   clear ho hsl
   go_wp2
   go_ret
   exact ⟨Al, capl, rfl, lst_keep HSL.out inR_keep (fun g hg => Nat.le_trans HB0.out.b_bel.size hg.1) (fun _ _ _ => rfl), HBX.out.b_bel⟩

set_option maxHeartbeats 16000000 in
theorem rvorder_any {S : Nat → Nat → Prop} (w : World) {A A2 : Option Addr} {n cap n2 cap2 : Nat} {s : Sc} (h : ScAt S w A n cap A2 n2 cap2 s) (hfew : Few s) (hnone : noneT s = false) :
 Calls Tryz.prog 23 #[.agg #[.slice A n cap, .slice A2 n2 cap2]] w fun e w' => e = .returned (.bool (orderT s)) ∧ Below w.heap.size w w' := by
 obtain ⟨m1, m2, m3, m4⟩ := scAt_max h
 have H := Lib.hid h
 have HBX := Lib.hid (bx_start w #[.slice A n cap, .slice A2 n2 cap2] 25)
 have HFEW := Lib.hid hfew
 have HNZ : Hid (∀ e ∈ s.enums, 0 < e.values.length) := Lib.hid (fun e he => by
  unfold noneT at hnone
  simp only [Bool.or_eq_false_iff, List.any_eq_false] at hnone
  have := hnone.2 e he
  unfold noneE at this
  rw [decide_eq_true_iff] at this
  omega)
 have HV : Hid (orderT s = (((s.enums.any orderE || !riseB (eNames s)) || s.msgs.any orderM) || !riseB ((mNames s).drop 1))) := Lib.hid rfl
 obtain ⟨w0, hw0⟩ : ∃ w0, w0 = w.alloc (.cells #[.slice A n cap, .slice A2 n2 cap2] 25) := ⟨_, rfl⟩
 have HW0 := Lib.hid hw0
 rw [← hw0] at HBX
 have HB0 := Lib.hid HBX.out
 have HOW0 := Lib.hid (own0_str w0)
 have HBL0 : Hid (Below w0.heap.size w0 (w0.alloc (.cells #[] 9))) := Lib.hid ((Below.refl _ w0).alloc (Nat.le_refl _) _)
 have HN3 : Hid (n ≤ 3 ∧ n2 ≤ 6) := Lib.hid (by have := hfew.few_e; have := hfew.few_m; have := h.s_ne; have := h.s_nm; omega)
 clear h hfew hw0 HBX hnone
 go_enter Tryz.func23, Tryz.ntmps23
 go_wp2
 go_loopg [3, 4, 5] n (fun gz x0 x1 x2 wr => ∃ i : Nat, x2 = .int .i64 (i : Int) ∧ i + gz = n ∧ ∃ va, x1 = va ∧ wr.ownsRow w0.heap.size 9 1 va ((eNames s).take i).length (txts ((eNames s).take i)) ∧ x0 = .bool ((s.enums.take i).any orderE) ∧ Below w0.heap.size w0 wr)
 case atStart => exact ⟨0, rfl, by omega, (by have e := HW0.out; subst e; have h1 := HOW0.out; simp only [World.size_alloc] at h1 ⊢; have h2 := HBL0.out; simp only [World.size_alloc] at h2; exact ⟨_, rfl, h1, rfl, h2⟩)⟩
 case round =>
  obtain ⟨i, rfl, hi, va, rfl, hown, rfl, hbel⟩ := hrel
  have HOWN := Lib.hid hown
  have HBEL := Lib.hid hbel
  have HBX := Lib.hid (bx_step HB0.out hbel)
  clear hown hbel
  have r0 := obj_cell (HBX.out).b_blk 0
  have r1 := obj_cell (HBX.out).b_blk 1
  obtain ⟨g0, hg0⟩ : ∃ g0, g0 = gk := ⟨_, rfl⟩
  subst hg0
  by_cases hlti : i < n
  ·have ti : decide ((i : Int) < (n : Int)) = true := decide_eq_true (by omega)
   obtain ⟨x, hx⟩ : ∃ x, s.enums[i]? = some x := ⟨_, List.getElem?_eq_getElem (by have := H.out.s_ne; omega)⟩
   have HXI := Lib.hid hx
   obtain ⟨ge, oe, A1, cap1, rfl, _, hc, hl⟩ := en_at H.out.s_e hx
   have q1 := hl.l_le
   have q2 := hl.l_max
   unfold maxLen at q2
   have HL := Lib.hid hl
   obtain ⟨nv, hnv⟩ : ∃ nv, nv = x.values.length := ⟨_, rfl⟩
   have HNV := Lib.hid hnv
   rw [← hnv] at hc q1
   obtain ⟨sn, hsn⟩ : ∃ sn, sn = strOf x.name := ⟨_, rfl⟩
   have HSN := Lib.hid hsn
   rw [← hsn] at hc
   have HC := Lib.hid hc
   clear hx hl hnv hsn hc
   obtain ⟨c0, c1⟩ := HC.out _ HBX.out.b_bel
   have HLN : Hid (((eNames s).take i).length ≤ 3) := Lib.hid (by have := HN3.out; rw [List.length_take]; omega)
   have HTK : Hid ((eNames s).take (i + 1) = (eNames s).take i ++ [x.name]) := Lib.hid (split_take (by unfold eNames; rw [List.getElem?_map, HXI.out]; rfl))
   have HX := Lib.hid (any_snoc s.enums orderE i x HXI.out)
   have HNV8 : Hid (nv ≤ 8) := Lib.hid (by have := HFEW.out.few_v x (List.mem_of_getElem? HXI.out); have := HNV.out; omega)
   have HNV0 : Hid (0 < nv) := Lib.hid (by have := HNZ.out x (List.mem_of_getElem? HXI.out); have := HNV.out; omega)
   go_wp2_with (first
    | (at_builtin; refine wpList_append_sl rfl _ _ rfl w0.heap.size _ _ _ rfl (own_below HOWN.out ((Below.refl _ _).alloc (Nat.le_refl _) _)) _ 1 1 [x.name] rfl rfl (sl_txt1 _ _ _ _ HSN.out) (by have := HLN.out; show _ + 1 ≤ 1000000; omega) (by have := HBEL.out.size; simp; omega) ?_; intro va2 w2 ho hg; have HOA := Lib.hid ho; have HBA := Lib.hid ((HBEL.out.alloc HBEL.out.size _).grown hg (by have := HBEL.out.size; simp; omega) (fun k hk => (HOWN.out.lt k hk).1)); clear ho hg))
   have HBXA := Lib.hid (bx_step HB0.out HBA.out)
   have HOW2 := Lib.hid (own0_int w2)
   clear c0 c1 r0 r1
   go_loopg [6, 7] nv (fun gz x0 x1 wr => ∃ k : Nat, x1 = .int .i64 (k : Int) ∧ k + gz = nv ∧ ∃ vl, x0 = vl ∧ wr.ownsRow w2.heap.size 3 1 vl ((vNums x).take k).length (zs ((vNums x).take k)) ∧ Below w2.heap.size w2 wr)
   case atStart => exact ⟨0, rfl, by omega, _, rfl, HOW2.out, (Below.refl _ w2).alloc (Nat.le_refl _) _⟩
   case round =>
    obtain ⟨k, rfl, hk, vl, rfl, hown, hbel⟩ := hrel
    have HOWL := Lib.hid hown
    have HBEL2 := Lib.hid hbel
    have HBX := Lib.hid (bx_step HBXA.out hbel)
    clear hown hbel
    have r0 := obj_cell (HBX.out).b_blk 0
    have r1 := obj_cell (HBX.out).b_blk 1
    obtain ⟨g1, hg1⟩ : ∃ g1, g1 = gk := ⟨_, rfl⟩
    subst hg1
    by_cases hltk : k < nv
    ·have tk : decide ((k : Int) < (nv : Int)) = true := decide_eq_true (by omega)
     obtain ⟨v, hv⟩ : ∃ v, x.values[k]? = some v := ⟨_, List.getElem?_eq_getElem (by have := HNV.out; omega)⟩
     have HVI := Lib.hid hv
     obtain ⟨gv, ov, rfl, _, hcv⟩ := vl_at HL.out hv
     obtain ⟨c0, c1⟩ := HC.out _ HBX.out.b_bel
     obtain ⟨d0, d1⟩ := hcv _ HBX.out.b_bel
     have HLN : Hid (((vNums x).take k).length ≤ 8) := Lib.hid (by have := HNV8.out; rw [List.length_take]; omega)
     have HTV : Hid ((vNums x).take (k + 1) = (vNums x).take k ++ [v.num]) := Lib.hid (split_take (by unfold vNums; rw [List.getElem?_map, HVI.out]; rfl))
     clear hv hcv d0
     go_wp2_with (first
      | (at_builtin; refine wpList_append_zs rfl _ _ rfl w2.heap.size _ _ _ rfl (own_below HOWL.out ((Below.refl _ _).alloc (Nat.le_refl _) _)) _ 1 1 [v.num] rfl rfl (sl_int1 _ _ _) (by have := HLN.out; show _ + 1 ≤ 1000000; omega) (by have := HBEL2.out.size; simp; omega) ?_; intro vl2 w3 ho hg; have HOL := Lib.hid ho; have HBL := Lib.hid ((HBEL2.out.alloc HBEL2.out.size _).grown hg (by have := HBEL2.out.size; simp; omega) (fun k hk => (HOWL.out.lt k hk).1)); clear ho hg))
     go_roundg (g1 - 1)
     case measure => omega
     case rel => exact ⟨k + 1, by go_num, by omega, _, rfl, (by rw [HTV.out, List.length_append]; exact HOL.out), HBL.out⟩
    ·have tk : decide ((k : Int) < (nv : Int)) = false := decide_eq_false (by omega)
     obtain ⟨c0, c1⟩ := HC.out _ HBX.out.b_bel
     have HF : Hid ((vNums x).take k = vNums x) := Lib.hid (List.take_of_length_le (by unfold vNums; rw [List.length_map]; have := HNV.out; omega))
     have hlen : (vNums x).length = nv := by unfold vNums; rw [List.length_map, HNV.out]
     have ho := HOWL.out
     rw [HF.out] at ho
     obtain ⟨_, Al, capl, hvl, hsl⟩ := zs_own ho
     have p1 := hsl.l_le
     have p2 := hsl.l_max
     unfold maxLen at p2
     rw [hlen] at hvl p1
     obtain ⟨a0, ha0⟩ : ∃ a, (vNums x)[0]? = some a := ⟨_, List.getElem?_eq_getElem (by have := HNV0.out; omega)⟩
     obtain ⟨k1, hk1⟩ : ∃ k1, k1 + 1 = nv := ⟨nv - 1, by have := HNV0.out; omega⟩
     obtain ⟨al, hal⟩ : ∃ a, (vNums x)[k1]? = some a := ⟨_, List.getElem?_eq_getElem (by omega)⟩
     obtain ⟨gl, ol, rfl, _, q0⟩ := in_at hsl ha0
     obtain ⟨g', o', e', _, q9⟩ := in_at hsl hal
     cases e'
     subst hvl
     rw [Nat.add_zero] at q0
     have HQ0 := Lib.hid q0
     have HQ9 := Lib.hid q9
     have hhd := headD_at ha0
     have hld := lastD_at hal (by omega)
     obtain ⟨r, hr⟩ : ∃ r, r = risesB (vNums x) := ⟨_, rfl⟩
     have HON := Lib.hid (rvrises_any wr hsl hlen.symm)
     have HD : Hid (orderE x = ((!r || !decide (a0 = 0)) || decide (1048576 < al))) := Lib.hid (by unfold orderE; rw [hhd, hld, hr])
     rw [← hr] at HON
     have u1 : 1 ≤ nv := HNV0.out
     have gw : IntKind.i64.wrap ((nv : Int) - 1) = (k1 : Int) := by rw [show (nv : Int) - 1 = (k1 : Int) by omega]; exact IntWalk.i64_in _ (by omega)
     have gx : (nv : Int) - 1 = (k1 : Int) := by omega
     have gw2 : IntKind.i64.wrap (k1 : Int) = (k1 : Int) := IntWalk.i64_in _ (by omega)
     have hkk : k1 < nv := by omega
     clear ho hsl hlen ha0 hal q0 q9 hhd hld hr hk1
     obtain ⟨b, hb⟩ : ∃ b, b = ((s.enums.take i).any orderE) := ⟨_, rfl⟩
     have HBB := Lib.hid hb
     rw [← hb]
     clear hb
     cases b with
     | true =>
       go_wp2
       go_roundg (g0 - 1)
       case measure => omega
       case rel => exact ⟨i + 1, by go_num, by omega, _, rfl, (by rw [HTK.out, List.length_append]; exact own_below HOA.out HBEL2.out), (by rw [HX.out, ← HBB.out]; rfl), HBA.out.trans (HBEL2.out.mono HBA.out.size)⟩
     | false =>
       cases r with
       | false =>
         go_wp2_with (first
          | (go_at_call 50; refine (HON.out).mono ?_; rintro e wq ⟨rfl, kq, rfl⟩; have q0 := HQ0.out _ (drewN_under wr kq); have q9 := HQ9.out _ (drewN_under wr kq)))
         go_roundg (g0 - 1)
         case measure => omega
         case rel => exact ⟨i + 1, by go_num, by omega, _, rfl, (by rw [HTK.out, List.length_append]; exact own_below HOA.out (HBEL2.out.trans ((drewN_under wr kq).mono HBEL2.out.size))), (by rw [HX.out, ← HBB.out, HD.out]; simp), HBA.out.trans ((HBEL2.out.trans ((drewN_under wr kq).mono HBEL2.out.size)).mono HBA.out.size)⟩
       | true =>
         by_cases ha : a0 = 0
         ·subst ha
          go_wp2_with (first
           | (go_at_call 50; refine (HON.out).mono ?_; rintro e wq ⟨rfl, kq, rfl⟩; have q0 := HQ0.out _ (drewN_under wr kq); have q9 := HQ9.out _ (drewN_under wr kq)))
          go_roundg (g0 - 1)
          case measure => omega
          case rel => exact ⟨i + 1, by go_num, by omega, _, rfl, (by rw [HTK.out, List.length_append]; exact own_below HOA.out (HBEL2.out.trans ((drewN_under wr kq).mono HBEL2.out.size))), (by rw [HX.out, ← HBB.out, HD.out]; simp), HBA.out.trans ((HBEL2.out.trans ((drewN_under wr kq).mono HBEL2.out.size)).mono HBA.out.size)⟩
         ·have ea : (a0 == 0) = false := beq_false_of_ne ha
          have eb : (a0 != 0) = true := by simp [ha]
          go_wp2_with (first
           | (go_at_call 50; refine (HON.out).mono ?_; rintro e wq ⟨rfl, kq, rfl⟩; have q0 := HQ0.out _ (drewN_under wr kq); have q9 := HQ9.out _ (drewN_under wr kq)))
          go_roundg (g0 - 1)
          case measure => omega
          case rel => exact ⟨i + 1, by go_num, by omega, _, rfl, (by rw [HTK.out, List.length_append]; exact own_below HOA.out (HBEL2.out.trans ((drewN_under wr kq).mono HBEL2.out.size))), (by rw [HX.out, ← HBB.out, HD.out, decide_eq_false ha]; simp), HBA.out.trans ((HBEL2.out.trans ((drewN_under wr kq).mono HBEL2.out.size)).mono HBA.out.size)⟩
  ·have ti : decide ((i : Int) < (n : Int)) = false := decide_eq_false (by omega)
   rw [any_whole s.enums orderE i (by have := H.out.s_ne; omega)]
   have HFE : Hid ((eNames s).take i = eNames s) := Lib.hid (List.take_of_length_le (by unfold eNames; rw [List.length_map]; have := H.out.s_ne; omega))
   have ho := HOWN.out
   rw [HFE.out] at ho
   obtain ⟨_, Al, capl, hvl, hsl⟩ := Sl.own ho
   rw [txts_length] at hvl
   obtain ⟨nl, hnl⟩ : ∃ nl, nl = (eNames s).length := ⟨_, rfl⟩
   rw [← hnl] at hvl
   subst hvl
   have HON := Lib.hid (rrise_any wr hsl hnl)
   clear ho hsl hnl
   obtain ⟨h2, hh2⟩ : ∃ h2, h2 = (s.enums.any orderE || !riseB (eNames s)) := ⟨_, rfl⟩
   rw [← hh2] at HV
   have HH2 := Lib.hid hh2
   clear hh2
   obtain ⟨b, hb⟩ : ∃ b, b = (s.enums.any orderE) := ⟨_, rfl⟩
   have HBB := Lib.hid hb
   rw [← hb]
   clear hb
   cases b with
   | true =>
     obtain ⟨w5, hw5⟩ : ∃ w5, w5 = wr := ⟨_, rfl⟩
     subst hw5
     have HB5 := HBX
     go_wp2
     have HOW5 := Lib.hid (own0_str w5)
     go_loopg [3, 4, 8] n2 (fun gz x0 x1 x2 wr => ∃ i : Nat, x2 = .int .i64 (i : Int) ∧ i + gz = n2 ∧ ∃ va, x1 = va ∧ wr.ownsRow w5.heap.size 9 1 va (((mNames s).take i).drop 1).length (txts (((mNames s).take i).drop 1)) ∧ x0 = .bool (h2 || (s.msgs.take i).any orderM) ∧ Below w5.heap.size w5 wr)
     case atStart => exact ⟨0, rfl, by omega, _, rfl, (by rw [List.take_zero]; exact HOW5.out), (by rw [HH2.out, ← HBB.out]; simp), (Below.refl _ w5).alloc (Nat.le_refl _) _⟩
     case round =>
      obtain ⟨i, rfl, hi, va, rfl, hown, rfl, hbel⟩ := hrel
      have HOWN := Lib.hid hown
      have HBEL := Lib.hid hbel
      have HBX := Lib.hid (bx_step HB5.out hbel)
      clear hown hbel
      have r0 := obj_cell (HBX.out).b_blk 0
      have r1 := obj_cell (HBX.out).b_blk 1
      obtain ⟨g0, hg0⟩ : ∃ g0, g0 = gk := ⟨_, rfl⟩
      subst hg0
      by_cases hlti : i < n2
      ·have ti : decide ((i : Int) < (n2 : Int)) = true := decide_eq_true (by omega)
       obtain ⟨x, hx⟩ : ∃ x, s.msgs[i]? = some x := ⟨_, List.getElem?_eq_getElem (by have := H.out.s_nm; omega)⟩
       have HXI := Lib.hid hx
       obtain ⟨ge, oe, A1, cap1, A3, cap3, rfl, _, hc, hl, hl2⟩ := ms_at H.out.s_m hx
       have q1 := hl.l_le
       have q2 := hl.l_max
       have q3 := hl2.l_le
       have q4 := hl2.l_max
       unfold maxLen at q2 q4
       have HL := Lib.hid hl
       have HL2 := Lib.hid hl2
       obtain ⟨nf, hnf⟩ : ∃ nf, nf = x.fields.length := ⟨_, rfl⟩
       obtain ⟨nb, hnb⟩ : ∃ nb, nb = x.barred.length := ⟨_, rfl⟩
       have HNF := Lib.hid hnf
       have HNB := Lib.hid hnb
       rw [← hnf] at hc q1
       rw [← hnb] at hc q3
       obtain ⟨sn, hsn⟩ : ∃ sn, sn = strOf x.name := ⟨_, rfl⟩
       have HSN := Lib.hid hsn
       rw [← hsn] at hc
       have HC := Lib.hid hc
       clear hx hl hl2 hnf hnb hsn hc
       obtain ⟨c0, c1, c2⟩ := HC.out _ HBX.out.b_bel
       have HX := Lib.hid (any_snoc s.msgs orderM i x HXI.out)
       have HNF10 : Hid (nf ≤ 10 ∧ nb ≤ 8) := Lib.hid (by have := HFEW.out.few_f x (List.mem_of_getElem? HXI.out); have := HNF.out; have := HNB.out; omega)
       have HMX : Hid ((mNames s)[i]? = some x.name) := Lib.hid (by unfold mNames; rw [List.getElem?_map, HXI.out]; rfl)
       have HNU := Lib.hid (fun u (hb : Below w.heap.size w u) => rvnums_any (x := x) (nb := nb) (cap3 := cap3) (A3 := A3) u sn (lst_keep HL.out fdR_keep (fun _ h => h) (bel_keep hb)) HNF.out (by have := HNF10.out; omega))
       have HLB : Hid (∀ u, Below w.heap.size w u → Lst 1 (S 2) inR u A3 cap3 x.barred) := Lib.hid (fun u hb => lst_keep HL2.out inR_keep (fun _ h => h) (bel_keep hb))
       have hfl : (fNums x).length = nf := by unfold fNums; rw [List.length_map, HNF.out]
       have HFL := Lib.hid hfl
       clear hfl
       obtain ⟨r, hr⟩ : ∃ r, r = risesB (fNums x) := ⟨_, rfl⟩
       obtain ⟨q, hq⟩ : ∃ q, q = risesB x.barred := ⟨_, rfl⟩
       have HR := Lib.hid hr
       have HQ := Lib.hid hq
       clear hr hq
       by_cases hi0 : i = 0
       ·skip
        have dz : decide ((i : Int) > 0) = false := decide_eq_false (by omega)
        have dz2 : decide (0 < i) = false := decide_eq_false (by omega)
        have dz3 : ¬ 0 < i := by omega
        obtain ⟨w2, hw2⟩ : ∃ w2, w2 = wr := ⟨_, rfl⟩
        subst hw2
        have HTK : Hid (((mNames s).take (i + 1)).drop 1 = ((mNames s).take i).drop 1) := Lib.hid (by rw [hi0, drop1_zero]; rfl)
        have HOA := HOWN
        have HBA := HBEL
        clear hi0
        obtain ⟨b, hb⟩ : ∃ b, b = (h2 || (s.msgs.take i).any orderM) := ⟨_, rfl⟩
        have HBB := Lib.hid hb
        rw [← hb]
        clear hb
        cases b with
        | true =>
          go_wp2
          go_roundg (g0 - 1)
          case measure => omega
          case rel => exact ⟨i + 1, by go_num, by omega, _, rfl, (by rw [HTK.out]; exact HOA.out), (by rw [HX.out, ← Bool.or_assoc, ← HBB.out]; rfl), HBA.out⟩
        | false =>
          have HD : Hid (orderM x = ((!r || !q) || (decide (0 < nb) && (decide (x.barred.headD 0 < 1) || decide (536870911 < lastD x.barred))))) := Lib.hid (by unfold orderM; rw [HR.out, HQ.out, HNB.out])
          cases r with
          | false =>
            go_wp2_with (first
             | (go_at_call 52; refine (HNU.out _ (bx_step HB5.out HBA.out).b_bel).mono ?_; rintro e w6 ⟨A5, cap5, rfl, hl5, hb5⟩; have HR1 := Lib.hid (rvrises_any w6 hl5 HFL.out.symm); rw [← HR.out] at HR1; have H26 := Lib.hid hb5; have H60 := Lib.hid hb5; clear hl5 hb5)
             | (go_at_call 50; (with_reducible refine (HR1.out).mono ?_); rintro e wq ⟨rfl, kq, rfl⟩; replace H26 := Lib.hid (H26.out.trans ((drewN_under w6 kq).mono H26.out.size)); have HR2 := Lib.hid (rvrises_any (w6.drewN kq) (HLB.out _ ((bx_step HB5.out HBA.out).b_bel.trans (H26.out.mono (bx_step HB5.out HBA.out).b_bel.size))) HNB.out); rw [← HQ.out] at HR2))
            go_roundg (g0 - 1)
            case measure => omega
            case rel => exact ⟨i + 1, by go_num, by omega, _, rfl, (by rw [HTK.out]; exact (own_below HOA.out H26.out)), (by rw [HX.out, ← Bool.or_assoc, ← HBB.out, HD.out]; simp), (HBA.out.trans (H26.out.mono HBA.out.size))⟩
          | true =>
            cases q with
            | false =>
              go_wp2_with (first
               | (go_at_call 52; refine (HNU.out _ (bx_step HB5.out HBA.out).b_bel).mono ?_; rintro e w6 ⟨A5, cap5, rfl, hl5, hb5⟩; have HR1 := Lib.hid (rvrises_any w6 hl5 HFL.out.symm); rw [← HR.out] at HR1; have H26 := Lib.hid hb5; have H60 := Lib.hid hb5; clear hl5 hb5)
               | (go_at_call 50; (with_reducible refine (HR1.out).mono ?_); rintro e wq ⟨rfl, kq, rfl⟩; replace H26 := Lib.hid (H26.out.trans ((drewN_under w6 kq).mono H26.out.size)); have HR2 := Lib.hid (rvrises_any (w6.drewN kq) (HLB.out _ ((bx_step HB5.out HBA.out).b_bel.trans (H26.out.mono (bx_step HB5.out HBA.out).b_bel.size))) HNB.out); rw [← HQ.out] at HR2)
               | (go_at_call 50; (with_reducible refine (HR2.out).mono ?_); rintro e wq2 ⟨rfl, kq2, rfl⟩; replace H26 := Lib.hid (H60.out.trans ((drewN_under w6 (kq + kq2)).mono H60.out.size))))
              go_roundg (g0 - 1)
              case measure => omega
              case rel => exact ⟨i + 1, by go_num, by omega, _, rfl, (by rw [HTK.out]; exact (own_below HOA.out H26.out)), (by rw [HX.out, ← Bool.or_assoc, ← HBB.out, HD.out]; simp), (HBA.out.trans (H26.out.mono HBA.out.size))⟩
            | true =>
              by_cases hnb : nb = 0
              ·subst hnb
               go_wp2_with (first
                | (go_at_call 52; refine (HNU.out _ (bx_step HB5.out HBA.out).b_bel).mono ?_; rintro e w6 ⟨A5, cap5, rfl, hl5, hb5⟩; have HR1 := Lib.hid (rvrises_any w6 hl5 HFL.out.symm); rw [← HR.out] at HR1; have H26 := Lib.hid hb5; have H60 := Lib.hid hb5; clear hl5 hb5)
                | (go_at_call 50; (with_reducible refine (HR1.out).mono ?_); rintro e wq ⟨rfl, kq, rfl⟩; replace H26 := Lib.hid (H26.out.trans ((drewN_under w6 kq).mono H26.out.size)); have HR2 := Lib.hid (rvrises_any (w6.drewN kq) (HLB.out _ ((bx_step HB5.out HBA.out).b_bel.trans (H26.out.mono (bx_step HB5.out HBA.out).b_bel.size))) HNB.out); rw [← HQ.out] at HR2)
                | (go_at_call 50; (with_reducible refine (HR2.out).mono ?_); rintro e wq2 ⟨rfl, kq2, rfl⟩; replace H26 := Lib.hid (H60.out.trans ((drewN_under w6 (kq + kq2)).mono H60.out.size))))
               go_roundg (g0 - 1)
               case measure => omega
               case rel => exact ⟨i + 1, by go_num, by omega, _, rfl, (by rw [HTK.out]; exact (own_below HOA.out H26.out)), (by rw [HX.out, ← Bool.or_assoc, ← HBB.out, HD.out]; simp), (HBA.out.trans (H26.out.mono HBA.out.size))⟩
              ·have db : decide ((nb : Int) > 0) = true := decide_eq_true (by omega)
               obtain ⟨a0, ha0⟩ : ∃ a, x.barred[0]? = some a := ⟨_, List.getElem?_eq_getElem (by have := HNB.out; omega)⟩
               obtain ⟨k1, hk1⟩ : ∃ k1, k1 + 1 = nb := ⟨nb - 1, by omega⟩
               obtain ⟨al, hal⟩ : ∃ a, x.barred[k1]? = some a := ⟨_, List.getElem?_eq_getElem (by have := HNB.out; omega)⟩
               obtain ⟨gl, ol, rfl, _, p0⟩ := in_at HL2.out ha0
               obtain ⟨g', o', e', _, p9⟩ := in_at HL2.out hal
               cases e'
               rw [Nat.add_zero] at p0
               have HP0 := Lib.hid p0
               have HP9 := Lib.hid p9
               rw [headD_at ha0, lastD_at hal (by have := HNB.out; omega), decide_eq_true (by omega : 0 < nb)] at HD
               have u1 : 1 ≤ nb := by omega
               have u8 : nb ≤ 8 := HNF10.out.2
               have gw : IntKind.i64.wrap ((nb : Int) - 1) = (k1 : Int) := by rw [show (nb : Int) - 1 = (k1 : Int) by omega]; exact IntWalk.i64_in _ (by omega)
               have gx : (nb : Int) - 1 = (k1 : Int) := by omega
               have gw2 : IntKind.i64.wrap (k1 : Int) = (k1 : Int) := IntWalk.i64_in _ (by omega)
               have hkk : k1 < nb := by omega
               clear ha0 hal p0 p9 hk1 hnb
               by_cases hlo : a0 < 1
               ·have dl : decide (a0 < 1) = true := decide_eq_true hlo
                go_wp2_with (first
                 | (go_at_call 52; refine (HNU.out _ (bx_step HB5.out HBA.out).b_bel).mono ?_; rintro e w6 ⟨A5, cap5, rfl, hl5, hb5⟩; have HR1 := Lib.hid (rvrises_any w6 hl5 HFL.out.symm); rw [← HR.out] at HR1; have H26 := Lib.hid hb5; have H60 := Lib.hid hb5; clear hl5 hb5)
                 | (go_at_call 50; (with_reducible refine (HR1.out).mono ?_); rintro e wq ⟨rfl, kq, rfl⟩; replace H26 := Lib.hid (H26.out.trans ((drewN_under w6 kq).mono H26.out.size)); have HR2 := Lib.hid (rvrises_any (w6.drewN kq) (HLB.out _ ((bx_step HB5.out HBA.out).b_bel.trans (H26.out.mono (bx_step HB5.out HBA.out).b_bel.size))) HNB.out); rw [← HQ.out] at HR2)
                 | (go_at_call 50; (with_reducible refine (HR2.out).mono ?_); rintro e wq2 ⟨rfl, kq2, rfl⟩; replace H26 := Lib.hid (H60.out.trans ((drewN_under w6 (kq + kq2)).mono H60.out.size)); have p0 := HP0.out _ ((bx_step HB5.out HBA.out).b_bel.trans (H26.out.mono (bx_step HB5.out HBA.out).b_bel.size)); have p9 := HP9.out _ ((bx_step HB5.out HBA.out).b_bel.trans (H26.out.mono (bx_step HB5.out HBA.out).b_bel.size))))
                go_roundg (g0 - 1)
                case measure => omega
                case rel => exact ⟨i + 1, by go_num, by omega, _, rfl, (by rw [HTK.out]; exact (own_below HOA.out H26.out)), (by rw [HX.out, ← Bool.or_assoc, ← HBB.out, HD.out, dl]; simp), (HBA.out.trans (H26.out.mono HBA.out.size))⟩
               ·have dl : decide (a0 < 1) = false := decide_eq_false hlo
                go_wp2_with (first
                 | (go_at_call 52; refine (HNU.out _ (bx_step HB5.out HBA.out).b_bel).mono ?_; rintro e w6 ⟨A5, cap5, rfl, hl5, hb5⟩; have HR1 := Lib.hid (rvrises_any w6 hl5 HFL.out.symm); rw [← HR.out] at HR1; have H26 := Lib.hid hb5; have H60 := Lib.hid hb5; clear hl5 hb5)
                 | (go_at_call 50; (with_reducible refine (HR1.out).mono ?_); rintro e wq ⟨rfl, kq, rfl⟩; replace H26 := Lib.hid (H26.out.trans ((drewN_under w6 kq).mono H26.out.size)); have HR2 := Lib.hid (rvrises_any (w6.drewN kq) (HLB.out _ ((bx_step HB5.out HBA.out).b_bel.trans (H26.out.mono (bx_step HB5.out HBA.out).b_bel.size))) HNB.out); rw [← HQ.out] at HR2)
                 | (go_at_call 50; (with_reducible refine (HR2.out).mono ?_); rintro e wq2 ⟨rfl, kq2, rfl⟩; replace H26 := Lib.hid (H60.out.trans ((drewN_under w6 (kq + kq2)).mono H60.out.size)); have p0 := HP0.out _ ((bx_step HB5.out HBA.out).b_bel.trans (H26.out.mono (bx_step HB5.out HBA.out).b_bel.size)); have p9 := HP9.out _ ((bx_step HB5.out HBA.out).b_bel.trans (H26.out.mono (bx_step HB5.out HBA.out).b_bel.size))))
                go_roundg (g0 - 1)
                case measure => omega
                case rel => exact ⟨i + 1, by go_num, by omega, _, rfl, (by rw [HTK.out]; exact (own_below HOA.out H26.out)), (by rw [HX.out, ← Bool.or_assoc, ← HBB.out, HD.out, dl]; simp), (HBA.out.trans (H26.out.mono HBA.out.size))⟩
       ·skip
        have dz : decide ((i : Int) > 0) = true := decide_eq_true (by omega)
        have dz2 : decide (0 < i) = true := decide_eq_true (by omega)
        have dz3 : 0 < i := by omega
        have HLN : Hid ((((mNames s).take i).drop 1).length ≤ 6) := Lib.hid (by have := HN3.out; rw [List.length_drop, List.length_take]; omega)
        have HTK : Hid (((mNames s).take (i + 1)).drop 1 = ((mNames s).take i).drop 1 ++ [x.name]) := Lib.hid (drop1_snoc (by omega) HMX.out)
        obtain ⟨b, hb⟩ : ∃ b, b = (h2 || (s.msgs.take i).any orderM) := ⟨_, rfl⟩
        have HBB := Lib.hid hb
        rw [← hb]
        clear hb
        cases b with
        | true =>
          go_wp2_with (first
           | (at_builtin; refine wpList_append_sl rfl _ _ rfl w5.heap.size _ _ _ rfl (own_below HOWN.out ((Below.refl _ _).alloc (Nat.le_refl _) _)) _ 1 1 [x.name] rfl rfl (sl_txt1 _ _ _ _ HSN.out) (by have := HLN.out; show _ + 1 ≤ 1000000; omega) (by have := HBEL.out.size; simp; omega) ?_; intro va2 w2 ho hg; have HOA := Lib.hid ho; have HBA := Lib.hid ((HBEL.out.alloc HBEL.out.size _).grown hg (by have := HBEL.out.size; simp; omega) (fun k hk => (HOWN.out.lt k hk).1)); clear ho hg; obtain ⟨c0, c1, c2⟩ := HC.out _ (bx_step HB5.out HBA.out).b_bel; have r0 := obj_cell (bx_step HB5.out HBA.out).b_blk 0; have r1 := obj_cell (bx_step HB5.out HBA.out).b_blk 1))
          go_roundg (g0 - 1)
          case measure => omega
          case rel => exact ⟨i + 1, by go_num, by omega, _, rfl, (by rw [HTK.out, List.length_append]; exact HOA.out), (by rw [HX.out, ← Bool.or_assoc, ← HBB.out]; rfl), HBA.out⟩
        | false =>
          have HD : Hid (orderM x = ((!r || !q) || (decide (0 < nb) && (decide (x.barred.headD 0 < 1) || decide (536870911 < lastD x.barred))))) := Lib.hid (by unfold orderM; rw [HR.out, HQ.out, HNB.out])
          cases r with
          | false =>
            go_wp2_with (first
             | (at_builtin; refine wpList_append_sl rfl _ _ rfl w5.heap.size _ _ _ rfl (own_below HOWN.out ((Below.refl _ _).alloc (Nat.le_refl _) _)) _ 1 1 [x.name] rfl rfl (sl_txt1 _ _ _ _ HSN.out) (by have := HLN.out; show _ + 1 ≤ 1000000; omega) (by have := HBEL.out.size; simp; omega) ?_; intro va2 w2 ho hg; have HOA := Lib.hid ho; have HBA := Lib.hid ((HBEL.out.alloc HBEL.out.size _).grown hg (by have := HBEL.out.size; simp; omega) (fun k hk => (HOWN.out.lt k hk).1)); clear ho hg; obtain ⟨c0, c1, c2⟩ := HC.out _ (bx_step HB5.out HBA.out).b_bel; have r0 := obj_cell (bx_step HB5.out HBA.out).b_blk 0; have r1 := obj_cell (bx_step HB5.out HBA.out).b_blk 1)
             | (go_at_call 52; refine (HNU.out _ (bx_step HB5.out HBA.out).b_bel).mono ?_; rintro e w6 ⟨A5, cap5, rfl, hl5, hb5⟩; have HR1 := Lib.hid (rvrises_any w6 hl5 HFL.out.symm); rw [← HR.out] at HR1; have H26 := Lib.hid hb5; have H60 := Lib.hid hb5; clear hl5 hb5)
             | (go_at_call 50; (with_reducible refine (HR1.out).mono ?_); rintro e wq ⟨rfl, kq, rfl⟩; replace H26 := Lib.hid (H26.out.trans ((drewN_under w6 kq).mono H26.out.size)); have HR2 := Lib.hid (rvrises_any (w6.drewN kq) (HLB.out _ ((bx_step HB5.out HBA.out).b_bel.trans (H26.out.mono (bx_step HB5.out HBA.out).b_bel.size))) HNB.out); rw [← HQ.out] at HR2))
            go_roundg (g0 - 1)
            case measure => omega
            case rel => exact ⟨i + 1, by go_num, by omega, _, rfl, (by rw [HTK.out, List.length_append]; exact (own_below HOA.out H26.out)), (by rw [HX.out, ← Bool.or_assoc, ← HBB.out, HD.out]; simp), (HBA.out.trans (H26.out.mono HBA.out.size))⟩
          | true =>
            cases q with
            | false =>
              go_wp2_with (first
               | (at_builtin; refine wpList_append_sl rfl _ _ rfl w5.heap.size _ _ _ rfl (own_below HOWN.out ((Below.refl _ _).alloc (Nat.le_refl _) _)) _ 1 1 [x.name] rfl rfl (sl_txt1 _ _ _ _ HSN.out) (by have := HLN.out; show _ + 1 ≤ 1000000; omega) (by have := HBEL.out.size; simp; omega) ?_; intro va2 w2 ho hg; have HOA := Lib.hid ho; have HBA := Lib.hid ((HBEL.out.alloc HBEL.out.size _).grown hg (by have := HBEL.out.size; simp; omega) (fun k hk => (HOWN.out.lt k hk).1)); clear ho hg; obtain ⟨c0, c1, c2⟩ := HC.out _ (bx_step HB5.out HBA.out).b_bel; have r0 := obj_cell (bx_step HB5.out HBA.out).b_blk 0; have r1 := obj_cell (bx_step HB5.out HBA.out).b_blk 1)
               | (go_at_call 52; refine (HNU.out _ (bx_step HB5.out HBA.out).b_bel).mono ?_; rintro e w6 ⟨A5, cap5, rfl, hl5, hb5⟩; have HR1 := Lib.hid (rvrises_any w6 hl5 HFL.out.symm); rw [← HR.out] at HR1; have H26 := Lib.hid hb5; have H60 := Lib.hid hb5; clear hl5 hb5)
               | (go_at_call 50; (with_reducible refine (HR1.out).mono ?_); rintro e wq ⟨rfl, kq, rfl⟩; replace H26 := Lib.hid (H26.out.trans ((drewN_under w6 kq).mono H26.out.size)); have HR2 := Lib.hid (rvrises_any (w6.drewN kq) (HLB.out _ ((bx_step HB5.out HBA.out).b_bel.trans (H26.out.mono (bx_step HB5.out HBA.out).b_bel.size))) HNB.out); rw [← HQ.out] at HR2)
               | (go_at_call 50; (with_reducible refine (HR2.out).mono ?_); rintro e wq2 ⟨rfl, kq2, rfl⟩; replace H26 := Lib.hid (H60.out.trans ((drewN_under w6 (kq + kq2)).mono H60.out.size))))
              go_roundg (g0 - 1)
              case measure => omega
              case rel => exact ⟨i + 1, by go_num, by omega, _, rfl, (by rw [HTK.out, List.length_append]; exact (own_below HOA.out H26.out)), (by rw [HX.out, ← Bool.or_assoc, ← HBB.out, HD.out]; simp), (HBA.out.trans (H26.out.mono HBA.out.size))⟩
            | true =>
              by_cases hnb : nb = 0
              ·subst hnb
               go_wp2_with (first
                | (at_builtin; refine wpList_append_sl rfl _ _ rfl w5.heap.size _ _ _ rfl (own_below HOWN.out ((Below.refl _ _).alloc (Nat.le_refl _) _)) _ 1 1 [x.name] rfl rfl (sl_txt1 _ _ _ _ HSN.out) (by have := HLN.out; show _ + 1 ≤ 1000000; omega) (by have := HBEL.out.size; simp; omega) ?_; intro va2 w2 ho hg; have HOA := Lib.hid ho; have HBA := Lib.hid ((HBEL.out.alloc HBEL.out.size _).grown hg (by have := HBEL.out.size; simp; omega) (fun k hk => (HOWN.out.lt k hk).1)); clear ho hg; obtain ⟨c0, c1, c2⟩ := HC.out _ (bx_step HB5.out HBA.out).b_bel; have r0 := obj_cell (bx_step HB5.out HBA.out).b_blk 0; have r1 := obj_cell (bx_step HB5.out HBA.out).b_blk 1)
                | (go_at_call 52; refine (HNU.out _ (bx_step HB5.out HBA.out).b_bel).mono ?_; rintro e w6 ⟨A5, cap5, rfl, hl5, hb5⟩; have HR1 := Lib.hid (rvrises_any w6 hl5 HFL.out.symm); rw [← HR.out] at HR1; have H26 := Lib.hid hb5; have H60 := Lib.hid hb5; clear hl5 hb5)
                | (go_at_call 50; (with_reducible refine (HR1.out).mono ?_); rintro e wq ⟨rfl, kq, rfl⟩; replace H26 := Lib.hid (H26.out.trans ((drewN_under w6 kq).mono H26.out.size)); have HR2 := Lib.hid (rvrises_any (w6.drewN kq) (HLB.out _ ((bx_step HB5.out HBA.out).b_bel.trans (H26.out.mono (bx_step HB5.out HBA.out).b_bel.size))) HNB.out); rw [← HQ.out] at HR2)
                | (go_at_call 50; (with_reducible refine (HR2.out).mono ?_); rintro e wq2 ⟨rfl, kq2, rfl⟩; replace H26 := Lib.hid (H60.out.trans ((drewN_under w6 (kq + kq2)).mono H60.out.size))))
               go_roundg (g0 - 1)
               case measure => omega
               case rel => exact ⟨i + 1, by go_num, by omega, _, rfl, (by rw [HTK.out, List.length_append]; exact (own_below HOA.out H26.out)), (by rw [HX.out, ← Bool.or_assoc, ← HBB.out, HD.out]; simp), (HBA.out.trans (H26.out.mono HBA.out.size))⟩
              ·have db : decide ((nb : Int) > 0) = true := decide_eq_true (by omega)
               obtain ⟨a0, ha0⟩ : ∃ a, x.barred[0]? = some a := ⟨_, List.getElem?_eq_getElem (by have := HNB.out; omega)⟩
               obtain ⟨k1, hk1⟩ : ∃ k1, k1 + 1 = nb := ⟨nb - 1, by omega⟩
               obtain ⟨al, hal⟩ : ∃ a, x.barred[k1]? = some a := ⟨_, List.getElem?_eq_getElem (by have := HNB.out; omega)⟩
               obtain ⟨gl, ol, rfl, _, p0⟩ := in_at HL2.out ha0
               obtain ⟨g', o', e', _, p9⟩ := in_at HL2.out hal
               cases e'
               rw [Nat.add_zero] at p0
               have HP0 := Lib.hid p0
               have HP9 := Lib.hid p9
               rw [headD_at ha0, lastD_at hal (by have := HNB.out; omega), decide_eq_true (by omega : 0 < nb)] at HD
               have u1 : 1 ≤ nb := by omega
               have u8 : nb ≤ 8 := HNF10.out.2
               have gw : IntKind.i64.wrap ((nb : Int) - 1) = (k1 : Int) := by rw [show (nb : Int) - 1 = (k1 : Int) by omega]; exact IntWalk.i64_in _ (by omega)
               have gx : (nb : Int) - 1 = (k1 : Int) := by omega
               have gw2 : IntKind.i64.wrap (k1 : Int) = (k1 : Int) := IntWalk.i64_in _ (by omega)
               have hkk : k1 < nb := by omega
               clear ha0 hal p0 p9 hk1 hnb
               by_cases hlo : a0 < 1
               ·have dl : decide (a0 < 1) = true := decide_eq_true hlo
                go_wp2_with (first
                 | (at_builtin; refine wpList_append_sl rfl _ _ rfl w5.heap.size _ _ _ rfl (own_below HOWN.out ((Below.refl _ _).alloc (Nat.le_refl _) _)) _ 1 1 [x.name] rfl rfl (sl_txt1 _ _ _ _ HSN.out) (by have := HLN.out; show _ + 1 ≤ 1000000; omega) (by have := HBEL.out.size; simp; omega) ?_; intro va2 w2 ho hg; have HOA := Lib.hid ho; have HBA := Lib.hid ((HBEL.out.alloc HBEL.out.size _).grown hg (by have := HBEL.out.size; simp; omega) (fun k hk => (HOWN.out.lt k hk).1)); clear ho hg; obtain ⟨c0, c1, c2⟩ := HC.out _ (bx_step HB5.out HBA.out).b_bel; have r0 := obj_cell (bx_step HB5.out HBA.out).b_blk 0; have r1 := obj_cell (bx_step HB5.out HBA.out).b_blk 1)
                 | (go_at_call 52; refine (HNU.out _ (bx_step HB5.out HBA.out).b_bel).mono ?_; rintro e w6 ⟨A5, cap5, rfl, hl5, hb5⟩; have HR1 := Lib.hid (rvrises_any w6 hl5 HFL.out.symm); rw [← HR.out] at HR1; have H26 := Lib.hid hb5; have H60 := Lib.hid hb5; clear hl5 hb5)
                 | (go_at_call 50; (with_reducible refine (HR1.out).mono ?_); rintro e wq ⟨rfl, kq, rfl⟩; replace H26 := Lib.hid (H26.out.trans ((drewN_under w6 kq).mono H26.out.size)); have HR2 := Lib.hid (rvrises_any (w6.drewN kq) (HLB.out _ ((bx_step HB5.out HBA.out).b_bel.trans (H26.out.mono (bx_step HB5.out HBA.out).b_bel.size))) HNB.out); rw [← HQ.out] at HR2)
                 | (go_at_call 50; (with_reducible refine (HR2.out).mono ?_); rintro e wq2 ⟨rfl, kq2, rfl⟩; replace H26 := Lib.hid (H60.out.trans ((drewN_under w6 (kq + kq2)).mono H60.out.size)); have p0 := HP0.out _ ((bx_step HB5.out HBA.out).b_bel.trans (H26.out.mono (bx_step HB5.out HBA.out).b_bel.size)); have p9 := HP9.out _ ((bx_step HB5.out HBA.out).b_bel.trans (H26.out.mono (bx_step HB5.out HBA.out).b_bel.size))))
                go_roundg (g0 - 1)
                case measure => omega
                case rel => exact ⟨i + 1, by go_num, by omega, _, rfl, (by rw [HTK.out, List.length_append]; exact (own_below HOA.out H26.out)), (by rw [HX.out, ← Bool.or_assoc, ← HBB.out, HD.out, dl]; simp), (HBA.out.trans (H26.out.mono HBA.out.size))⟩
               ·have dl : decide (a0 < 1) = false := decide_eq_false hlo
                go_wp2_with (first
                 | (at_builtin; refine wpList_append_sl rfl _ _ rfl w5.heap.size _ _ _ rfl (own_below HOWN.out ((Below.refl _ _).alloc (Nat.le_refl _) _)) _ 1 1 [x.name] rfl rfl (sl_txt1 _ _ _ _ HSN.out) (by have := HLN.out; show _ + 1 ≤ 1000000; omega) (by have := HBEL.out.size; simp; omega) ?_; intro va2 w2 ho hg; have HOA := Lib.hid ho; have HBA := Lib.hid ((HBEL.out.alloc HBEL.out.size _).grown hg (by have := HBEL.out.size; simp; omega) (fun k hk => (HOWN.out.lt k hk).1)); clear ho hg; obtain ⟨c0, c1, c2⟩ := HC.out _ (bx_step HB5.out HBA.out).b_bel; have r0 := obj_cell (bx_step HB5.out HBA.out).b_blk 0; have r1 := obj_cell (bx_step HB5.out HBA.out).b_blk 1)
                 | (go_at_call 52; refine (HNU.out _ (bx_step HB5.out HBA.out).b_bel).mono ?_; rintro e w6 ⟨A5, cap5, rfl, hl5, hb5⟩; have HR1 := Lib.hid (rvrises_any w6 hl5 HFL.out.symm); rw [← HR.out] at HR1; have H26 := Lib.hid hb5; have H60 := Lib.hid hb5; clear hl5 hb5)
                 | (go_at_call 50; (with_reducible refine (HR1.out).mono ?_); rintro e wq ⟨rfl, kq, rfl⟩; replace H26 := Lib.hid (H26.out.trans ((drewN_under w6 kq).mono H26.out.size)); have HR2 := Lib.hid (rvrises_any (w6.drewN kq) (HLB.out _ ((bx_step HB5.out HBA.out).b_bel.trans (H26.out.mono (bx_step HB5.out HBA.out).b_bel.size))) HNB.out); rw [← HQ.out] at HR2)
                 | (go_at_call 50; (with_reducible refine (HR2.out).mono ?_); rintro e wq2 ⟨rfl, kq2, rfl⟩; replace H26 := Lib.hid (H60.out.trans ((drewN_under w6 (kq + kq2)).mono H60.out.size)); have p0 := HP0.out _ ((bx_step HB5.out HBA.out).b_bel.trans (H26.out.mono (bx_step HB5.out HBA.out).b_bel.size)); have p9 := HP9.out _ ((bx_step HB5.out HBA.out).b_bel.trans (H26.out.mono (bx_step HB5.out HBA.out).b_bel.size))))
                go_roundg (g0 - 1)
                case measure => omega
                case rel => exact ⟨i + 1, by go_num, by omega, _, rfl, (by rw [HTK.out, List.length_append]; exact (own_below HOA.out H26.out)), (by rw [HX.out, ← Bool.or_assoc, ← HBB.out, HD.out, dl]; simp), (HBA.out.trans (H26.out.mono HBA.out.size))⟩
      ·have ti : decide ((i : Int) < (n2 : Int)) = false := decide_eq_false (by omega)
       rw [any_whole s.msgs orderM i (by have := H.out.s_nm; omega)]
       have HFM : Hid ((mNames s).take i = mNames s) := Lib.hid (List.take_of_length_le (by unfold mNames; rw [List.length_map]; have := H.out.s_nm; omega))
       have ho := HOWN.out
       rw [HFM.out] at ho
       obtain ⟨_, Al, capl, hvl, hsl⟩ := Sl.own ho
       rw [txts_length] at hvl
       obtain ⟨nl, hnl⟩ : ∃ nl, nl = ((mNames s).drop 1).length := ⟨_, rfl⟩
       rw [← hnl] at hvl
       subst hvl
       have HON := Lib.hid (rrise_any wr hsl hnl)
       clear ho hsl hnl
       obtain ⟨b, hb⟩ : ∃ b, b = (h2 || s.msgs.any orderM) := ⟨_, rfl⟩
       have HBB := Lib.hid hb
       rw [← hb]
       clear hb
       cases b with
       | true =>
         go_wp2
         go_ret
         exact ⟨ret_bool' (by rw [HV.out, ← HBB.out]; simp), HBX.out.b_bel⟩
       | false =>
         go_wp2_with (first
          | (go_at_call 51; refine (HON.out).mono ?_; rintro e wq ⟨rfl, kq, rfl⟩))
         go_ret
         exact ⟨ret_bool' (by rw [HV.out, ← HBB.out]; simp), (bx_drew HBX.out _).b_bel⟩
   | false =>
     go_wp2_with (first
      | (go_at_call 51; refine (HON.out).mono ?_; rintro e w5 ⟨rfl, hk⟩; have HB5 := Lib.hid (hk.elim fun kq h => (by rw [h]; exact bx_drew HBX.out kq : Bx w w5 (.cells #[.slice A n cap, .slice A2 n2 cap2] 25 (0, 0)))); clear hk))
     have HOW5 := Lib.hid (own0_str w5)
     go_loopg [3, 4, 8] n2 (fun gz x0 x1 x2 wr => ∃ i : Nat, x2 = .int .i64 (i : Int) ∧ i + gz = n2 ∧ ∃ va, x1 = va ∧ wr.ownsRow w5.heap.size 9 1 va (((mNames s).take i).drop 1).length (txts (((mNames s).take i).drop 1)) ∧ x0 = .bool (h2 || (s.msgs.take i).any orderM) ∧ Below w5.heap.size w5 wr)
     case atStart => exact ⟨0, rfl, by omega, _, rfl, (by rw [List.take_zero]; exact HOW5.out), (by rw [HH2.out, ← HBB.out]; simp), (Below.refl _ w5).alloc (Nat.le_refl _) _⟩
     case round =>
      obtain ⟨i, rfl, hi, va, rfl, hown, rfl, hbel⟩ := hrel
      have HOWN := Lib.hid hown
      have HBEL := Lib.hid hbel
      have HBX := Lib.hid (bx_step HB5.out hbel)
      clear hown hbel
      have r0 := obj_cell (HBX.out).b_blk 0
      have r1 := obj_cell (HBX.out).b_blk 1
      obtain ⟨g0, hg0⟩ : ∃ g0, g0 = gk := ⟨_, rfl⟩
      subst hg0
      by_cases hlti : i < n2
      ·have ti : decide ((i : Int) < (n2 : Int)) = true := decide_eq_true (by omega)
       obtain ⟨x, hx⟩ : ∃ x, s.msgs[i]? = some x := ⟨_, List.getElem?_eq_getElem (by have := H.out.s_nm; omega)⟩
       have HXI := Lib.hid hx
       obtain ⟨ge, oe, A1, cap1, A3, cap3, rfl, _, hc, hl, hl2⟩ := ms_at H.out.s_m hx
       have q1 := hl.l_le
       have q2 := hl.l_max
       have q3 := hl2.l_le
       have q4 := hl2.l_max
       unfold maxLen at q2 q4
       have HL := Lib.hid hl
       have HL2 := Lib.hid hl2
       obtain ⟨nf, hnf⟩ : ∃ nf, nf = x.fields.length := ⟨_, rfl⟩
       obtain ⟨nb, hnb⟩ : ∃ nb, nb = x.barred.length := ⟨_, rfl⟩
       have HNF := Lib.hid hnf
       have HNB := Lib.hid hnb
       rw [← hnf] at hc q1
       rw [← hnb] at hc q3
       obtain ⟨sn, hsn⟩ : ∃ sn, sn = strOf x.name := ⟨_, rfl⟩
       have HSN := Lib.hid hsn
       rw [← hsn] at hc
       have HC := Lib.hid hc
       clear hx hl hl2 hnf hnb hsn hc
       obtain ⟨c0, c1, c2⟩ := HC.out _ HBX.out.b_bel
       have HX := Lib.hid (any_snoc s.msgs orderM i x HXI.out)
       have HNF10 : Hid (nf ≤ 10 ∧ nb ≤ 8) := Lib.hid (by have := HFEW.out.few_f x (List.mem_of_getElem? HXI.out); have := HNF.out; have := HNB.out; omega)
       have HMX : Hid ((mNames s)[i]? = some x.name) := Lib.hid (by unfold mNames; rw [List.getElem?_map, HXI.out]; rfl)
       have HNU := Lib.hid (fun u (hb : Below w.heap.size w u) => rvnums_any (x := x) (nb := nb) (cap3 := cap3) (A3 := A3) u sn (lst_keep HL.out fdR_keep (fun _ h => h) (bel_keep hb)) HNF.out (by have := HNF10.out; omega))
       have HLB : Hid (∀ u, Below w.heap.size w u → Lst 1 (S 2) inR u A3 cap3 x.barred) := Lib.hid (fun u hb => lst_keep HL2.out inR_keep (fun _ h => h) (bel_keep hb))
       have hfl : (fNums x).length = nf := by unfold fNums; rw [List.length_map, HNF.out]
       have HFL := Lib.hid hfl
       clear hfl
       obtain ⟨r, hr⟩ : ∃ r, r = risesB (fNums x) := ⟨_, rfl⟩
       obtain ⟨q, hq⟩ : ∃ q, q = risesB x.barred := ⟨_, rfl⟩
       have HR := Lib.hid hr
       have HQ := Lib.hid hq
       clear hr hq
       by_cases hi0 : i = 0
       ·skip
        have dz : decide ((i : Int) > 0) = false := decide_eq_false (by omega)
        have dz2 : decide (0 < i) = false := decide_eq_false (by omega)
        have dz3 : ¬ 0 < i := by omega
        obtain ⟨w2, hw2⟩ : ∃ w2, w2 = wr := ⟨_, rfl⟩
        subst hw2
        have HTK : Hid (((mNames s).take (i + 1)).drop 1 = ((mNames s).take i).drop 1) := Lib.hid (by rw [hi0, drop1_zero]; rfl)
        have HOA := HOWN
        have HBA := HBEL
        clear hi0
        obtain ⟨b, hb⟩ : ∃ b, b = (h2 || (s.msgs.take i).any orderM) := ⟨_, rfl⟩
        have HBB := Lib.hid hb
        rw [← hb]
        clear hb
        cases b with
        | true =>
          go_wp2
          go_roundg (g0 - 1)
          case measure => omega
          case rel => exact ⟨i + 1, by go_num, by omega, _, rfl, (by rw [HTK.out]; exact HOA.out), (by rw [HX.out, ← Bool.or_assoc, ← HBB.out]; rfl), HBA.out⟩
        | false =>
          have HD : Hid (orderM x = ((!r || !q) || (decide (0 < nb) && (decide (x.barred.headD 0 < 1) || decide (536870911 < lastD x.barred))))) := Lib.hid (by unfold orderM; rw [HR.out, HQ.out, HNB.out])
          cases r with
          | false =>
            go_wp2_with (first
             | (go_at_call 52; refine (HNU.out _ (bx_step HB5.out HBA.out).b_bel).mono ?_; rintro e w6 ⟨A5, cap5, rfl, hl5, hb5⟩; have HR1 := Lib.hid (rvrises_any w6 hl5 HFL.out.symm); rw [← HR.out] at HR1; have H26 := Lib.hid hb5; have H60 := Lib.hid hb5; clear hl5 hb5)
             | (go_at_call 50; (with_reducible refine (HR1.out).mono ?_); rintro e wq ⟨rfl, kq, rfl⟩; replace H26 := Lib.hid (H26.out.trans ((drewN_under w6 kq).mono H26.out.size)); have HR2 := Lib.hid (rvrises_any (w6.drewN kq) (HLB.out _ ((bx_step HB5.out HBA.out).b_bel.trans (H26.out.mono (bx_step HB5.out HBA.out).b_bel.size))) HNB.out); rw [← HQ.out] at HR2))
            go_roundg (g0 - 1)
            case measure => omega
            case rel => exact ⟨i + 1, by go_num, by omega, _, rfl, (by rw [HTK.out]; exact (own_below HOA.out H26.out)), (by rw [HX.out, ← Bool.or_assoc, ← HBB.out, HD.out]; simp), (HBA.out.trans (H26.out.mono HBA.out.size))⟩
          | true =>
            cases q with
            | false =>
              go_wp2_with (first
               | (go_at_call 52; refine (HNU.out _ (bx_step HB5.out HBA.out).b_bel).mono ?_; rintro e w6 ⟨A5, cap5, rfl, hl5, hb5⟩; have HR1 := Lib.hid (rvrises_any w6 hl5 HFL.out.symm); rw [← HR.out] at HR1; have H26 := Lib.hid hb5; have H60 := Lib.hid hb5; clear hl5 hb5)
               | (go_at_call 50; (with_reducible refine (HR1.out).mono ?_); rintro e wq ⟨rfl, kq, rfl⟩; replace H26 := Lib.hid (H26.out.trans ((drewN_under w6 kq).mono H26.out.size)); have HR2 := Lib.hid (rvrises_any (w6.drewN kq) (HLB.out _ ((bx_step HB5.out HBA.out).b_bel.trans (H26.out.mono (bx_step HB5.out HBA.out).b_bel.size))) HNB.out); rw [← HQ.out] at HR2)
               | (go_at_call 50; (with_reducible refine (HR2.out).mono ?_); rintro e wq2 ⟨rfl, kq2, rfl⟩; replace H26 := Lib.hid (H60.out.trans ((drewN_under w6 (kq + kq2)).mono H60.out.size))))
              go_roundg (g0 - 1)
              case measure => omega
              case rel => exact ⟨i + 1, by go_num, by omega, _, rfl, (by rw [HTK.out]; exact (own_below HOA.out H26.out)), (by rw [HX.out, ← Bool.or_assoc, ← HBB.out, HD.out]; simp), (HBA.out.trans (H26.out.mono HBA.out.size))⟩
            | true =>
              by_cases hnb : nb = 0
              ·subst hnb
               go_wp2_with (first
                | (go_at_call 52; refine (HNU.out _ (bx_step HB5.out HBA.out).b_bel).mono ?_; rintro e w6 ⟨A5, cap5, rfl, hl5, hb5⟩; have HR1 := Lib.hid (rvrises_any w6 hl5 HFL.out.symm); rw [← HR.out] at HR1; have H26 := Lib.hid hb5; have H60 := Lib.hid hb5; clear hl5 hb5)
                | (go_at_call 50; (with_reducible refine (HR1.out).mono ?_); rintro e wq ⟨rfl, kq, rfl⟩; replace H26 := Lib.hid (H26.out.trans ((drewN_under w6 kq).mono H26.out.size)); have HR2 := Lib.hid (rvrises_any (w6.drewN kq) (HLB.out _ ((bx_step HB5.out HBA.out).b_bel.trans (H26.out.mono (bx_step HB5.out HBA.out).b_bel.size))) HNB.out); rw [← HQ.out] at HR2)
                | (go_at_call 50; (with_reducible refine (HR2.out).mono ?_); rintro e wq2 ⟨rfl, kq2, rfl⟩; replace H26 := Lib.hid (H60.out.trans ((drewN_under w6 (kq + kq2)).mono H60.out.size))))
               go_roundg (g0 - 1)
               case measure => omega
               case rel => exact ⟨i + 1, by go_num, by omega, _, rfl, (by rw [HTK.out]; exact (own_below HOA.out H26.out)), (by rw [HX.out, ← Bool.or_assoc, ← HBB.out, HD.out]; simp), (HBA.out.trans (H26.out.mono HBA.out.size))⟩
              ·have db : decide ((nb : Int) > 0) = true := decide_eq_true (by omega)
               obtain ⟨a0, ha0⟩ : ∃ a, x.barred[0]? = some a := ⟨_, List.getElem?_eq_getElem (by have := HNB.out; omega)⟩
               obtain ⟨k1, hk1⟩ : ∃ k1, k1 + 1 = nb := ⟨nb - 1, by omega⟩
               obtain ⟨al, hal⟩ : ∃ a, x.barred[k1]? = some a := ⟨_, List.getElem?_eq_getElem (by have := HNB.out; omega)⟩
               obtain ⟨gl, ol, rfl, _, p0⟩ := in_at HL2.out ha0
               obtain ⟨g', o', e', _, p9⟩ := in_at HL2.out hal
               cases e'
               rw [Nat.add_zero] at p0
               have HP0 := Lib.hid p0
               have HP9 := Lib.hid p9
               rw [headD_at ha0, lastD_at hal (by have := HNB.out; omega), decide_eq_true (by omega : 0 < nb)] at HD
               have u1 : 1 ≤ nb := by omega
               have u8 : nb ≤ 8 := HNF10.out.2
               have gw : IntKind.i64.wrap ((nb : Int) - 1) = (k1 : Int) := by rw [show (nb : Int) - 1 = (k1 : Int) by omega]; exact IntWalk.i64_in _ (by omega)
               have gx : (nb : Int) - 1 = (k1 : Int) := by omega
               have gw2 : IntKind.i64.wrap (k1 : Int) = (k1 : Int) := IntWalk.i64_in _ (by omega)
               have hkk : k1 < nb := by omega
               clear ha0 hal p0 p9 hk1 hnb
               by_cases hlo : a0 < 1
               ·have dl : decide (a0 < 1) = true := decide_eq_true hlo
                go_wp2_with (first
                 | (go_at_call 52; refine (HNU.out _ (bx_step HB5.out HBA.out).b_bel).mono ?_; rintro e w6 ⟨A5, cap5, rfl, hl5, hb5⟩; have HR1 := Lib.hid (rvrises_any w6 hl5 HFL.out.symm); rw [← HR.out] at HR1; have H26 := Lib.hid hb5; have H60 := Lib.hid hb5; clear hl5 hb5)
                 | (go_at_call 50; (with_reducible refine (HR1.out).mono ?_); rintro e wq ⟨rfl, kq, rfl⟩; replace H26 := Lib.hid (H26.out.trans ((drewN_under w6 kq).mono H26.out.size)); have HR2 := Lib.hid (rvrises_any (w6.drewN kq) (HLB.out _ ((bx_step HB5.out HBA.out).b_bel.trans (H26.out.mono (bx_step HB5.out HBA.out).b_bel.size))) HNB.out); rw [← HQ.out] at HR2)
                 | (go_at_call 50; (with_reducible refine (HR2.out).mono ?_); rintro e wq2 ⟨rfl, kq2, rfl⟩; replace H26 := Lib.hid (H60.out.trans ((drewN_under w6 (kq + kq2)).mono H60.out.size)); have p0 := HP0.out _ ((bx_step HB5.out HBA.out).b_bel.trans (H26.out.mono (bx_step HB5.out HBA.out).b_bel.size)); have p9 := HP9.out _ ((bx_step HB5.out HBA.out).b_bel.trans (H26.out.mono (bx_step HB5.out HBA.out).b_bel.size))))
                go_roundg (g0 - 1)
                case measure => omega
                case rel => exact ⟨i + 1, by go_num, by omega, _, rfl, (by rw [HTK.out]; exact (own_below HOA.out H26.out)), (by rw [HX.out, ← Bool.or_assoc, ← HBB.out, HD.out, dl]; simp), (HBA.out.trans (H26.out.mono HBA.out.size))⟩
               ·have dl : decide (a0 < 1) = false := decide_eq_false hlo
                go_wp2_with (first
                 | (go_at_call 52; refine (HNU.out _ (bx_step HB5.out HBA.out).b_bel).mono ?_; rintro e w6 ⟨A5, cap5, rfl, hl5, hb5⟩; have HR1 := Lib.hid (rvrises_any w6 hl5 HFL.out.symm); rw [← HR.out] at HR1; have H26 := Lib.hid hb5; have H60 := Lib.hid hb5; clear hl5 hb5)
                 | (go_at_call 50; (with_reducible refine (HR1.out).mono ?_); rintro e wq ⟨rfl, kq, rfl⟩; replace H26 := Lib.hid (H26.out.trans ((drewN_under w6 kq).mono H26.out.size)); have HR2 := Lib.hid (rvrises_any (w6.drewN kq) (HLB.out _ ((bx_step HB5.out HBA.out).b_bel.trans (H26.out.mono (bx_step HB5.out HBA.out).b_bel.size))) HNB.out); rw [← HQ.out] at HR2)
                 | (go_at_call 50; (with_reducible refine (HR2.out).mono ?_); rintro e wq2 ⟨rfl, kq2, rfl⟩; replace H26 := Lib.hid (H60.out.trans ((drewN_under w6 (kq + kq2)).mono H60.out.size)); have p0 := HP0.out _ ((bx_step HB5.out HBA.out).b_bel.trans (H26.out.mono (bx_step HB5.out HBA.out).b_bel.size)); have p9 := HP9.out _ ((bx_step HB5.out HBA.out).b_bel.trans (H26.out.mono (bx_step HB5.out HBA.out).b_bel.size))))
                go_roundg (g0 - 1)
                case measure => omega
                case rel => exact ⟨i + 1, by go_num, by omega, _, rfl, (by rw [HTK.out]; exact (own_below HOA.out H26.out)), (by rw [HX.out, ← Bool.or_assoc, ← HBB.out, HD.out, dl]; simp), (HBA.out.trans (H26.out.mono HBA.out.size))⟩
       ·skip
        have dz : decide ((i : Int) > 0) = true := decide_eq_true (by omega)
        have dz2 : decide (0 < i) = true := decide_eq_true (by omega)
        have dz3 : 0 < i := by omega
        have HLN : Hid ((((mNames s).take i).drop 1).length ≤ 6) := Lib.hid (by have := HN3.out; rw [List.length_drop, List.length_take]; omega)
        have HTK : Hid (((mNames s).take (i + 1)).drop 1 = ((mNames s).take i).drop 1 ++ [x.name]) := Lib.hid (drop1_snoc (by omega) HMX.out)
        obtain ⟨b, hb⟩ : ∃ b, b = (h2 || (s.msgs.take i).any orderM) := ⟨_, rfl⟩
        have HBB := Lib.hid hb
        rw [← hb]
        clear hb
        cases b with
        | true =>
          go_wp2_with (first
           | (at_builtin; refine wpList_append_sl rfl _ _ rfl w5.heap.size _ _ _ rfl (own_below HOWN.out ((Below.refl _ _).alloc (Nat.le_refl _) _)) _ 1 1 [x.name] rfl rfl (sl_txt1 _ _ _ _ HSN.out) (by have := HLN.out; show _ + 1 ≤ 1000000; omega) (by have := HBEL.out.size; simp; omega) ?_; intro va2 w2 ho hg; have HOA := Lib.hid ho; have HBA := Lib.hid ((HBEL.out.alloc HBEL.out.size _).grown hg (by have := HBEL.out.size; simp; omega) (fun k hk => (HOWN.out.lt k hk).1)); clear ho hg; obtain ⟨c0, c1, c2⟩ := HC.out _ (bx_step HB5.out HBA.out).b_bel; have r0 := obj_cell (bx_step HB5.out HBA.out).b_blk 0; have r1 := obj_cell (bx_step HB5.out HBA.out).b_blk 1))
          go_roundg (g0 - 1)
          case measure => omega
          case rel => exact ⟨i + 1, by go_num, by omega, _, rfl, (by rw [HTK.out, List.length_append]; exact HOA.out), (by rw [HX.out, ← Bool.or_assoc, ← HBB.out]; rfl), HBA.out⟩
        | false =>
          have HD : Hid (orderM x = ((!r || !q) || (decide (0 < nb) && (decide (x.barred.headD 0 < 1) || decide (536870911 < lastD x.barred))))) := Lib.hid (by unfold orderM; rw [HR.out, HQ.out, HNB.out])
          cases r with
          | false =>
            go_wp2_with (first
             | (at_builtin; refine wpList_append_sl rfl _ _ rfl w5.heap.size _ _ _ rfl (own_below HOWN.out ((Below.refl _ _).alloc (Nat.le_refl _) _)) _ 1 1 [x.name] rfl rfl (sl_txt1 _ _ _ _ HSN.out) (by have := HLN.out; show _ + 1 ≤ 1000000; omega) (by have := HBEL.out.size; simp; omega) ?_; intro va2 w2 ho hg; have HOA := Lib.hid ho; have HBA := Lib.hid ((HBEL.out.alloc HBEL.out.size _).grown hg (by have := HBEL.out.size; simp; omega) (fun k hk => (HOWN.out.lt k hk).1)); clear ho hg; obtain ⟨c0, c1, c2⟩ := HC.out _ (bx_step HB5.out HBA.out).b_bel; have r0 := obj_cell (bx_step HB5.out HBA.out).b_blk 0; have r1 := obj_cell (bx_step HB5.out HBA.out).b_blk 1)
             | (go_at_call 52; refine (HNU.out _ (bx_step HB5.out HBA.out).b_bel).mono ?_; rintro e w6 ⟨A5, cap5, rfl, hl5, hb5⟩; have HR1 := Lib.hid (rvrises_any w6 hl5 HFL.out.symm); rw [← HR.out] at HR1; have H26 := Lib.hid hb5; have H60 := Lib.hid hb5; clear hl5 hb5)
             | (go_at_call 50; (with_reducible refine (HR1.out).mono ?_); rintro e wq ⟨rfl, kq, rfl⟩; replace H26 := Lib.hid (H26.out.trans ((drewN_under w6 kq).mono H26.out.size)); have HR2 := Lib.hid (rvrises_any (w6.drewN kq) (HLB.out _ ((bx_step HB5.out HBA.out).b_bel.trans (H26.out.mono (bx_step HB5.out HBA.out).b_bel.size))) HNB.out); rw [← HQ.out] at HR2))
            go_roundg (g0 - 1)
            case measure => omega
            case rel => exact ⟨i + 1, by go_num, by omega, _, rfl, (by rw [HTK.out, List.length_append]; exact (own_below HOA.out H26.out)), (by rw [HX.out, ← Bool.or_assoc, ← HBB.out, HD.out]; simp), (HBA.out.trans (H26.out.mono HBA.out.size))⟩
          | true =>
            cases q with
            | false =>
              go_wp2_with (first
               | (at_builtin; refine wpList_append_sl rfl _ _ rfl w5.heap.size _ _ _ rfl (own_below HOWN.out ((Below.refl _ _).alloc (Nat.le_refl _) _)) _ 1 1 [x.name] rfl rfl (sl_txt1 _ _ _ _ HSN.out) (by have := HLN.out; show _ + 1 ≤ 1000000; omega) (by have := HBEL.out.size; simp; omega) ?_; intro va2 w2 ho hg; have HOA := Lib.hid ho; have HBA := Lib.hid ((HBEL.out.alloc HBEL.out.size _).grown hg (by have := HBEL.out.size; simp; omega) (fun k hk => (HOWN.out.lt k hk).1)); clear ho hg; obtain ⟨c0, c1, c2⟩ := HC.out _ (bx_step HB5.out HBA.out).b_bel; have r0 := obj_cell (bx_step HB5.out HBA.out).b_blk 0; have r1 := obj_cell (bx_step HB5.out HBA.out).b_blk 1)
               | (go_at_call 52; refine (HNU.out _ (bx_step HB5.out HBA.out).b_bel).mono ?_; rintro e w6 ⟨A5, cap5, rfl, hl5, hb5⟩; have HR1 := Lib.hid (rvrises_any w6 hl5 HFL.out.symm); rw [← HR.out] at HR1; have H26 := Lib.hid hb5; have H60 := Lib.hid hb5; clear hl5 hb5)
               | (go_at_call 50; (with_reducible refine (HR1.out).mono ?_); rintro e wq ⟨rfl, kq, rfl⟩; replace H26 := Lib.hid (H26.out.trans ((drewN_under w6 kq).mono H26.out.size)); have HR2 := Lib.hid (rvrises_any (w6.drewN kq) (HLB.out _ ((bx_step HB5.out HBA.out).b_bel.trans (H26.out.mono (bx_step HB5.out HBA.out).b_bel.size))) HNB.out); rw [← HQ.out] at HR2)
               | (go_at_call 50; (with_reducible refine (HR2.out).mono ?_); rintro e wq2 ⟨rfl, kq2, rfl⟩; replace H26 := Lib.hid (H60.out.trans ((drewN_under w6 (kq + kq2)).mono H60.out.size))))
              go_roundg (g0 - 1)
              case measure => omega
              case rel => exact ⟨i + 1, by go_num, by omega, _, rfl, (by rw [HTK.out, List.length_append]; exact (own_below HOA.out H26.out)), (by rw [HX.out, ← Bool.or_assoc, ← HBB.out, HD.out]; simp), (HBA.out.trans (H26.out.mono HBA.out.size))⟩
            | true =>
              by_cases hnb : nb = 0
              ·subst hnb
               go_wp2_with (first
                | (at_builtin; refine wpList_append_sl rfl _ _ rfl w5.heap.size _ _ _ rfl (own_below HOWN.out ((Below.refl _ _).alloc (Nat.le_refl _) _)) _ 1 1 [x.name] rfl rfl (sl_txt1 _ _ _ _ HSN.out) (by have := HLN.out; show _ + 1 ≤ 1000000; omega) (by have := HBEL.out.size; simp; omega) ?_; intro va2 w2 ho hg; have HOA := Lib.hid ho; have HBA := Lib.hid ((HBEL.out.alloc HBEL.out.size _).grown hg (by have := HBEL.out.size; simp; omega) (fun k hk => (HOWN.out.lt k hk).1)); clear ho hg; obtain ⟨c0, c1, c2⟩ := HC.out _ (bx_step HB5.out HBA.out).b_bel; have r0 := obj_cell (bx_step HB5.out HBA.out).b_blk 0; have r1 := obj_cell (bx_step HB5.out HBA.out).b_blk 1)
                | (go_at_call 52; refine (HNU.out _ (bx_step HB5.out HBA.out).b_bel).mono ?_; rintro e w6 ⟨A5, cap5, rfl, hl5, hb5⟩; have HR1 := Lib.hid (rvrises_any w6 hl5 HFL.out.symm); rw [← HR.out] at HR1; have H26 := Lib.hid hb5; have H60 := Lib.hid hb5; clear hl5 hb5)
                | (go_at_call 50; (with_reducible refine (HR1.out).mono ?_); rintro e wq ⟨rfl, kq, rfl⟩; replace H26 := Lib.hid (H26.out.trans ((drewN_under w6 kq).mono H26.out.size)); have HR2 := Lib.hid (rvrises_any (w6.drewN kq) (HLB.out _ ((bx_step HB5.out HBA.out).b_bel.trans (H26.out.mono (bx_step HB5.out HBA.out).b_bel.size))) HNB.out); rw [← HQ.out] at HR2)
                | (go_at_call 50; (with_reducible refine (HR2.out).mono ?_); rintro e wq2 ⟨rfl, kq2, rfl⟩; replace H26 := Lib.hid (H60.out.trans ((drewN_under w6 (kq + kq2)).mono H60.out.size))))
               go_roundg (g0 - 1)
               case measure => omega
               case rel => exact ⟨i + 1, by go_num, by omega, _, rfl, (by rw [HTK.out, List.length_append]; exact (own_below HOA.out H26.out)), (by rw [HX.out, ← Bool.or_assoc, ← HBB.out, HD.out]; simp), (HBA.out.trans (H26.out.mono HBA.out.size))⟩
              ·have db : decide ((nb : Int) > 0) = true := decide_eq_true (by omega)
               obtain ⟨a0, ha0⟩ : ∃ a, x.barred[0]? = some a := ⟨_, List.getElem?_eq_getElem (by have := HNB.out; omega)⟩
               obtain ⟨k1, hk1⟩ : ∃ k1, k1 + 1 = nb := ⟨nb - 1, by omega⟩
               obtain ⟨al, hal⟩ : ∃ a, x.barred[k1]? = some a := ⟨_, List.getElem?_eq_getElem (by have := HNB.out; omega)⟩
               obtain ⟨gl, ol, rfl, _, p0⟩ := in_at HL2.out ha0
               obtain ⟨g', o', e', _, p9⟩ := in_at HL2.out hal
               cases e'
               rw [Nat.add_zero] at p0
               have HP0 := Lib.hid p0
               have HP9 := Lib.hid p9
               rw [headD_at ha0, lastD_at hal (by have := HNB.out; omega), decide_eq_true (by omega : 0 < nb)] at HD
               have u1 : 1 ≤ nb := by omega
               have u8 : nb ≤ 8 := HNF10.out.2
               have gw : IntKind.i64.wrap ((nb : Int) - 1) = (k1 : Int) := by rw [show (nb : Int) - 1 = (k1 : Int) by omega]; exact IntWalk.i64_in _ (by omega)
               have gx : (nb : Int) - 1 = (k1 : Int) := by omega
               have gw2 : IntKind.i64.wrap (k1 : Int) = (k1 : Int) := IntWalk.i64_in _ (by omega)
               have hkk : k1 < nb := by omega
               clear ha0 hal p0 p9 hk1 hnb
               by_cases hlo : a0 < 1
               ·have dl : decide (a0 < 1) = true := decide_eq_true hlo
                go_wp2_with (first
                 | (at_builtin; refine wpList_append_sl rfl _ _ rfl w5.heap.size _ _ _ rfl (own_below HOWN.out ((Below.refl _ _).alloc (Nat.le_refl _) _)) _ 1 1 [x.name] rfl rfl (sl_txt1 _ _ _ _ HSN.out) (by have := HLN.out; show _ + 1 ≤ 1000000; omega) (by have := HBEL.out.size; simp; omega) ?_; intro va2 w2 ho hg; have HOA := Lib.hid ho; have HBA := Lib.hid ((HBEL.out.alloc HBEL.out.size _).grown hg (by have := HBEL.out.size; simp; omega) (fun k hk => (HOWN.out.lt k hk).1)); clear ho hg; obtain ⟨c0, c1, c2⟩ := HC.out _ (bx_step HB5.out HBA.out).b_bel; have r0 := obj_cell (bx_step HB5.out HBA.out).b_blk 0; have r1 := obj_cell (bx_step HB5.out HBA.out).b_blk 1)
                 | (go_at_call 52; refine (HNU.out _ (bx_step HB5.out HBA.out).b_bel).mono ?_; rintro e w6 ⟨A5, cap5, rfl, hl5, hb5⟩; have HR1 := Lib.hid (rvrises_any w6 hl5 HFL.out.symm); rw [← HR.out] at HR1; have H26 := Lib.hid hb5; have H60 := Lib.hid hb5; clear hl5 hb5)
                 | (go_at_call 50; (with_reducible refine (HR1.out).mono ?_); rintro e wq ⟨rfl, kq, rfl⟩; replace H26 := Lib.hid (H26.out.trans ((drewN_under w6 kq).mono H26.out.size)); have HR2 := Lib.hid (rvrises_any (w6.drewN kq) (HLB.out _ ((bx_step HB5.out HBA.out).b_bel.trans (H26.out.mono (bx_step HB5.out HBA.out).b_bel.size))) HNB.out); rw [← HQ.out] at HR2)
                 | (go_at_call 50; (with_reducible refine (HR2.out).mono ?_); rintro e wq2 ⟨rfl, kq2, rfl⟩; replace H26 := Lib.hid (H60.out.trans ((drewN_under w6 (kq + kq2)).mono H60.out.size)); have p0 := HP0.out _ ((bx_step HB5.out HBA.out).b_bel.trans (H26.out.mono (bx_step HB5.out HBA.out).b_bel.size)); have p9 := HP9.out _ ((bx_step HB5.out HBA.out).b_bel.trans (H26.out.mono (bx_step HB5.out HBA.out).b_bel.size))))
                go_roundg (g0 - 1)
                case measure => omega
                case rel => exact ⟨i + 1, by go_num, by omega, _, rfl, (by rw [HTK.out, List.length_append]; exact (own_below HOA.out H26.out)), (by rw [HX.out, ← Bool.or_assoc, ← HBB.out, HD.out, dl]; simp), (HBA.out.trans (H26.out.mono HBA.out.size))⟩
               ·have dl : decide (a0 < 1) = false := decide_eq_false hlo
                go_wp2_with (first
                 | (at_builtin; refine wpList_append_sl rfl _ _ rfl w5.heap.size _ _ _ rfl (own_below HOWN.out ((Below.refl _ _).alloc (Nat.le_refl _) _)) _ 1 1 [x.name] rfl rfl (sl_txt1 _ _ _ _ HSN.out) (by have := HLN.out; show _ + 1 ≤ 1000000; omega) (by have := HBEL.out.size; simp; omega) ?_; intro va2 w2 ho hg; have HOA := Lib.hid ho; have HBA := Lib.hid ((HBEL.out.alloc HBEL.out.size _).grown hg (by have := HBEL.out.size; simp; omega) (fun k hk => (HOWN.out.lt k hk).1)); clear ho hg; obtain ⟨c0, c1, c2⟩ := HC.out _ (bx_step HB5.out HBA.out).b_bel; have r0 := obj_cell (bx_step HB5.out HBA.out).b_blk 0; have r1 := obj_cell (bx_step HB5.out HBA.out).b_blk 1)
                 | (go_at_call 52; refine (HNU.out _ (bx_step HB5.out HBA.out).b_bel).mono ?_; rintro e w6 ⟨A5, cap5, rfl, hl5, hb5⟩; have HR1 := Lib.hid (rvrises_any w6 hl5 HFL.out.symm); rw [← HR.out] at HR1; have H26 := Lib.hid hb5; have H60 := Lib.hid hb5; clear hl5 hb5)
                 | (go_at_call 50; (with_reducible refine (HR1.out).mono ?_); rintro e wq ⟨rfl, kq, rfl⟩; replace H26 := Lib.hid (H26.out.trans ((drewN_under w6 kq).mono H26.out.size)); have HR2 := Lib.hid (rvrises_any (w6.drewN kq) (HLB.out _ ((bx_step HB5.out HBA.out).b_bel.trans (H26.out.mono (bx_step HB5.out HBA.out).b_bel.size))) HNB.out); rw [← HQ.out] at HR2)
                 | (go_at_call 50; (with_reducible refine (HR2.out).mono ?_); rintro e wq2 ⟨rfl, kq2, rfl⟩; replace H26 := Lib.hid (H60.out.trans ((drewN_under w6 (kq + kq2)).mono H60.out.size)); have p0 := HP0.out _ ((bx_step HB5.out HBA.out).b_bel.trans (H26.out.mono (bx_step HB5.out HBA.out).b_bel.size)); have p9 := HP9.out _ ((bx_step HB5.out HBA.out).b_bel.trans (H26.out.mono (bx_step HB5.out HBA.out).b_bel.size))))
                go_roundg (g0 - 1)
                case measure => omega
                case rel => exact ⟨i + 1, by go_num, by omega, _, rfl, (by rw [HTK.out, List.length_append]; exact (own_below HOA.out H26.out)), (by rw [HX.out, ← Bool.or_assoc, ← HBB.out, HD.out, dl]; simp), (HBA.out.trans (H26.out.mono HBA.out.size))⟩
      ·have ti : decide ((i : Int) < (n2 : Int)) = false := decide_eq_false (by omega)
       rw [any_whole s.msgs orderM i (by have := H.out.s_nm; omega)]
       have HFM : Hid ((mNames s).take i = mNames s) := Lib.hid (List.take_of_length_le (by unfold mNames; rw [List.length_map]; have := H.out.s_nm; omega))
       have ho := HOWN.out
       rw [HFM.out] at ho
       obtain ⟨_, Al, capl, hvl, hsl⟩ := Sl.own ho
       rw [txts_length] at hvl
       obtain ⟨nl, hnl⟩ : ∃ nl, nl = ((mNames s).drop 1).length := ⟨_, rfl⟩
       rw [← hnl] at hvl
       subst hvl
       have HON := Lib.hid (rrise_any wr hsl hnl)
       clear ho hsl hnl
       obtain ⟨b, hb⟩ : ∃ b, b = (h2 || s.msgs.any orderM) := ⟨_, rfl⟩
       have HBB := Lib.hid hb
       rw [← hb]
       clear hb
       cases b with
       | true =>
         go_wp2
         go_ret
         exact ⟨ret_bool' (by rw [HV.out, ← HBB.out]; simp), HBX.out.b_bel⟩
       | false =>
         go_wp2_with (first
          | (go_at_call 51; refine (HON.out).mono ?_; rintro e wq ⟨rfl, kq, rfl⟩))
         go_ret
         exact ⟨ret_bool' (by rw [HV.out, ← HBB.out]; simp), (bx_drew HBX.out _).b_bel⟩
end Go.Proofs.YtloheacncefkgaaGreatDoor

/- The document's layer 15: which schemas may be. Conditions: those that each theorem names. -/
namespace Go.Proofs.YtloheacncefkgaaGreatDoor
open Go.RowKit
set_option linter.unusedVariables false
set_option maxRecDepth 100000

set_option maxHeartbeats 8000000 in
theorem rvcheck_any {S : Nat → Nat → Prop} (w : World) {A A2 : Option Addr} {n cap n2 cap2 : Nat} {s : Sc} (h : ScAt S w A n cap A2 n2 cap2 s) :
 Calls Tryz.prog 8 #[.agg #[.slice A n cap, .slice A2 n2 cap2]] w fun e w' => e = .returned (.int .i64 (checkT s)) ∧ Below w.heap.size w w' := by
 obtain ⟨m1, m2, m3, m4⟩ := scAt_max h
 have H := Lib.hid h
 have HBX := Lib.hid (bx_start w #[.slice A n cap, .slice A2 n2 cap2] 25)
 have HBB := HBX
 have HCmany := Lib.hid (fun u (hb : Below w.heap.size w u) => rvmany_any u (scAt_bel h hb))
 have HCnone := Lib.hid (fun u (hb : Below w.heap.size w u) => rvnone_any u (scAt_bel h hb))
 have HCtext := Lib.hid (fun u (hb : Below w.heap.size w u) => rvtext_any u (scAt_bel h hb))
 have HCbarred := Lib.hid (fun u (hb : Below w.heap.size w u) => rvbarred_any u (scAt_bel h hb))
 have HCrefs := Lib.hid (fun u (hb : Below w.heap.size w u) => rvrefs_any u (scAt_bel h hb))
 have HCfields := Lib.hid (fun u (hb : Below w.heap.size w u) => rvfields_any u (scAt_bel h hb))
 have HCtwice := Lib.hid (fun (hm : manyT s = false) u (hb : Below w.heap.size w u) => rvtwice_any u (scAt_bel h hb) (few_of hm))
 have HCorder := Lib.hid (fun (hm : manyT s = false) (hn : noneT s = false) u (hb : Below w.heap.size w u) => rvorder_any u (scAt_bel h hb) (few_of hm) hn)
 have HV : Hid (checkT s = if manyT s = true then 4 else if noneT s = true then 5 else if scTextT s = true then 2 else if fieldsT s ≠ 0 then fieldsT s else if twiceT s = true then 6 else if orderT s = true then 1 else if barredT s = true then 6 else if refsT s = true then 5 else 0) := Lib.hid rfl
 obtain ⟨bm, hbm⟩ : ∃ z, z = manyT s := ⟨_, rfl⟩
 obtain ⟨bn, hbn⟩ : ∃ z, z = noneT s := ⟨_, rfl⟩
 obtain ⟨bt, hbt⟩ : ∃ z, z = scTextT s := ⟨_, rfl⟩
 obtain ⟨bw, hbw⟩ : ∃ z, z = twiceT s := ⟨_, rfl⟩
 obtain ⟨bo, hbo⟩ : ∃ z, z = orderT s := ⟨_, rfl⟩
 obtain ⟨bb, hbb⟩ : ∃ z, z = barredT s := ⟨_, rfl⟩
 obtain ⟨br, hbr⟩ : ∃ z, z = refsT s := ⟨_, rfl⟩
 obtain ⟨C, hC⟩ : ∃ z, z = fieldsT s := ⟨_, rfl⟩
 rw [← hbm] at HCmany HCtwice HCorder HV
 rw [← hbn] at HCnone HCorder HV
 rw [← hbt] at HCtext HV
 rw [← hbw] at HCtwice HV
 rw [← hbo] at HCorder HV
 rw [← hbb] at HCbarred HV
 rw [← hbr] at HCrefs HV
 rw [← hC] at HCfields HV
 clear h hbm hbn hbt hbw hbo hbb hbr hC
 have r0 := obj_cell (HBX.out).b_blk 0
 have r1 := obj_cell (HBX.out).b_blk 1
 cases bm with
 | true =>
   go_enter Tryz.func8, Tryz.ntmps8
   go_wp2_with (first
    | (go_at_call 18; refine (HCmany.out _ HBX.out.b_bel).mono ?_; rintro e w1 ⟨rfl, hb⟩; replace HBX := Lib.hid (bx_step HBX.out hb); clear hb; have r0 := obj_cell HBX.out.b_blk 0; have r1 := obj_cell HBX.out.b_blk 1))
   go_ret
   exact ⟨ret_int' (by rw [HV.out]; simp [*]), HBX.out.b_bel⟩
 | false =>
   cases bn with
   | true =>
     go_enter Tryz.func8, Tryz.ntmps8
     go_wp2_with (first
      | (go_at_call 18; refine (HCmany.out _ HBX.out.b_bel).mono ?_; rintro e w1 ⟨rfl, hb⟩; replace HBX := Lib.hid (bx_step HBX.out hb); clear hb; have r0 := obj_cell HBX.out.b_blk 0; have r1 := obj_cell HBX.out.b_blk 1)
      | (go_at_call 19; refine (HCnone.out _ HBX.out.b_bel).mono ?_; rintro e w1 ⟨rfl, hb⟩; replace HBX := Lib.hid (bx_step HBX.out hb); clear hb; have r0 := obj_cell HBX.out.b_blk 0; have r1 := obj_cell HBX.out.b_blk 1))
     go_ret
     exact ⟨ret_int' (by rw [HV.out]; simp [*]), HBX.out.b_bel⟩
   | false =>
     cases bt with
     | true =>
       go_enter Tryz.func8, Tryz.ntmps8
       go_wp2_with (first
        | (go_at_call 18; refine (HCmany.out _ HBX.out.b_bel).mono ?_; rintro e w1 ⟨rfl, hb⟩; replace HBX := Lib.hid (bx_step HBX.out hb); clear hb; have r0 := obj_cell HBX.out.b_blk 0; have r1 := obj_cell HBX.out.b_blk 1)
        | (go_at_call 19; refine (HCnone.out _ HBX.out.b_bel).mono ?_; rintro e w1 ⟨rfl, hb⟩; replace HBX := Lib.hid (bx_step HBX.out hb); clear hb; have r0 := obj_cell HBX.out.b_blk 0; have r1 := obj_cell HBX.out.b_blk 1)
        | (go_at_call 20; refine (HCtext.out _ HBX.out.b_bel).mono ?_; rintro e w1 ⟨rfl, hb⟩; replace HBX := Lib.hid (bx_step HBX.out hb); clear hb; have r0 := obj_cell HBX.out.b_blk 0; have r1 := obj_cell HBX.out.b_blk 1))
       go_ret
       exact ⟨ret_int' (by rw [HV.out]; simp [*]), HBX.out.b_bel⟩
     | false =>
       by_cases h0 : C = 0
       ·subst h0
        cases bw with
        | true =>
          go_enter Tryz.func8, Tryz.ntmps8
          go_wp2_with (first
           | (go_at_call 18; refine (HCmany.out _ HBX.out.b_bel).mono ?_; rintro e w1 ⟨rfl, hb⟩; replace HBX := Lib.hid (bx_step HBX.out hb); clear hb; have r0 := obj_cell HBX.out.b_blk 0; have r1 := obj_cell HBX.out.b_blk 1)
           | (go_at_call 19; refine (HCnone.out _ HBX.out.b_bel).mono ?_; rintro e w1 ⟨rfl, hb⟩; replace HBX := Lib.hid (bx_step HBX.out hb); clear hb; have r0 := obj_cell HBX.out.b_blk 0; have r1 := obj_cell HBX.out.b_blk 1)
           | (go_at_call 20; refine (HCtext.out _ HBX.out.b_bel).mono ?_; rintro e w1 ⟨rfl, hb⟩; replace HBX := Lib.hid (bx_step HBX.out hb); clear hb; have r0 := obj_cell HBX.out.b_blk 0; have r1 := obj_cell HBX.out.b_blk 1)
           | (go_at_call 21; refine (HCfields.out _ HBX.out.b_bel).mono ?_; rintro e w1 ⟨rfl, hb⟩; replace HBX := Lib.hid (bx_step HBX.out hb); clear hb; have r0 := obj_cell HBX.out.b_blk 0; have r1 := obj_cell HBX.out.b_blk 1)
           | (go_at_call 22; refine (HCtwice.out (by first | rfl | trivial) _ HBX.out.b_bel).mono ?_; rintro e w1 ⟨rfl, hb⟩; replace HBX := Lib.hid (bx_step HBX.out hb); clear hb; have r0 := obj_cell HBX.out.b_blk 0; have r1 := obj_cell HBX.out.b_blk 1))
          go_ret
          exact ⟨ret_int' (by rw [HV.out]; simp [*]), HBX.out.b_bel⟩
        | false =>
          cases bo with
          | true =>
            go_enter Tryz.func8, Tryz.ntmps8
            go_wp2_with (first
             | (go_at_call 18; refine (HCmany.out _ HBX.out.b_bel).mono ?_; rintro e w1 ⟨rfl, hb⟩; replace HBX := Lib.hid (bx_step HBX.out hb); clear hb; have r0 := obj_cell HBX.out.b_blk 0; have r1 := obj_cell HBX.out.b_blk 1)
             | (go_at_call 19; refine (HCnone.out _ HBX.out.b_bel).mono ?_; rintro e w1 ⟨rfl, hb⟩; replace HBX := Lib.hid (bx_step HBX.out hb); clear hb; have r0 := obj_cell HBX.out.b_blk 0; have r1 := obj_cell HBX.out.b_blk 1)
             | (go_at_call 20; refine (HCtext.out _ HBX.out.b_bel).mono ?_; rintro e w1 ⟨rfl, hb⟩; replace HBX := Lib.hid (bx_step HBX.out hb); clear hb; have r0 := obj_cell HBX.out.b_blk 0; have r1 := obj_cell HBX.out.b_blk 1)
             | (go_at_call 21; refine (HCfields.out _ HBX.out.b_bel).mono ?_; rintro e w1 ⟨rfl, hb⟩; replace HBX := Lib.hid (bx_step HBX.out hb); clear hb; have r0 := obj_cell HBX.out.b_blk 0; have r1 := obj_cell HBX.out.b_blk 1)
             | (go_at_call 22; refine (HCtwice.out (by first | rfl | trivial) _ HBX.out.b_bel).mono ?_; rintro e w1 ⟨rfl, hb⟩; replace HBX := Lib.hid (bx_step HBX.out hb); clear hb; have r0 := obj_cell HBX.out.b_blk 0; have r1 := obj_cell HBX.out.b_blk 1)
             | (go_at_call 23; refine (HCorder.out (by first | rfl | trivial) (by first | rfl | trivial) _ HBX.out.b_bel).mono ?_; rintro e w1 ⟨rfl, hb⟩; replace HBX := Lib.hid (bx_step HBX.out hb); clear hb; have r0 := obj_cell HBX.out.b_blk 0; have r1 := obj_cell HBX.out.b_blk 1))
            go_ret
            exact ⟨ret_int' (by rw [HV.out]; simp [*]), HBX.out.b_bel⟩
          | false =>
            cases bb with
            | true =>
              go_enter Tryz.func8, Tryz.ntmps8
              go_wp2_with (first
               | (go_at_call 18; refine (HCmany.out _ HBX.out.b_bel).mono ?_; rintro e w1 ⟨rfl, hb⟩; replace HBX := Lib.hid (bx_step HBX.out hb); clear hb; have r0 := obj_cell HBX.out.b_blk 0; have r1 := obj_cell HBX.out.b_blk 1)
               | (go_at_call 19; refine (HCnone.out _ HBX.out.b_bel).mono ?_; rintro e w1 ⟨rfl, hb⟩; replace HBX := Lib.hid (bx_step HBX.out hb); clear hb; have r0 := obj_cell HBX.out.b_blk 0; have r1 := obj_cell HBX.out.b_blk 1)
               | (go_at_call 20; refine (HCtext.out _ HBX.out.b_bel).mono ?_; rintro e w1 ⟨rfl, hb⟩; replace HBX := Lib.hid (bx_step HBX.out hb); clear hb; have r0 := obj_cell HBX.out.b_blk 0; have r1 := obj_cell HBX.out.b_blk 1)
               | (go_at_call 21; refine (HCfields.out _ HBX.out.b_bel).mono ?_; rintro e w1 ⟨rfl, hb⟩; replace HBX := Lib.hid (bx_step HBX.out hb); clear hb; have r0 := obj_cell HBX.out.b_blk 0; have r1 := obj_cell HBX.out.b_blk 1)
               | (go_at_call 22; refine (HCtwice.out (by first | rfl | trivial) _ HBX.out.b_bel).mono ?_; rintro e w1 ⟨rfl, hb⟩; replace HBX := Lib.hid (bx_step HBX.out hb); clear hb; have r0 := obj_cell HBX.out.b_blk 0; have r1 := obj_cell HBX.out.b_blk 1)
               | (go_at_call 23; refine (HCorder.out (by first | rfl | trivial) (by first | rfl | trivial) _ HBX.out.b_bel).mono ?_; rintro e w1 ⟨rfl, hb⟩; replace HBX := Lib.hid (bx_step HBX.out hb); clear hb; have r0 := obj_cell HBX.out.b_blk 0; have r1 := obj_cell HBX.out.b_blk 1)
               | (go_at_call 24; refine (HCbarred.out _ HBX.out.b_bel).mono ?_; rintro e w1 ⟨rfl, hb⟩; replace HBX := Lib.hid (bx_step HBX.out hb); clear hb; have r0 := obj_cell HBX.out.b_blk 0; have r1 := obj_cell HBX.out.b_blk 1))
              go_ret
              exact ⟨ret_int' (by rw [HV.out]; simp [*]), HBX.out.b_bel⟩
            | false =>
              cases br with
              | true =>
                go_enter Tryz.func8, Tryz.ntmps8
                go_wp2_with (first
                 | (go_at_call 18; refine (HCmany.out _ HBX.out.b_bel).mono ?_; rintro e w1 ⟨rfl, hb⟩; replace HBX := Lib.hid (bx_step HBX.out hb); clear hb; have r0 := obj_cell HBX.out.b_blk 0; have r1 := obj_cell HBX.out.b_blk 1)
                 | (go_at_call 19; refine (HCnone.out _ HBX.out.b_bel).mono ?_; rintro e w1 ⟨rfl, hb⟩; replace HBX := Lib.hid (bx_step HBX.out hb); clear hb; have r0 := obj_cell HBX.out.b_blk 0; have r1 := obj_cell HBX.out.b_blk 1)
                 | (go_at_call 20; refine (HCtext.out _ HBX.out.b_bel).mono ?_; rintro e w1 ⟨rfl, hb⟩; replace HBX := Lib.hid (bx_step HBX.out hb); clear hb; have r0 := obj_cell HBX.out.b_blk 0; have r1 := obj_cell HBX.out.b_blk 1)
                 | (go_at_call 21; refine (HCfields.out _ HBX.out.b_bel).mono ?_; rintro e w1 ⟨rfl, hb⟩; replace HBX := Lib.hid (bx_step HBX.out hb); clear hb; have r0 := obj_cell HBX.out.b_blk 0; have r1 := obj_cell HBX.out.b_blk 1)
                 | (go_at_call 22; refine (HCtwice.out (by first | rfl | trivial) _ HBX.out.b_bel).mono ?_; rintro e w1 ⟨rfl, hb⟩; replace HBX := Lib.hid (bx_step HBX.out hb); clear hb; have r0 := obj_cell HBX.out.b_blk 0; have r1 := obj_cell HBX.out.b_blk 1)
                 | (go_at_call 23; refine (HCorder.out (by first | rfl | trivial) (by first | rfl | trivial) _ HBX.out.b_bel).mono ?_; rintro e w1 ⟨rfl, hb⟩; replace HBX := Lib.hid (bx_step HBX.out hb); clear hb; have r0 := obj_cell HBX.out.b_blk 0; have r1 := obj_cell HBX.out.b_blk 1)
                 | (go_at_call 24; refine (HCbarred.out _ HBX.out.b_bel).mono ?_; rintro e w1 ⟨rfl, hb⟩; replace HBX := Lib.hid (bx_step HBX.out hb); clear hb; have r0 := obj_cell HBX.out.b_blk 0; have r1 := obj_cell HBX.out.b_blk 1)
                 | (go_at_call 25; refine (HCrefs.out _ HBX.out.b_bel).mono ?_; rintro e w1 ⟨rfl, hb⟩; replace HBX := Lib.hid (bx_step HBX.out hb); clear hb; have r0 := obj_cell HBX.out.b_blk 0; have r1 := obj_cell HBX.out.b_blk 1))
                go_ret
                exact ⟨ret_int' (by rw [HV.out]; simp [*]), HBX.out.b_bel⟩
              | false =>
                go_enter Tryz.func8, Tryz.ntmps8
                go_wp2_with (first
                 | (go_at_call 18; refine (HCmany.out _ HBX.out.b_bel).mono ?_; rintro e w1 ⟨rfl, hb⟩; replace HBX := Lib.hid (bx_step HBX.out hb); clear hb; have r0 := obj_cell HBX.out.b_blk 0; have r1 := obj_cell HBX.out.b_blk 1)
                 | (go_at_call 19; refine (HCnone.out _ HBX.out.b_bel).mono ?_; rintro e w1 ⟨rfl, hb⟩; replace HBX := Lib.hid (bx_step HBX.out hb); clear hb; have r0 := obj_cell HBX.out.b_blk 0; have r1 := obj_cell HBX.out.b_blk 1)
                 | (go_at_call 20; refine (HCtext.out _ HBX.out.b_bel).mono ?_; rintro e w1 ⟨rfl, hb⟩; replace HBX := Lib.hid (bx_step HBX.out hb); clear hb; have r0 := obj_cell HBX.out.b_blk 0; have r1 := obj_cell HBX.out.b_blk 1)
                 | (go_at_call 21; refine (HCfields.out _ HBX.out.b_bel).mono ?_; rintro e w1 ⟨rfl, hb⟩; replace HBX := Lib.hid (bx_step HBX.out hb); clear hb; have r0 := obj_cell HBX.out.b_blk 0; have r1 := obj_cell HBX.out.b_blk 1)
                 | (go_at_call 22; refine (HCtwice.out (by first | rfl | trivial) _ HBX.out.b_bel).mono ?_; rintro e w1 ⟨rfl, hb⟩; replace HBX := Lib.hid (bx_step HBX.out hb); clear hb; have r0 := obj_cell HBX.out.b_blk 0; have r1 := obj_cell HBX.out.b_blk 1)
                 | (go_at_call 23; refine (HCorder.out (by first | rfl | trivial) (by first | rfl | trivial) _ HBX.out.b_bel).mono ?_; rintro e w1 ⟨rfl, hb⟩; replace HBX := Lib.hid (bx_step HBX.out hb); clear hb; have r0 := obj_cell HBX.out.b_blk 0; have r1 := obj_cell HBX.out.b_blk 1)
                 | (go_at_call 24; refine (HCbarred.out _ HBX.out.b_bel).mono ?_; rintro e w1 ⟨rfl, hb⟩; replace HBX := Lib.hid (bx_step HBX.out hb); clear hb; have r0 := obj_cell HBX.out.b_blk 0; have r1 := obj_cell HBX.out.b_blk 1)
                 | (go_at_call 25; refine (HCrefs.out _ HBX.out.b_bel).mono ?_; rintro e w1 ⟨rfl, hb⟩; replace HBX := Lib.hid (bx_step HBX.out hb); clear hb; have r0 := obj_cell HBX.out.b_blk 0; have r1 := obj_cell HBX.out.b_blk 1))
                go_ret
                exact ⟨ret_int' (by rw [HV.out]; rfl), HBX.out.b_bel⟩
       ·have e1 : (C == 0) = false := beq_false_of_ne h0
        have e2 : (C != 0) = true := by simp [h0]
        go_enter Tryz.func8, Tryz.ntmps8
        go_wp2_with (first
         | (go_at_call 18; refine (HCmany.out _ HBX.out.b_bel).mono ?_; rintro e w1 ⟨rfl, hb⟩; replace HBX := Lib.hid (bx_step HBX.out hb); clear hb; have r0 := obj_cell HBX.out.b_blk 0; have r1 := obj_cell HBX.out.b_blk 1)
         | (go_at_call 19; refine (HCnone.out _ HBX.out.b_bel).mono ?_; rintro e w1 ⟨rfl, hb⟩; replace HBX := Lib.hid (bx_step HBX.out hb); clear hb; have r0 := obj_cell HBX.out.b_blk 0; have r1 := obj_cell HBX.out.b_blk 1)
         | (go_at_call 20; refine (HCtext.out _ HBX.out.b_bel).mono ?_; rintro e w1 ⟨rfl, hb⟩; replace HBX := Lib.hid (bx_step HBX.out hb); clear hb; have r0 := obj_cell HBX.out.b_blk 0; have r1 := obj_cell HBX.out.b_blk 1)
         | (go_at_call 21; refine (HCfields.out _ HBX.out.b_bel).mono ?_; rintro e w1 ⟨rfl, hb⟩; replace HBX := Lib.hid (bx_step HBX.out hb); clear hb; have r0 := obj_cell HBX.out.b_blk 0; have r1 := obj_cell HBX.out.b_blk 1))
        go_ret
        exact ⟨ret_int' (by rw [HV.out]; simp [*]), HBX.out.b_bel⟩
end Go.Proofs.YtloheacncefkgaaGreatDoor
