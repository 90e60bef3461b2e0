/- Several texts in one: EmLay. What each proves, and its conditions, stands at its own head. -/
import Derived.Test.YtloheacncefkgaaGreatDoorPkEU13
import Derived.Test.YtloheacncefkgaaGreatDoorPkEU46
import Derived.Test.YtloheacncefkgaaGreatDoorPkEU16
import Derived.Deep.RegionHeld3
import Derived.Deep.CutRange
import Derived.Deep.RegionLaw
/- lay: the heads of all frames are laid among the bytes. Conditions: those that each theorem names. -/
namespace Go.Proofs.YtloheacncefkgaaGreatDoor
open Go.RowKit Go.Shelf
set_option linter.unusedVariables false
set_option maxRecDepth 100000
attribute [local go_sem] Oper.semAt_some

theorem step_append_zeros {ops : Array Oper} {o : Oper} {a : Act} {w : World} {K : Act → World → Prop} {Q : Exit → Act → World → Prop} {E : Prop} (hgd : o.guard = none) (s x : Operand)
 (ho : o.op = .call { callee := .builtin .append, args := #[s, x], argTypes := #[34, 3] }) {base n : Nat} {v : Value} {pre : List UInt8} (k : Nat)
 (hs : a.eval s = v) (hown : w.ownsRow base 5 1 v n (cellsOf pre)) (hx : a.eval x = .int .i64 (k : Int)) (h0 : 0 < k) (h47 : n + k ≤ 70368744177664) (hbase : base ≤ w.heap.size)
 (hK : ∀ v' w', w'.ownsRow base 5 1 v' (n + k) (cellsOf (pre ++ zerosOf k)) → w.grownBy w' v.ownBlock → (v'.ownBlock = v.ownBlock ∨ ∃ g, v'.ownBlock = some g ∧ w.heap.size ≤ g) → K (a.put o.dst v') w') :
 if Region.wanted o (yielded ops a.tmps) = true then Oper.wp Tryz.prog o a w K Q else E := by
 have hw : Region.wanted o (yielded ops a.tmps) = true := by simp [Region.wanted, hgd]
 rw [if_pos hw]
 obtain ⟨v', w', hr, h1, h2, h3⟩ := run_append_zeros_own o.type hown k h0 h47 hbase
 unfold Oper.wp execOp
 simp only [ho, resolve, invoke, builtin, Sem.run_bind, Sem.run_pure, Result.andThen_ok, List.map_toArray, List.map_cons, List.map_nil, hs, hx, hr]
 exact hK v' w' h1 h2 h3

theorem undrew {w w2 : World} {row : Option Nat} (h : w.drew.grownBy w2 row) : w.grownBy w2 row := ⟨h.os, h.tape, h.output, h.size, h.block⟩
/-- What the statement that makes room leaves. -/
def Grew (B : Nat) (w0 : World) (p n r : Nat) (raw : List UInt8) (v : Value) (wx : World) : Prop :=
 ∃ g c2 w2, w2.ownsRow B 5 1 (.slice (some ⟨g, 0, none⟩) (n + r) c2) (n + r) (cellsOf (raw ++ zerosOf r)) ∧ w0.grownBy w2 v.ownBlock ∧ (v.ownBlock = some g ∨ w0.heap.size ≤ g) ∧ wx = w2.setCell ⟨p, 1, none⟩ (.slice (some ⟨g, 0, none⟩) (n + r) c2)

/-- Behind the assignment of a round. -/
def LayA (w5 : World) (g bf bt c2 tot : Nat) (raw : List UInt8) (ps : List (Fr × Value)) (T : Nat → Nat → Array Value) (k : Nat) (a' : Act) (W : World) : Prop :=
 LayI w5 g bf bt c2 tot raw ps k W ∧ ∃ Bx, w5.heap.size + 1 < Bx ∧ W.heap[Bx]? = some (.cells #[.int .u64 ((frAt ps k).1.tag : Int), .int .i64 ((frAt ps k).1.place : Int), .int .i64 ((frAt ps k).1.before : Int), (frAt ps k).2] 162 (0, 0)) ∧ a' = { tmps := T k Bx, defers := [] }

/-- What lay leaves. -/
def LayTo (B : Nat) (w : World) (p : Nat) (S : Nat → Prop) (made : Bool) (s : Ws) (e : Ending) (w' : World) : Prop :=
 (∃ v, e = .returned v) ∧ ∃ S', Wr B w' p S' made s.lay ∧ (∀ k, S' k → S k ∨ w.heap.size ≤ k) ∧ Touch S w w'

set_option maxHeartbeats 4000000 in
theorem lay_any {B p : Nat} {S : Nat → Prop} {made : Bool} {s : Ws} {w : World} (h : Wr B w p S made s) (hasc : Asc s.raw.length s.fs) (hroom : s.room = headSum s.fs) (h0 : 0 < s.room) (hne : s.fs ≠ []) (hbig : s.raw.length + s.room ≤ 70368744177664) (hfs : s.fs.length ≤ 1099511627776) :
 Calls Tryz.prog 144 #[.pointer (some ⟨p, 0, none⟩)] w (LayTo B w p S made s) := by
 obtain ⟨vb, vf, vo, ps, h⟩ := h
 have HH := Lib.hid h
 have hB : B ≤ w.heap.size := by have := h.lt p h.sp; omega
 obtain ⟨Ab, capb, hvb, hb1, hb2, _, _⟩ := own_form h.raw
 obtain ⟨n, hn⟩ : ∃ n, n = s.raw.length := ⟨_, rfl⟩
 obtain ⟨r, hr⟩ : ∃ r, r = s.room := ⟨_, rfl⟩
 have hraw := h.raw
 have hobj := h.obj
 rw [← hr] at h0 hbig hroom hobj
 rw [← hn] at hvb hb1 hbig hraw hasc
 subst hvb
 have hpl : p < w.heap.size := (h.lt p h.sp).2
 have HP := Lib.hid hobj
 have c1 := obj_cell hobj 1
 have c4 := obj_cell hobj 4
 have f1 := obj_free hobj 1
 have HRAW := Lib.hid hraw
 have HN := Lib.hid hn
 have HR := Lib.hid hr
 have HA := Lib.hid hasc
 have HRO := Lib.hid hroom
 have HNE := Lib.hid hne
 clear h hobj hraw hn hr hasc hroom hne
 unfold maxLen at hb2
 refine callsIn_wide.1 (callsIn_of_wp_marks (n := 9) Tryz.func144 rfl trivial ?_ rfl)
 simp only [Tryz.ntmps144, List.size_toArray, List.length_cons, List.length_nil, Nat.reduceAdd, Nat.reduceSub, Array.replicate_succ, Array.replicate_zero, List.push_toArray, List.append_toArray, List.nil_append, List.cons_append]
 refine wpIn_wide.2 ?_
 go_wp2
 obtain ⟨w0, hw0⟩ : ∃ w0, w0 = (w.alloc (.cells #[.pointer (some ⟨p, 0, none⟩)] 70)).alloc (.cells #[.int .i64 (n : Int)] 3) := ⟨_, rfl⟩
 have hw0s : w0.heap.size = w.heap.size + 2 := by rw [hw0]; simp
 have B0 : w0.heap[w.heap.size]? = some (.cells #[.pointer (some ⟨p, 0, none⟩)] 70 (0, 0)) := by rw [hw0]; exact (Below.heap_alloc _ _ _ (by simp)).trans (heap_alloc_new w _)
 have B1 : w0.heap[w.heap.size + 1]? = some (.cells #[.int .i64 (n : Int)] 3 (0, 0)) := by rw [hw0]; have := heap_alloc_new (w.alloc (.cells #[.pointer (some ⟨p, 0, none⟩)] 70)) (.cells #[.int .i64 (n : Int)] 3); rwa [World.size_alloc] at this
 have hbel : Below w.heap.size w w0 := by rw [hw0]; exact ((Below.refl _ w).alloc (Nat.le_refl _) _).alloc (by simp) _
 rw [← hw0]
 clear hw0
 have hW : WrAt B w0 p S made s (.slice Ab n capb) vf vo ps := HH.out.keep (fun k hk => hbel.block k (HH.out.lt k hk).2) hbel.size
 have hS : ∀ k, S k → k < w.heap.size := fun k hk => (HH.out.lt k hk).2
 have b0 := obj_cell B0 0
 have d1 := (hbel.cell (p := ⟨p, 1, none⟩) hpl).trans c1
 have d4 := (hbel.cell (p := ⟨p, 4, none⟩) hpl).trans c4
 have e1 := (hbel.frozen (p := ⟨p, 1, none⟩) hpl).trans f1
 have HW := Lib.hid hW
 have HB0 := Lib.hid B0
 have HB1 := Lib.hid B1
 have HBEL := Lib.hid hbel
 have HS := Lib.hid hS
 have HWS := Lib.hid hw0s
 clear hW B0 B1 hbel hS hw0s c1 c4 f1
 go_cut [] from 11 to 22 (fun wx => Grew B w0 p n r s.raw (.slice Ab n capb) wx)
 case first =>
  refine wp_region_noPanic ?_
  go_region_law (first
   | (refine step_append_zeros (by rfl) _ _ (by rfl) r (by rfl) (show w0.ownsRow B 5 1 (.slice Ab n capb) n (cellsOf s.raw) from by have := HW.out.raw; rwa [← HN.out] at this) (by rfl) h0 hbig (show B ≤ w0.heap.size from by have := HWS.out; omega) ?_
      intro v2 w2 hown2 hg2 hv2
      obtain ⟨g, c2, rfl, q1, q2, q3, q4⟩ := own_pos hown2 (by omega)
      have hp2 : w2.heap[p]? = some _ := (hg2.block p (show p < w0.heap.size from by have := HWS.out; omega) (fun e => own_other HW.out.raw HW.out.obj (by decide) e.symm)).trans HW.out.obj
      have c12 := obj_cell hp2 1
      have f12 := obj_free hp2 1
      have b2 := obj_cell ((hg2.block w.heap.size (show w.heap.size < w0.heap.size from by have := HWS.out; omega) (fun e => own_other HW.out.raw HB0.out (by decide) e.symm)).trans HB0.out) 0
      have HP2 := Lib.hid hp2
      clear hp2))
  all_goals
   refine NoPanic.normal ?_
   go_wp2_with fail
   go_meet
   case rel => exact ⟨g, c2, w2, hown2, undrew hg2, by rcases hv2 with e | ⟨g', e, hl⟩; exact .inl e.symm; (cases e; exact .inr hl), rfl⟩
 case rest =>
  obtain ⟨g, c2, w2, hown2, hg2, hv2, rfl⟩ := hcut
  obtain ⟨gf, cf, hvf, q5, q6, q7, q8⟩ := own_pos HW.out.row (by have := HW.out.fs; have := HNE.out; cases ps with | nil => simp_all | cons a l => simp)
  subst hvf
  obtain ⟨hc2, hc2m⟩ := own_cap hown2
  unfold maxLen at hc2m
  have hpl0 : p < w0.heap.size := by have := HWS.out; omega
  have hs2 := hg2.size
  have hp2 : w2.heap[p]? = some _ := (hg2.block p hpl0 (fun e => own_other HW.out.raw HW.out.obj (by decide) e.symm)).trans HW.out.obj
  have hp3 := obj_set hp2 1 (.slice (some ⟨g, 0, none⟩) (n + r) c2)
  rw [← HR.out] at hp3
  have hb2' := (hg2.block w.heap.size (show w.heap.size < w0.heap.size from by have := HWS.out; omega) (fun e => own_other HW.out.raw HB0.out (by decide) e.symm)).trans HB0.out
  have hgp : g ≠ p := fun e => own_other hown2 (e ▸ hp2) (by decide) rfl
  obtain ⟨w3, hw3⟩ : ∃ w3, w3 = w2.setCell ⟨p, 1, none⟩ (.slice (some ⟨g, 0, none⟩) (n + r) c2) := ⟨_, rfl⟩
  rw [← hw3] at hp3 ⊢
  have hs3 : w3.heap.size = w2.heap.size := by rw [hw3]; simp [World.setCell]
  have hb3 : w3.heap[w.heap.size]? = some (.cells #[.pointer (some ⟨p, 0, none⟩)] 70 (0, 0)) := by rw [hw3]; exact (heap_setCell_other w2 _ _ _ (by show w.heap.size ≠ p; omega)).trans hb2'
  have t1 := obj_cell hp3 1
  have t2 := obj_cell hp3 2
  have t0 := obj_cell hb3 0
  simp only [List.getElem?_toArray, List.setIfInBounds_toArray, List.set_cons_succ, List.set_cons_zero, List.getElem?_cons_succ, List.getElem?_cons_zero] at t1 t2 t0
  have hps3 : p < w3.heap.size := by omega
  have hbs3 : w.heap.size < w3.heap.size := by have := HWS.out; omega
  have HP3 := Lib.hid hp3
  have HB3 := Lib.hid hb3
  have HOW2 := Lib.hid hown2
  have HG2 := Lib.hid hg2
  have HV2 := Lib.hid hv2
  have HW3 := Lib.hid hw3
  have HGP := Lib.hid hgp
  have hbf2 := (hg2.block (w.heap.size + 1) (show w.heap.size + 1 < w0.heap.size from by have := HWS.out; omega) (fun e => own_other HW.out.raw HB1.out (by decide) e.symm)).trans HB1.out
  have hbf3 : w3.heap[w.heap.size + 1]? = some (.cells #[.int .i64 (n : Int)] 3 (0, 0)) := by rw [hw3]; exact (heap_setCell_other w2 _ _ _ (by show w.heap.size + 1 ≠ p; omega)).trans hbf2
  have HBF3 := Lib.hid hbf3
  have HS23 := Lib.hid hs3
  have HS2 := Lib.hid hs2
  clear hp3 hb3 hown2 hg2 hv2 hw3 hgp hp2 hb2' hbf2 hbf3 b0 d1 d4 e1 hs3 hs2
  go_wp2_with (go_at_call 156; refine (backward_any _ _ _ _).mono ?_; rintro e w' ⟨rfl, rfl⟩)
  obtain ⟨w5, hw5⟩ : ∃ w5, w5 = (w3.alloc (.cells #[.int .i64 ((n : Int) + (r : Int))] 3)).alloc (.cells #[.slice (some ⟨gf, 0, none⟩) ps.length cf] 110) := ⟨_, rfl⟩
  rw [← hw5]
  have hs5 : w5.heap.size = w3.heap.size + 2 := by rw [hw5]; simp
  have hb35 : Below w3.heap.size w3 w5 := by rw [hw5]; exact ((Below.refl _ _).alloc (Nat.le_refl _) _).alloc (by simp) _
  have Bt : w5.heap[w3.heap.size]? = some (.cells #[.int .i64 ((n + r : Nat) : Int)] 3 (0, 0)) := by rw [hw5, Int.natCast_add]; exact (Below.heap_alloc _ _ _ (by simp)).trans (heap_alloc_new w3 _)
  have Bsl : w5.heap[w3.heap.size + 1]? = some (.cells #[.slice (some ⟨gf, 0, none⟩) ps.length cf] 110 (0, 0)) := by rw [hw5]; have := heap_alloc_new (w3.alloc (.cells #[.int .i64 ((n : Int) + (r : Int))] 3)) (.cells #[.slice (some ⟨gf, 0, none⟩) ps.length cf] 110); rwa [World.size_alloc] at this
  have Bp := (hb35.block p hps3).trans HP3.out
  have Bw := (hb35.block _ hbs3).trans HB3.out
  have Bf := (hb35.block (w.heap.size + 1) (obj_lt HBF3.out)).trans HBF3.out
  have HBt := Lib.hid Bt
  have HBsl := Lib.hid Bsl
  have HBp := Lib.hid Bp
  have HBw := Lib.hid Bw
  have HBf := Lib.hid Bf
  have HW5 := Lib.hid hw5
  have HS5 := Lib.hid hs5
  have H35 := Lib.hid hb35
  have hg2lt := (HOW2.out.lt g rfl).2
  have hgg0 : g < w.heap.size ∨ w0.heap.size ≤ g := by
   rcases HV2.out with e | e
   ·exact .inl (HS.out g (HW.out.sb g e))
   ·exact .inr e
  have HLT : Hid (g < w5.heap.size ∧ w.heap.size + 1 < w5.heap.size ∧ w3.heap.size < w5.heap.size) := by
   show _ ∧ _ ∧ _
   have := HS23.out
   have := obj_lt HBF3.out
   omega
  have HNB : Hid (¬ (w3.heap.size + 1 = g ∨ w3.heap.size + 1 = w.heap.size + 1 ∨ w3.heap.size + 1 = w3.heap.size)) := by
   show ¬ _
   have := HS23.out
   have := obj_lt HBF3.out
   omega
  have hrow2 : w2.ownsRow B 162 4 (.slice (some ⟨gf, 0, none⟩) ps.length cf) ps.length (frRow ps) := own_block HW.out.row (fun k e => HG2.out.block k (by have := HW.out.lt k (HW.out.sf k e); omega) (fun e' => own_own HW.out.raw HW.out.row (by decide) e e'.symm))
  have hgfp : gf ≠ p := fun e => own_other HW.out.row HW.out.obj (by decide) (by rw [e]; rfl)
  have hrow3 : w3.ownsRow B 162 4 (.slice (some ⟨gf, 0, none⟩) ps.length cf) ps.length (frRow ps) := own_block hrow2 (fun k e => by cases e; rw [HW3.out]; exact heap_setCell_other w2 ⟨p, 1, none⟩ gf _ hgfp)
  have hgf2 : gf < w2.heap.size := (hrow2.lt gf rfl).2
  have HGF : Hid (gf < w5.heap.size ∧ ¬ (gf = g ∨ gf = w.heap.size + 1 ∨ gf = w3.heap.size) ∧ w5.ownsRow B 162 4 (.slice (some ⟨gf, 0, none⟩) ps.length cf) ps.length (frRow ps)) := by
   show _ ∧ _ ∧ _
   have e1 := HS23.out
   refine ⟨by omega, fun h => ?_, own_block hrow3 (fun k e => by cases e; exact hb35.block gf (by omega))⟩
   rcases h with h | h | h
   ·exact own_own HOW2.out hrow2 (by decide) (k := gf) rfl (by rw [h]; rfl)
   ·exact own_other HW.out.row HB1.out (by decide) (by rw [h]; rfl)
   ·omega
  have HG25 : Hid (w5.heap[g]? = w2.heap[g]?) := by
   show _ = _
   refine (hb35.block g (by rw [HS23.out]; exact hg2lt)).trans ?_
   rw [HW3.out]
   exact heap_setCell_other w2 ⟨p, 1, none⟩ g _ HGP.out
  clear Bt Bsl Bp Bw Bf hw5 hs5 hb35 t0 t1 t2 hg2lt hgg0 hrow2 hgfp hrow3 hgf2
  refine wpIn_wide.1 (wpIn_rangeN (n := 9) (gf := 165) (lb := #[.pointer (some ⟨w3.heap.size + 1, 0, none⟩)]) rfl (enters_of Tryz.func165 (by kernel_rfl) rfl)
   (backward_seq (w3.heap.size + 1) gf cf ps ?hps) (fun _ => rfl) (LayI w5 g (w.heap.size + 1) w3.heap.size c2 (n + r) s.raw ps)
   (LayA w5 g (w.heap.size + 1) w3.heap.size c2 (n + r) s.raw ps (fun k Bx => #[Value.pointer (some ⟨p, 0, none⟩), Value.pointer (some ⟨w.heap.size, 0, none⟩), Value.pointer (some ⟨w.heap.size + 1, 0, none⟩), Value.pointer (some ⟨w3.heap.size, 0, none⟩), undef, Value.pointer (some ⟨Bx, 0, none⟩), Value.pointer (some ⟨p, 0, none⟩), Value.pointer (some ⟨p, 0, none⟩), Value.pointer (some ⟨p, 1, none⟩), Value.slice Ab n capb, Value.int IntKind.i64 (n : Int), u11, u12, u13, u14, u15, u16, u17, u18, u19, u20, u21, u22, Value.pointer (some ⟨p, 0, none⟩), Value.pointer (some ⟨p, 0, none⟩), Value.pointer (some ⟨p, 1, none⟩), Value.slice (some ⟨g, 0, none⟩) (n + r) c2, Value.int IntKind.i64 ((n : Int) + (r : Int)), Value.pointer (some ⟨p, 0, none⟩), Value.pointer (some ⟨p, 0, none⟩), Value.pointer (some ⟨p, 2, none⟩), Value.slice (some ⟨gf, 0, none⟩) ps.length cf, Value.func (Fn.func 165) #[] #[Value.pointer (some ⟨w3.heap.size + 1, 0, none⟩)], Value.int IntKind.i64 ((ps.length - 1 - k : Nat) : Int), frAgg (frAt ps k), undef, undef, undef, undef, undef, undef, undef, undef, undef, undef, undef, undef, undef, undef, undef, undef, undef, undef, undef, undef, undef, undef, undef, undef, undef, undef, undef, undef, undef, undef, undef, undef, undef, undef, undef, undef, undef, undef, undef, undef, undef, undef, undef]))
   ?hI ?hA ?hR ?h0 ?hassign ?hbody ?hdone)
  case hps => rw [← HW.out.fs, List.length_map] at hfs; exact hfs
  case hI => exact fun k W W' h hg => h.grown (HLT.out) (Nat.le_succ _) hg
  case hA =>
   rintro k a' W W' ⟨h1, Bx, h2, h3, h4⟩ hg
   exact ⟨h1.grown HLT.out (Nat.le_succ _) hg, Bx, h2, (hg.block Bx (obj_lt h3) (by intro e; cases e; omega)).trans h3, h4⟩
  case hR =>
   rintro k W ⟨ht, _⟩
   refine ⟨(World.cell?_of_block (a := ⟨w3.heap.size + 1, 0, none⟩) (ht.block (w3.heap.size + 1) (by have := HS5.out; omega) HNB.out)).trans (obj_cell HBsl.out 0), fun j u hu => ?_⟩
   exact (World.cell?_of_block (a := ⟨gf, j, none⟩) (ht.block gf HGF.out.1 HGF.out.2.1)).trans (own_cell HGF.out.2.2 (g := gf) rfl hu)
  case h0 =>
   obtain ⟨cur, y1, y2, y3⟩ := own_whole HOW2.out
   rw [Nat.mul_one] at y2 y3
   refine ⟨Touch.refl _ _, s.raw ++ zerosOf r, cur, n, n + r, ?_, HG25.out.trans y1, y2, y3, HBf.out, HBt.out⟩
   rw [Nat.sub_zero, List.take_of_length_le (Nat.le_refl _), List.drop_of_length_le (Nat.le_refl _), HW.out.fs, List.map_nil]
   have q := Buf.start s.raw s.fs (zerosOf r) (by rw [zerosOf, List.length_replicate]; exact HRO.out)
   rw [← HRO.out, ← HN.out] at q
   exact q
  case hassign =>
   intro k W hk hi hlt
   obtain ⟨Ah, ch, hv, _, _⟩ := HW.out.hd _ (frAt_mem hk)
   unfold frVals
   unfold frAgg
   generalize hq : frAt ps k = q at *
   obtain ⟨f, v⟩ := q
   dsimp only at hv
   subst hv
   have hi' := Lib.hid hi
   have hQ := Lib.hid hq
   clear hi hq
   gi_wp2
   refine ⟨⟨hi'.out.grown (i := w5.heap.size) ?_ (Nat.le_refl _) (World.grownBy_alloc _ _ _), W.heap.size, hlt, by rw [hQ.out]; exact heap_alloc_new W _, by dsimp only; rw [hQ.out]⟩, Below.heap_alloc _ _ _ hlt, Below.heap_alloc _ _ _ (by omega), by simp⟩
   exact HLT.out
  case hbody =>
   rintro k a' W hk ⟨⟨ht, b, cur, frm, to_, hbuf, hg, hcl, hct, hbf, hbt⟩, Bx, hBx, hcell, rfl⟩ hlt
   obtain ⟨Ah, ch, hv, hhb, hhs⟩ := HW.out.hd _ (frAt_mem hk)
   have e0 := frAt_take hk
   have e00 := frAt_drop hk
   have hasc : Asc s.raw.length ((frAt ps k).1 :: (ps.drop (ps.length - k)).map Prod.fst) := by
    have := Asc.drop (ps.length - (k + 1)) HA.out
    rw [HN.out] at this
    rwa [← HW.out.fs, ← List.map_drop, e00, List.map_cons] at this
   rw [e0, List.map_append, List.map_cons, List.map_nil] at hbuf
   obtain ⟨x1, x2, x3, x4, x5, hbuf'⟩ := hbuf.step hasc
   have hbl : b.length = n + r := by
    have := congrArg List.length hct
    rw [cellsOf_length, List.length_take] at this
    omega
   unfold frAgg
   generalize frAt ps k = q at *
   obtain ⟨f, v⟩ := q
   dsimp only at *
   subst hv
   have HBUF := Lib.hid hbuf'
   have E00 := Lib.hid e00
   obtain ⟨P, hP⟩ : ∃ P, P = f.place := ⟨_, rfl⟩
   obtain ⟨H, hH⟩ : ∃ H, H = f.head.length := ⟨_, rfl⟩
   obtain ⟨t1, ht1⟩ : ∃ t1, t1 = to_ - (frm - P) := ⟨_, rfl⟩
   obtain ⟨t2, ht2⟩ : ∃ t2, t2 = t1 - H := ⟨_, rfl⟩
   rw [← hP] at x1 x4 x5 hcell HBUF
   rw [← hH] at x4 hcell HBUF
   have e1 : (to_ : Int) - ((frm : Int) - (P : Int)) = (t1 : Int) := by omega
   have e2 : (t1 : Int) - (H : Int) = (t2 : Int) := by omega
   rw [hbl] at x3
   have y1 : t1 ≤ n + r := by omega
   have y2 : t2 ≤ n + r := by omega
   have y3 : P ≤ t2 := by omega
   have y4 : frm ≤ c2 := by omega
   have y5 : frm ≤ n + r := by omega
   have k1 := obj_cell hbt 0
   have k2 := obj_cell hbf 0
   have k3 := obj_cell hcell 1
   have k4 := obj_cell hcell 3
   have k5 := obj_free hbt 0
   have k6 := obj_free hbf 0
   have HT := Lib.hid ht
   have HG := Lib.hid hg
   have HCT := Lib.hid hct
   have HCL := Lib.hid hcl
   have HBFK := Lib.hid hbf
   have HBTK := Lib.hid hbt
   have HCELL := Lib.hid hcell
   have HPP := Lib.hid hP
   have HHH := Lib.hid hH
   have HT1 := Lib.hid ht1
   have HT2 := Lib.hid ht2
   have X5 := Lib.hid x5
   have HHB := Lib.hid hhb
   have HHS := Lib.hid hhs
   have HBL := Lib.hid hbl
   clear hbuf hbuf' e0 e00 hasc ht hg hct hcl hbf hbt hcell hP hH ht1 ht2 x5 hhb hhs hbl
   have hbtw : w3.heap.size = w2.heap.size := HS23.out
   have hsz2 := HS2.out
   have hsz0 := HWS.out
   have hsz5 := HS5.out
   have hg3 := (HOW2.out.lt g rfl).2
   have z1 : p ≠ g := fun e => HGP.out e.symm
   have hgg : g < w.heap.size ∨ w0.heap.size ≤ g := by
    rcases HV2.out with e | e
    ·exact .inl (HS.out g (HW.out.sb g e))
    ·exact .inr e
   have z2 : w.heap.size ≠ g := by omega
   have z3 : w.heap.size + 1 ≠ g := by omega
   have hWp := (HT.out.block p (by omega) (by omega)).trans HBp.out
   have hWw := (HT.out.block w.heap.size (by omega) (by omega)).trans HBw.out
   obtain ⟨W1, hW1⟩ : ∃ W1, W1 = W.setCell ⟨w3.heap.size, 0, none⟩ (.int .i64 (t1 : Int)) := ⟨_, rfl⟩
   have hoth : ∀ i, i ≠ w3.heap.size → W1.heap[i]? = W.heap[i]? := fun i hi => by rw [hW1]; exact heap_setCell_other W ⟨w3.heap.size, 0, none⟩ i _ hi
   have m1 := (hoth p (by omega)).trans hWp
   have m2 := (hoth w.heap.size (by omega)).trans hWw
   have m3 := (hoth (w.heap.size + 1) (by omega)).trans HBFK.out
   have m4 : W1.heap[w3.heap.size]? = some (.cells #[.int .i64 (t1 : Int)] 3 (0, 0)) := by rw [hW1]; exact obj_set HBTK.out 0 _
   have m5 := (hoth Bx (by omega)).trans HCELL.out
   have m6 := (hoth g (by omega)).trans HG.out
   have ms : W1.heap.size = W.heap.size := by rw [hW1]; simp [World.setCell]
   have a1 := obj_cell m1 1
   have a2 := obj_cell m2 0
   have a3 := obj_cell m3 0
   have a4 := obj_cell m4 0
   have a5 := obj_cell m5 1
   have M1 := Lib.hid m1
   have M2 := Lib.hid m2
   have M3 := Lib.hid m3
   have M4 := Lib.hid m4
   have M5 := Lib.hid m5
   have M6 := Lib.hid m6
   have MS := Lib.hid ms
   have MW1 := Lib.hid hW1
   have o2 : w.heap.size + 1 < w3.heap.size := by omega
   have o3 : g < w3.heap.size := by omega
   have o4 : w3.heap.size + 3 < Bx := by omega
   clear m1 m2 m3 m4 m5 m6 ms hoth hWp hWw hbtw hW1 hsz2 hsz0 hsz5
   gi_wp2
   rw [← MW1.out]
   clear k1 k2 k3 k4 k5 k6
   refine wpIn_region_still_tail 14 (by kernel_rfl) (by kernel_rfl) (by kernel_rfl) (fun ⟨_, _, h⟩ => h) ?_
   simp only [List.take_succ_cons, List.take_zero, List.drop_succ_cons, List.drop_zero]
   iterate 5 still_step
   refine still_cut_l rfl _ _ rfl rfl rfl rfl y1 hc2 ?_
   iterate 7 still_step
   refine still_cut_lh rfl _ _ _ rfl rfl rfl rfl rfl rfl x1 y4 ?_
   refine wpStill_nil ?_
   have hsegl : ((b.take frm).drop P).length = frm - P := by rw [List.length_drop, List.length_take, HBL.out]; omega
   refine wpList_copy_at rfl _ _ rfl _ _ _ _ _ _ rfl rfl g t1 cur (show W1.drew.heap[g]? = _ from M6.out) ((b.take frm).drop P) (by rw [hsegl]; have := HT1.out; exact (Nat.min_eq_left (by omega)).symm) (fun h0 => ?_) (by rw [hsegl]; have := HT1.out; have := HCL.out; omega) ?_
   ·rw [hsegl] at h0
    have := HT1.out
    exact ⟨cutAt_in (by omega), ⟨g, P, none⟩, cutAt_in (by omega), cells_cut (W := W1.drew) M6.out HCT.out y5⟩
   intro W2 HG2' hgr
   have n1 := (hgr.block p (obj_lt M1.out) (by intro e; cases e; omega)).trans M1.out
   have n2 := (hgr.block w.heap.size (obj_lt M2.out) (by intro e; cases e; omega)).trans M2.out
   have n3 := (hgr.block (w.heap.size + 1) (obj_lt M3.out) (by intro e; cases e; omega)).trans M3.out
   have n4 := (hgr.block w3.heap.size (obj_lt M4.out) (by intro e; cases e; omega)).trans M4.out
   have n5 := (hgr.block Bx (obj_lt M5.out) (by intro e; cases e; omega)).trans M5.out
   have b1 := obj_cell n1 1
   have b2 := obj_cell n2 0
   have b3 := obj_cell n3 0
   have b4 := obj_cell n4 0
   have b5 := obj_cell n5 1
   have b6 := obj_cell n5 3
   have b7 := obj_free n3 0
   have b8 := obj_free n4 0
   have N1 := Lib.hid n1
   have N2 := Lib.hid n2
   have N3 := Lib.hid n3
   have N4 := Lib.hid n4
   have N5 := Lib.hid n5
   have HGR := Lib.hid hgr
   have HSEG := Lib.hid hsegl
   clear n1 n2 n3 n4 n5 hgr hsegl a1 a2 a3 a4 a5
   obtain ⟨W3, hW3⟩ : ∃ W3, W3 = (W2.setCell ⟨w.heap.size + 1, 0, none⟩ (.int .i64 (P : Int))).setCell ⟨w3.heap.size, 0, none⟩ (.int .i64 (t2 : Int)) := ⟨_, rfl⟩
   have hoth : ∀ i, i ≠ w3.heap.size → i ≠ w.heap.size + 1 → W3.heap[i]? = W2.heap[i]? := fun i h1 h2 => by rw [hW3]; exact (heap_setCell_other _ ⟨w3.heap.size, 0, none⟩ i _ h1).trans (heap_setCell_other _ ⟨w.heap.size + 1, 0, none⟩ i _ h2)
   have n1 := (hoth p (by omega) (by omega)).trans N1.out
   have n2 := (hoth w.heap.size (by omega) (by omega)).trans N2.out
   have n3 : W3.heap[w.heap.size + 1]? = some (.cells #[.int .i64 (P : Int)] 3 (0, 0)) := by rw [hW3]; exact (heap_setCell_other _ ⟨w3.heap.size, 0, none⟩ _ _ (by show _ ≠ w3.heap.size; omega)).trans (obj_set N3.out 0 _)
   have n4 : W3.heap[w3.heap.size]? = some (.cells #[.int .i64 (t2 : Int)] 3 (0, 0)) := by rw [hW3]; exact obj_set ((heap_setCell_other _ ⟨w.heap.size + 1, 0, none⟩ _ _ (by show _ ≠ w.heap.size + 1; omega)).trans N4.out) 0 _
   have n5 := (hoth Bx (by omega) (by omega)).trans N5.out
   have n6 := (hoth g (by omega) (by omega)).trans HG2'.out
   have c31 := obj_cell n1 1
   have c32 := obj_cell n2 0
   have c34 := obj_cell n4 0
   have c35 := obj_cell n5 3
   have R1 := Lib.hid n1
   have R2 := Lib.hid n2
   have R3 := Lib.hid n3
   have R4 := Lib.hid n4
   have R5 := Lib.hid n5
   have R6 := Lib.hid n6
   have RW := Lib.hid hW3
   clear n1 n2 n3 n4 n5 n6 hoth hW3
   change Exit.then _ _ Exit.normal _ _
   gi_wp2
   rw [← RW.out]
   clear b1 b2 b3 b4 b5 b6 b7 b8
   refine wpIn_region_still_tail 8 (by kernel_rfl) (by kernel_rfl) (by kernel_rfl) (fun ⟨_, _, h⟩ => h) ?_
   simp only [List.take_succ_cons, List.take_zero, List.drop_succ_cons, List.drop_zero]
   iterate 5 still_step
   refine still_cut_l rfl _ _ rfl rfl rfl rfl y2 hc2 ?_
   iterate 2 still_step
   refine wpStill_nil ?_
   have hchain : ∀ i, i ≠ g → i ≠ w.heap.size + 1 → i ≠ w3.heap.size → i < W.heap.size → W3.heap[i]? = W.heap[i]? := fun i h1 h2 h3 h4 => by
    have q1 : W3.heap[i]? = W2.heap[i]? := by rw [RW.out]; exact (heap_setCell_other _ ⟨w3.heap.size, 0, none⟩ i _ h3).trans (heap_setCell_other _ ⟨w.heap.size + 1, 0, none⟩ i _ h2)
    have q2 : W2.heap[i]? = W1.heap[i]? := HGR.out.block i (by show i < W1.heap.size; rw [MS.out]; exact h4) (by intro e; cases e; exact h1 rfl)
    have q3 : W1.heap[i]? = W.heap[i]? := by rw [MW1.out]; exact heap_setCell_other W ⟨w3.heap.size, 0, none⟩ i _ h3
    exact q1.trans (q2.trans q3)
   have hWs : W.heap.size ≤ W3.heap.size := by
    have q2 : W1.heap.size ≤ W2.heap.size := HGR.out.size
    rw [MS.out] at q2
    rw [RW.out]
    simpa [World.setCell] using q2
   have hhb3 : Bs W3.drew Ah ch f.head := by
    refine Bs.heap HHB.out fun a ha => ?_
    obtain ⟨s1, s2⟩ := HHS.out a ha
    have s3 := HS.out _ s1
    have s4 : a.block ≠ g := fun e => by
     rcases HV2.out with q | q
     ·exact s2 (.inr (.inl (e ▸ q)))
     ·have := HWS.out; omega
    have s5 : a.block < w3.heap.size := by omega
    have s6 : a.block < w5.heap.size := by have := HS5.out; omega
    have q1 := hchain a.block s4 (by omega) (by omega) (by have := HT.out.size; omega)
    have q2 := HT.out.block a.block s6 (by omega)
    have q3 := H35.out.block a.block s5
    have q4 : w3.heap[a.block]? = w2.heap[a.block]? := by rw [HW3.out]; exact heap_setCell_other w2 ⟨p, 1, none⟩ _ _ (fun e => s2 (.inl e))
    have q5 := HG2.out.block a.block (by have := HWS.out; omega) (fun e => s2 (.inr (.inl e.symm)))
    exact q1.trans (q2.trans (q3.trans (q4.trans q5)))
   refine wpList_copy_at rfl _ _ rfl _ _ _ _ _ _ rfl rfl g t2 (splice cur t1 (cellsOf ((b.take frm).drop P))) (show W3.drew.heap[g]? = _ from R6.out) f.head (by have := HHH.out; have := HT2.out; have := HT1.out; rw [← HHH.out]; exact (Nat.min_eq_left (by omega)).symm) (fun h0 => ?_) ?_ ?_
   ·have := HT1.out
    have := HT2.out
    have := HHH.out
    exact ⟨cutAt_in (by omega), cells_bs hhb3 h0⟩
   ·rw [length_splice _ _ _ (by rw [cellsOf_length, HSEG.out, HCL.out]; have := HT1.out; omega), HCL.out]
    have := HT1.out
    have := HT2.out
    have := HHH.out
    omega
   intro W4 HG4 hgr4
   show LayI w5 g (w.heap.size + 1) w3.heap.size c2 (n + r) s.raw ps (k + 1) W4 ∧ W4.heap[w5.heap.size + 1]? = W.heap[w5.heap.size + 1]? ∧ W4.heap[w5.heap.size]? = W.heap[w5.heap.size]? ∧ W.heap.size ≤ W4.heap.size
   have hch4 : ∀ i, i ≠ g → i ≠ w.heap.size + 1 → i ≠ w3.heap.size → i < W.heap.size → W4.heap[i]? = W.heap[i]? := fun i h1 h2 h3 h4 =>
    (hgr4.block i (by show i < W3.heap.size; omega) (by intro e; cases e; exact h1 rfl)).trans (hchain i h1 h2 h3 h4)
   have hs5 := HS5.out
   have hs4 : W3.heap.size ≤ W4.heap.size := hgr4.size
   refine ⟨⟨?_, splice (splice b t1 ((b.take frm).drop P)) t2 f.head, splice (splice cur t1 (cellsOf ((b.take frm).drop P))) t2 (cellsOf f.head), P, t2, ?_, HG4.out, ?_, ?_, ?_, ?_⟩, hch4 _ (by omega) (by omega) (by omega) (by omega), hch4 _ (by omega) (by omega) (by omega) (by omega), by omega⟩
   ·have u1 : Touch (fun i => i = g ∨ i = w.heap.size + 1 ∨ i = w3.heap.size) W W1 := by rw [MW1.out]; exact (Touch.refl _ _).set (q := ⟨w3.heap.size, 0, none⟩) (.inl (.inr (.inr rfl))) _
    have u2 : Touch (fun i => i = g ∨ i = w.heap.size + 1 ∨ i = w3.heap.size) W W2 := u1.drew.grown HGR.out (fun j e => by cases e; exact .inl (.inl rfl))
    have u3 : Touch (fun i => i = g ∨ i = w.heap.size + 1 ∨ i = w3.heap.size) W W3 := by rw [RW.out]; exact (u2.set (q := ⟨w.heap.size + 1, 0, none⟩) (.inl (.inr (.inl rfl))) _).set (q := ⟨w3.heap.size, 0, none⟩) (.inl (.inr (.inr rfl))) _
    exact HT.out.trans (u3.drew.grown hgr4 (fun j e => by cases e; exact .inl (.inl rfl))) (fun i h => .inl h)
   ·have q := HBUF.out
    rw [← HT1.out, ← HT2.out] at q
    rw [E00.out]
    exact q
   ·rw [length_splice _ _ _ (by rw [length_splice _ _ _ (by rw [cellsOf_length, HSEG.out, HCL.out]; have := HT1.out; omega), cellsOf_length, HCL.out, ← HHH.out]; have := HT1.out; have := HT2.out; omega), length_splice _ _ _ (by rw [cellsOf_length, HSEG.out, HCL.out]; have := HT1.out; omega), HCL.out]
   ·have l1 : (splice cur t1 (cellsOf ((b.take frm).drop P))).length = c2 := by rw [length_splice _ _ _ (by rw [cellsOf_length, HSEG.out, HCL.out]; have := HT1.out; omega), HCL.out]
    exact splice_cells (splice_cells HCT.out (by rw [HCL.out]; exact hc2) (by rw [HSEG.out]; have := HT1.out; omega)) (by rw [l1]; exact hc2) (by rw [← HHH.out]; have := HT1.out; have := HT2.out; omega)
   ·exact (hgr4.block _ (obj_lt R3.out) (by intro e; cases e; omega)).trans R3.out
   ·exact (hgr4.block _ (obj_lt R4.out) (by intro e; cases e; omega)).trans R4.out
  case hdone =>
   rintro W ⟨ht, b, cur, frm, to_, hbuf, hg, hcl, hct, hbf, hbt⟩ hD
   have hps3' := HS23.out
   have hsw := HWS.out
   have hsw2 := HS2.out
   have hs5 := HS5.out
   have hl := HLT.out
   have hpw := (ht.block p (by omega) (fun e => by rcases e with e | e | e; exact HGP.out e.symm; omega; omega)).trans HBp.out
   have hww := (ht.block w.heap.size (by omega) (fun e => by
    rcases e with e | e | e
    ·rcases HV2.out with q | q
     ·have := HS.out g (HW.out.sb g q); omega
     ·omega
    ·omega
    ·omega)).trans HBw.out
   have p2 := obj_cell hpw 2
   have p4 := obj_cell hpw 4
   have f2 := obj_free hpw 2
   have f4 := obj_free hpw 4
   have w0c := obj_cell hww 0
   have HPW := Lib.hid hpw
   have HD := Lib.hid hD
   have HTT := Lib.hid ht
   have HBUF := Lib.hid hbuf
   have HGG := Lib.hid hg
   have HCL := Lib.hid hcl
   have HCT := Lib.hid hct
   have hpp : p < W.heap.size := obj_lt hpw
   have HEND : Hid (∃ S', Wr B ((((W.setCell ⟨p, 2, none⟩ (.slice none 0 0)).setCell ⟨p, 4, none⟩ (.int .i64 0)).drew).putObj w5.heap.size (.deferred none)) p S' made s.lay ∧ (∀ k, S' k → S k ∨ w.heap.size ≤ k) ∧
    Touch S w ((((W.setCell ⟨p, 2, none⟩ (.slice none 0 0)).setCell ⟨p, 4, none⟩ (.int .i64 0)).drew).putObj w5.heap.size (.deferred none))) := by
    show ∃ S', _
    obtain ⟨Wf, hWf⟩ : ∃ Wf, Wf = ((((W.setCell ⟨p, 2, none⟩ (.slice none 0 0)).setCell ⟨p, 4, none⟩ (.int .i64 0)).drew).putObj w5.heap.size (.deferred none)) := ⟨_, rfl⟩
    rw [← hWf]
    have hfsz : Wf.heap.size = W.heap.size := by rw [hWf]; simp [World.setCell, World.drew]
    have hWW := ht.size
    have hoth : ∀ i, i ≠ p → i ≠ w5.heap.size → Wf.heap[i]? = W.heap[i]? := fun i h1 h2 => by
     rw [hWf, World.putObj_heap_other h2]
     exact (heap_setCell_other _ ⟨p, 4, none⟩ i _ h1).trans (heap_setCell_other _ ⟨p, 2, none⟩ i _ h1)
    have hfp : Wf.heap[p]? = some (.cells #[.bool made, .slice (some ⟨g, 0, none⟩) (n + r) c2, .slice none 0 0, vo, .int .i64 ((0 : Nat) : Int)] 112 (0, 0)) := by
     rw [hWf, World.putObj_heap_other (by omega)]
     exact (obj_set (obj_set hpw 2 (.slice none 0 0)) 4 (.int .i64 0)).trans rfl
    have hgfin : Wf.heap[g]? = some (.cells cur.toArray 5 (0, 0)) := (hoth g HGP.out (by omega)).trans hg
    have hlay : b = s.lay.raw := by
     have q := hbuf
     rw [Nat.sub_self, List.take_zero, List.drop_zero, HW.out.fs, List.map_nil] at q
     exact q.stop
    have hbl : b.length = n + r := by
     have := congrArg List.length hct
     rw [cellsOf_length, List.length_take] at this
     omega
    -- what is left of the old world
    have hold : ∀ i, i < w.heap.size → i ≠ p → i ≠ g → (Value.slice Ab n capb).ownBlock ≠ some i → Wf.heap[i]? = w.heap[i]? := fun i h1 h2 h3 h4 => by
     have q0 := HBEL.out.block i h1
     have q1 := HG2.out.block i (by omega) (fun e => h4 e.symm)
     have q2 : w3.heap[i]? = w2.heap[i]? := by rw [HW3.out]; exact heap_setCell_other w2 ⟨p, 1, none⟩ i _ h2
     have q3 := H35.out.block i (by omega)
     have q4 := ht.block i (by omega) (by omega)
     have q5 := hoth i h2 (by omega)
     exact q5.trans (q4.trans (q3.trans (q2.trans (q1.trans q0))))
    have hvo : Wf.ownsRow B 3 1 vo s.op.length (ints s.op) := own_block HH.out.op (fun k e => hold k (HS.out k (HH.out.so k e)) (fun e' => own_other HH.out.op HH.out.obj (by decide) (e' ▸ e)) (fun e' => by
     have a1 := own_block HH.out.op (w' := w2) (fun k' e2 => (HG2.out.block k' (by have := HS.out k' (HH.out.so k' e2); omega) (fun e3 => own_own HH.out.raw HH.out.op (by decide) e2 e3.symm)).trans (HBEL.out.block k' (HS.out k' (HH.out.so k' e2))))
     exact own_own HOW2.out a1 (by decide) e (by rw [e']; rfl)) (own_own HH.out.raw HH.out.op (by decide) e))
    have hSg : S g ∨ w.heap.size ≤ g := by
     rcases HV2.out with q | q
     ·exact .inl (HW.out.sb g q)
     ·exact .inr (by omega)
    refine ⟨fun k => S k ∨ (w.heap.size ≤ k ∧ k < Wf.heap.size), ⟨.slice (some ⟨g, 0, none⟩) (n + r) c2, .slice none 0 0, vo, [], ⟨hfp, ?_, World.ownsRow_nil _ _ _ _, hvo, rfl, (fun q hq => by cases hq), (.inl HH.out.sp), ?_, (fun k e => by cases e), (fun k e => .inl (HH.out.so k e)), ?_⟩⟩, (fun k hk => ?_), ?_⟩
    ·rw [← hlay, hbl]
     exact ⟨by rw [cellsOf_length, hbl, Nat.mul_one], .inr ⟨g, c2, cur.toArray, rfl, (HOW2.out.lt g rfl).1, hgfin, hc2, by unfold maxLen; exact hc2m, by simpa using hcl, by rw [Nat.mul_one]; exact hct⟩⟩
    ·intro k e
     cases e
     rcases hSg with q | q
     ·exact .inl q
     ·exact .inr ⟨q, obj_lt hgfin⟩
    ·intro k hk
     rcases hk with hk | hk
     ·exact ⟨(HH.out.lt k hk).1, by have := HS.out k hk; omega⟩
     ·exact ⟨by omega, hk.2⟩
    ·rcases hk with hk | hk
     ·exact .inl hk
     ·exact .inr hk.1
    ·have o1 : w0.os = w.os := HBEL.out.os
     have u1 : Touch S w w0 := Touch.of_below S HBEL.out
     have u2 : Touch S w w2 := u1.grown HG2.out (fun k e => .inl (HW.out.sb k e))
     have u3 : Touch S w w3 := by rw [HW3.out]; exact u2.set (q := ⟨p, 1, none⟩) (.inl HH.out.sp) _
     have u5 : Touch S w w5 := u3.then_below H35.out
     have u6 : Touch S w W := u5.trans ht (fun i hi => by
      rcases hi with rfl | rfl | rfl
      ·exact hSg
      ·exact .inr (Nat.le_succ _)
      ·exact .inr (by omega))
     have u7 := ((u6.set (q := ⟨p, 2, none⟩) (.inl HH.out.sp) (.slice none 0 0)).set (q := ⟨p, 4, none⟩) (.inl HH.out.sp) (.int .i64 0)).drew
     rw [hWf]
     exact u7.grown (grownBy_putObj' _ _ _) (fun k e => by cases e; exact .inr (by omega))
   clear hpw hww ht hbuf hg hcl hct hbf hbt hps3' hsw hsw2 hs5 hl hD
   go_wp2
   refine wp_region_noPanic ?_
   go_region_law (fail)
   all_goals
    refine NoPanic.normal ?_
    refine ⟨by simp, .inl ⟨_, _, rfl, run_takeDeferred (b := w5.heap.size) (ds := []) ?_, ?_⟩⟩
    ·exact (heap_setCell_other _ ⟨p, 4, none⟩ _ _ (by show w5.heap.size ≠ p; have := HS5.out; omega)).trans ((heap_setCell_other _ ⟨p, 2, none⟩ _ _ (by show w5.heap.size ≠ p; have := HS5.out; omega)).trans HD.out)
    ·exact ⟨_, results_none rfl _ _ _, ⟨_, rfl⟩, HEND.out⟩
end Go.Proofs.YtloheacncefkgaaGreatDoor
