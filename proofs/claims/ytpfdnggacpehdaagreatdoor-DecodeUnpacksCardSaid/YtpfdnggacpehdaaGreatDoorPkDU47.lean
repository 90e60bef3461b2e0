/- Several texts in one: PdK, PdL, PdM, PdN, PdO, PdP, PdQ, PdR, PdS, PdT, PdU, PdV. What each proves, and its conditions, stands at its own head. -/
import Derived.Test.YtpfdnggacpehdaaGreatDoorPkDU46
import Derived.Test.YtpfdnggacpehdaaGreatDoorPkDU21
import Derived.Deep.RegionHeld3
import Derived.Test.YtpfdnggacpehdaaGreatDoorPkDU37
/- The landed layer 22: a field laid into a tree. Conditions: those that each theorem names. -/
namespace Go.Proofs.YtpfdnggacpehdaaGreatDoor
open Go.RowKit
set_option linter.unusedVariables false
set_option maxRecDepth 100000

theorem putN_len1 {num : Int} {vals : List Va} : ∀ (l : List Slt), (putN num vals l).length = l.length + 1
  | [] => rfl
  | s :: l => by
    rw [putN]
    split
    · rfl
    · rw [List.length_cons, putN_len1 l, List.length_cons]
theorem withT_len1 (num : Int) (vals : List Va) (l : List Slt) : (withT num vals l).length ≤ l.length + 1 := by
  have := (dropN_sub num l).length_le
  unfold withT
  split
  · omega
  · rw [putN_len1]; omega
section
variable {K j : Nat} {w : World} {D : Nat → Prop} {g : Nat} {vs vr : Value} {E : Int → Nat → Prop} {x : Tr}
/-- A tree left in a later world. -/
def TreeTo (K j : Nat) (D : Nat → Prop) (w : World) (g : Nat) (x' : Tr) (w' : World) : Prop := ∃ D' vs' vr' E', OpT (MT K j) K D' w' g vs' vr' E' x' ∧ Touch D w w' ∧ ∀ b, D' b → D b ∨ w.heap.size ≤ b
theorem rest_append (h : OpT (MT K j) K D w g vs vr E x) (x0 : Rw) (hl : x.rest.length ≤ 100000) (ty : TypeId) :
    ∃ v' w', (Builtin.append_ #[31, 31] ty #[vr, .slice (some ⟨w.heap.size, 0, none⟩) 1 1]).run Tryz.prog (w.alloc (.cells #[.int .i64 x0.num, .int .i64 x0.wire, .int .u64 (x0.n : Int), .string (strOf x0.s)] 98)) = .ok v' w' ∧
      ((∃ A n c, v' = .slice A n c) ∧ Hid (TreeTo K j D w g (.mk x.slots (x.rest ++ [x0])) (w'.setCell ⟨g, 1, none⟩ v')) ∧ w'.cell? ⟨g, 1, none⟩ = some vr ∧ w'.frozen? ⟨g, 1, none⟩ = false) := by
  obtain ⟨i, i1, i2, i3, i4⟩ := info_ofs info_rws
  have hba : Below w.heap.size w (w.alloc (.cells #[.int .i64 x0.num, .int .i64 x0.wire, .int .u64 (x0.n : Int), .string (strOf x0.s)] 98)) := (Below.refl _ w).alloc (Nat.le_refl _) _
  obtain ⟨w1, hw1⟩ : ∃ w1, w1 = w.alloc (.cells #[.int .i64 x0.num, .int .i64 x0.wire, .int .u64 (x0.n : Int), .string (strOf x0.s)] 98) := ⟨_, rfl⟩
  have hnew := cells_new w #[.int .i64 x0.num, .int .i64 x0.wire, .int .u64 (x0.n : Int), .string (strOf x0.s)] 98
  rw [← hw1] at hba hnew ⊢
  have h1 := opT_bel hba h
  have hgb := h1.o_hd.h_blk
  obtain ⟨v', w', hr, ho, hg, hm⟩ := ownL_append (P := Tryz.prog) ty Tryz.underlying31 i1 i2 i3 i4 rfl (by decide) h1.o_rest (x := x0) (c := rawCells x0) rfl rfl (by intro u hu; simp [rawCells] at hu; rcases hu with rfl | rfl | rfl | rfl <;> rfl) (fun j z hz => hnew j z (by simpa [rawCells] using hz)) hl (by decide) h1.o_hd.h_base
  have hne : vr.ownBlock ≠ some g := by
    obtain ⟨_, _, _, d3⟩ := h1.o_rest
    exact own_other d3 hgb (by decide)
  have hb' : w'.heap[g]? = some (.cells #[vs, vr] 33 (0, 0)) := (hg.block g (lt_of_block hgb) (fun e => hne e.symm)).trans hgb
  have hne' : v'.ownBlock ≠ some g := by
    obtain ⟨_, _, _, d3⟩ := ho
    exact own_other d3 hb' (by decide)
  obtain ⟨A9, n9, c9, e9⟩ := ownL_slc ho
  refine ⟨v', w', hr, ⟨A9, n9, c9, e9⟩, Lib.hid ?_, obj_cell hb' 1, obj_free hb' 1⟩
  have hset : ∀ k, k ≠ g → (w'.setCell ⟨g, 1, none⟩ v').heap[k]? = w'.heap[k]? := fun k hk => Below.heap_setCell _ _ _ _ (by show k ≠ g; exact hk)
  have hkeep : ∀ b, D b → b ≠ g → vr.ownBlock ≠ some b → (w'.setCell ⟨g, 1, none⟩ v').heap[b]? = w.heap[b]? := fun b hb h2 h3 => by
    have hbl := (h.o_lt b hb).1
    rw [hset b h2, hg.block b (Nat.lt_of_lt_of_le hbl hba.size) (fun e => h3 e.symm), hba.block b hbl]
  have hsz : w.heap.size ≤ (w'.setCell ⟨g, 1, none⟩ v').heap.size := by
    have h2 := hba.size
    have h3 := hg.size
    simp [World.setCell]
    omega
  have hvs : ∀ b, vs.ownBlock = some b → (w'.setCell ⟨g, 1, none⟩ v').heap[b]? = w.heap[b]? := fun b hb => hkeep b (h.o_s b hb).1 (fun e => h.o_hd.ne (by rw [hb, e])) (fun e => by
    obtain ⟨_, _, _, c3⟩ := h.o_hd.h_row
    obtain ⟨_, _, _, d3⟩ := h.o_rest
    exact own_own c3 d3 (by decide) e hb)
  have hE : ∀ n b, E n b → (w'.setCell ⟨g, 1, none⟩ v').heap[b]? = w.heap[b]? := fun n b hb => hkeep b (h.o_E n b hb).1 (h.o_E n b hb).2 (fun e => (h.o_r b e).2 n hb)
  have hhd : HdT (slC (MT K j) (E2 E 0 (fun _ => False)) K (w'.setCell ⟨g, 1, none⟩ v')) K (w'.setCell ⟨g, 1, none⟩ v') g vs v' x.slots :=
    ⟨obj_set hb' 1 v', ownL_keep h.o_hd.h_row (fun c y hc => ms_stay h (fun b hb => hE y.snum b hb) hsz c y rfl hc) hvs, h.o_hd.h_rise, h.o_hd.h_len, Nat.le_trans h.o_hd.h_base hsz⟩
  have hm2 : Moved w vr v' := by
    rcases hm with e | ⟨q, e, hq⟩
    · exact .inl e
    · exact .inr ⟨q, e, Nat.le_trans hba.size hq⟩
  refine ⟨_, _, _, _, opT_re h hhd (ownL_keep ho (fun _ _ h => h) (fun k hk => hset k (fun e => hne' (by rw [hk, e])))) (.inl rfl) hm2 (fun b hb => hb.elim) hsz, ?_, fun b hb => ?_⟩
  · refine (((Touch.refl D w).then_below hba).grown hg (fun k hk => .inl (h.o_r k hk).1)).set (.inl h.o_g) _
  · rcases hb with hb | hb | hb | hb
    · exact .inl hb
    · exact hb.elim
    · exact .inl (h.o_s b hb).1
    · rcases hm2 with e | ⟨q, e, hq⟩
      · exact .inl (h.o_r b (by rw [← e]; exact hb)).1
      · rw [hb] at e
        cases e
        exact .inr hq
theorem putN_mem1 {num : Int} {vals : List Va} : ∀ l : List Slt, (⟨num, vals⟩ : Slt) ∈ putN num vals l
  | [] => by simp [putN]
  | s :: l => by
    rw [putN]
    split
    · simp
    · exact List.mem_cons_of_mem _ (putN_mem1 l)
/-- What set laid there. -/
def Rn (T : (Nat → Prop) → World → Nat → Tr → Prop) (E : Int → Nat → Prop) (K : Nat) (w : World) (num : Int) (B : Option Addr) (n d : Nat) (c : List Value) (y : Slt) : Prop := slC T E K w c y ∧ (y.snum = num → c = [.int .i64 num, .slice B n d])
/-- A slot made anew, by set. -/
theorem lay_ready {N : Nat → Prop} {w8 : World} {num : Int} {vals : List Va} {B : Option Addr} {n c : Nat} (h : OpT (MT K j) K D w g vs vr E x) (hs : w.heap.size ≤ w8.heap.size) (hk : ∀ b, D b → ¬ E num b → w8.heap[b]? = w.heap[b]?) (hN : ∀ b, N b → w.heap.size ≤ b ∧ b < w8.heap.size) (hn : n = vals.length)
    (hv : vals ≠ [] → MV (MT K j) (fun b => E num b ∨ N b) K w8 (.slice B n c) vals) (hl : x.slots.length ≤ 800) :
    Calls Tryz.prog 109 #[.pointer (some ⟨g, 0, none⟩), .int .i64 num, .slice B n c] w8 fun e w9 => e = .returned (.tuple #[]) ∧ ∃ D' vs' vr' E', OpT (MT K j) K D' w9 g vs' vr' E' (.mk (withT num vals x.slots) x.rest) ∧ Touch D w8 w9 ∧ (∀ b, D' b → D b ∨ N b ∨ w8.heap.size ≤ b) ∧ (vals ≠ [] → GotAt (slC (MT K j) E' K w9) num (withT num vals x.slots) B n c ∧ GotC w9 vs' num (withT num vals x.slots) B n c) := by
  refine (dset_any (R' := Rn (MT K j) (E2 E num N) K w8 num B n c) (shape_rx _ _ _ _ _) (lay_pre (N := N) (num := num) h hs hk) num hn (fun c y h hne => ⟨h.2 hne, fun e => absurd e hne⟩) (fun hv' => ⟨lay_new (hv hv'), fun _ => rfl⟩) (by have := withT_len1 num vals x.slots; omega)).mono ?_
  rintro e w9 ⟨rfl, vs1, hh, ht, hm⟩
  have h9 : SetTo (slC (MT K j) (E2 E num N) K w8) K w8 g vs vr (withT num vals x.slots) w9 := ⟨vs1, ⟨hh.h_blk, ownL_keep hh.h_row (fun c y h => h.1) (fun _ _ => rfl), hh.h_rise, hh.h_len, hh.h_base⟩, ht, hm⟩
  obtain ⟨vs', h1, h2, h3, h4⟩ := lay_post h hs (fun b hb => hk b (h.o_r b hb).1 ((h.o_r b hb).2 num)) hN h9
  refine ⟨rfl, _, _, _, _, h1, h2.mono (fun b hb => ?_), h3, fun hv' => ?_⟩
  · rcases hb with rfl | hb
    · exact h.o_g
    · exact (h.o_s b hb).1
  · have hmem : (⟨num, vals⟩ : Slt) ∈ withT num vals x.slots := by unfold withT; rw [if_neg hv']; exact putN_mem1 _
    obtain ⟨i, hi, e⟩ := List.mem_iff_getElem.mp hmem
    have hy : (withT num vals x.slots)[i]? = some (⟨num, vals⟩ : Slt) := by rw [List.getElem?_eq_getElem hi, e]
    obtain ⟨gs, _, cs, ev, _, _, _, hRc, hcc⟩ := ownL_at hh.h_row hy
    have e2 := hRc.2 rfl
    rw [e2] at hRc hcc
    have evs : vs' = vs1 := by
      have := h1.o_hd.h_blk.symm.trans hh.h_blk
      simp at this
      exact this
    exact ⟨.inl ⟨i, _, hy, rfl, getT_with num vals x.slots, h4 _ _ hRc.1⟩, i, _, gs, by rw [evs, ev]; rfl, hy, rfl, hcc 1 _ rfl⟩
/-- What is laid, the other fields of its oneof away. -/
def layP (f : Fd) (l : List Va) (sl : List Slt) : List Slt :=
  if f.rep = true then withT f.num (getT sl f.num ++ l) sl else withT f.num (if (hiddenT f && zerD (l.headD default).vn (l.headD default).vs) = true then [] else l) sl
def layQ (f : Fd) (o : Option (List Va)) (sl : List Slt) : List Slt × Int := match o with
  | none => (sl, 8)
  | some l => (layP f l sl, 0)
/-- Values laid behind those of a slot. -/
theorem rep_append {num : Int} {A : Option Addr} {n c : Nat} (h : OpT (MT K j) K D w g vs vr E x) (hg : GotAt (slC (MT K j) E K w) num x.slots A n c) {base : Nat} {q m d : Nat} {l : List Va} (hl : OwnL base 65 3 RV w (.slice (some ⟨q, 0, none⟩) m d) l) (hla : (getT x.slots num).length ≤ 1000000) (hll : l.length ≤ 1000000) (ty : TypeId) :
    ∃ v' w8, (Builtin.append_ #[66, 66] ty #[.slice A n c, .slice (some ⟨q, 0, none⟩) m d]).run Tryz.prog w = .ok v' w8 ∧
      (∃ B n' d', v' = .slice B n' d' ∧ Hid (n' = (getT x.slots num ++ l).length ∧ ∃ N : Nat → Prop, w.heap.size ≤ w8.heap.size ∧ (∀ b, D b → ¬ E num b → w8.heap[b]? = w.heap[b]?) ∧ (∀ b, N b → w.heap.size ≤ b ∧ b < w8.heap.size) ∧ MV (MT K j) (fun b => E num b ∨ N b) K w8 (.slice B n' d') (getT x.slots num ++ l) ∧ Touch D w w8)) := by
  obtain ⟨hn, F, hF⟩ := got_mv h hg
  have hform := ownL_form hl
  obtain ⟨css, c1, c2, c3⟩ := hl
  obtain ⟨A9, d9, e9, _⟩ := hform
  cases e9
  obtain ⟨v', w8, hr, hm, hgr, hmv⟩ := mv_append hF css l (fun _ _ => False) c1 (fun j c y hc hy => ⟨(c2 j c y hc hy).1, (c2 j c y hc hy).2.1, none, 0, 0, (c2 j c y hc hy).2.2.2, by show mkR _ _ w _ y.vm; rw [(c2 j c y hc hy).2.2.1]; rfl⟩) (fun _ _ h => h.elim) (fun _ _ _ h => h.elim) (fun b hb => (h.o_lt b (h.o_E num b hb).1).1) ⟨q, 0, none⟩ (fun j u hu => by
    have := own_cell c3 rfl hu
    rw [Addr.add_lit, Nat.zero_add]
    exact this) l.length d rfl hla hll h.o_hd.h_base ty
  obtain ⟨A8, d8, e8, _⟩ := mvr_len hm
  subst e8
  have hblk : ∀ b, (Value.slice A n c).ownBlock = some b → E num b := fun b hb => (hF.v_blk b hb).1
  refine ⟨_, w8, hr, A8, _, d8, rfl, Lib.hid ⟨rfl, fun b => (Value.slice A8 (getT x.slots num ++ l).length d8).ownBlock = some b ∧ w.heap.size ≤ b, hgr.size, fun b hb hne => hgr.block b (h.o_lt b hb).1 (fun e => hne (hblk b e.symm)), fun b hb => ⟨hb.2, (ownL_blk hm.v_row b hb.1).2⟩, ⟨_, mvr_mono (fun b hb => ?_) hm⟩, (Touch.refl D w).grown hgr (fun k hk => .inl (h.o_E num k (hblk k hk)).1)⟩⟩
  rcases hb with hb | hb | ⟨_, hb⟩
  · exact .inl hb
  · rcases hmv with e | ⟨q', e, hq'⟩
    · exact .inl (hblk b (by rw [← e]; exact hb))
    · rw [hb] at e
      cases e
      exact .inr ⟨hb, hq'⟩
  · exact hb.elim
end
end Go.Proofs.YtpfdnggacpehdaaGreatDoor

/- The landed layer 22: lay, of fields that are of no message. Conditions: those that each theorem names. -/
namespace Go.Proofs.YtpfdnggacpehdaaGreatDoor
open Go.RowKit
set_option linter.unusedVariables false
set_option maxRecDepth 100000

/-- What a call of lay leaves. -/
def LayTo (We : World) (K j : Nat) (D0 : Nat → Prop) (w0 : World) (p gc0 : Nat) (bs : List UInt8) (s2 : St) (g : Nat) (x : Tr) (q : List Slt × Int) (e : Ending) (w' : World) : Prop :=
  ∃ gc' D' vs' vr' E', e = .returned (.int .i64 q.2) ∧ RdS We K j D0 w0 w' p gc0 gc' bs s2 g (.mk q.1 x.rest) D' vs' vr' E'
section
variable {We w0 w : World} {K j p gc0 gc g : Nat} {D0 D : Nat → Prop} {bs : List UInt8} {s : St} {x : Tr} {vs vr : Value} {E : Int → Nat → Prop}
theorem tr_eta (x : Tr) : Tr.mk x.slots x.rest = x := by cases x; rfl
theorem got_bel {w' : World} {num : Int} {A : Option Addr} {n c : Nat} {sl : List Slt} (h : OpT (MT K j) K D w g vs vr E x) (hb : Below w.heap.size w w') (hg : GotAt (slC (MT K j) E K w) num sl A n c) : GotAt (slC (MT K j) E K w') num sl A n c := by
  rcases hg with ⟨i, y, hy, ey, eg, hR⟩ | hg
  · have hk : ∀ n b, E n b → w'.heap[b]? = w.heap[b]? := fun n b hE => hb.block b (h.o_lt b (h.o_E n b hE).1).1
    exact .inl ⟨i, y, hy, ey, eg, ms_keep (fun n F hF g x hx => mt_keep j (fun b hbF => hk n b (hF b hbF)) hb.size hx) hk _ _ hR⟩
  · exact .inr hg
set_option maxHeartbeats 16000000 in
theorem dlay_any (h : RdS We K j D0 w0 w p gc0 gc bs s g x D vs vr E) (f : Fd) (wire : Int) (env : ScEnv We) (u8 : U8Env We) (hty : Int64 f.ty) (h15 : f.ty ≠ 15) (hl : bs.length ≤ 90000) (hmay : f.rep = false → wire = wireT f.ty) (hsl : x.slots.length ≤ 800) (hgl : (getT x.slots f.num).length ≤ 1000000) (X Y : Value) (hX : X.oneCell' = true) (hY : Y.oneCell' = true) :
    Calls Tryz.prog 70 #[.agg #[X, Y, .pointer (some ⟨p, 0, none⟩)], .pointer (some ⟨g, 0, none⟩), fdV f, .int .i64 wire] w (LayTo We K j D0 w0 p gc0 bs (readS wire bs s).2 g x (layQ f (valsQ f wire (readS wire bs s).1.1 (readS wire bs s).1.2) x.slots)) := by
  obtain ⟨w2, hw2⟩ : ∃ w2, w2 = (w.alloc (.cells #[X, Y, .pointer (some ⟨p, 0, none⟩)] 73)).alloc (.cells #[.string (strOf f.name), .int .i64 f.num, .int .i64 f.ty, .string (strOf f.ref), .bool f.rep, .bool f.loose, .string (strOf f.one)] 43) := ⟨_, rfl⟩
  obtain ⟨k1, k2, hb⟩ := box_two w (.cells #[X, Y, .pointer (some ⟨p, 0, none⟩)] 73) (.cells #[.string (strOf f.name), .int .i64 f.num, .int .i64 f.ty, .string (strOf f.ref), .bool f.rep, .bool f.loose, .string (strOf f.one)] 43)
  rw [heap_alloc_new] at k1 k2
  rw [← hw2] at k1 k2 hb
  have h2 := rds_bel h hb
  have hlt2 := cub_lt h2.r_cur
  have hlt := cub_lt h.r_cur
  obtain ⟨W, hWK, hWe, hcur⟩ := h2.r_cur
  have HVA := Lib.hid (dvalues_any hcur f wire (env.rides hWe) (u8.goesOn hWe) hty hl X Y hX hY)
  have htl : (readS wire bs s).1.2.length ≤ 90000 := Nat.le_trans (read_text_le wire bs s) hl
  obtain ⟨s2, hs2⟩ : ∃ s2, s2 = (readS wire bs s).2 := ⟨_, rfl⟩
  obtain ⟨o, ho⟩ : ∃ o, o = valsQ f wire (readS wire bs s).1.1 (readS wire bs s).1.2 := ⟨_, rfl⟩
  rw [← hs2, ← ho] at HVA ⊢
  have HOL : Hid (∀ l, o = some l → l.length ≤ 1000000 ∧ (f.rep = false → ∃ v, l = [v])) := Lib.hid (fun l hl9 => by
    rw [ho] at hl9
    unfold valsQ at hl9
    split at hl9
    · rename_i hne
      refine ⟨?_, fun hr => absurd (hmay hr) hne⟩
      cases hu : unpackO f (readS wire bs s).1.2 with
      | none => rw [hu] at hl9; cases hl9
      | some u =>
        rw [hu] at hl9
        cases hl9
        rw [List.length_map]
        unfold unpackO at hu
        split at hu
        · split at hu
          · cases hu
            have := nums64_len (ty := f.ty) (bs := (readS wire bs s).1.2) ((readS wire bs s).1.2.length + 1) ⟨0, [(readS wire bs s).1.2.length]⟩ rfl
            exact Nat.le_trans this (by omega)
          · cases hu
        · cases hu
    · split at hl9
      · cases hl9
      · cases hl9
        exact ⟨by simp, fun _ => ⟨_, rfl⟩⟩)
  have HHI := Lib.hid (fun u => fphidden_any f u)
  have HQ2 : Hid (∀ l, o = some l → layQ f o x.slots = (layP f l x.slots, 0)) := Lib.hid (fun l e => by rw [e]; rfl)
  have HQN : Hid (o = none → layQ f o x.slots = (x.slots, 8)) := Lib.hid (fun e => by rw [e]; rfl)
  have HP : Hid (∀ l, layP f l x.slots = if f.rep = true then withT f.num (getT x.slots f.num ++ l) x.slots else withT f.num (if (hiddenT f && zerD (l.headD default).vn (l.headD default).vs) = true then [] else l) x.slots) := Lib.hid (fun l => rfl)
  have HGET := Lib.hid (fun (w7 : World) (h7 : OpT (MT K j) K D w7 g vs vr E x) => dget_any (shape_ms _ _ _ _) h7.o_hd f.num)
  have HREP := Lib.hid (fun (w7 : World) (h7 : OpT (MT K j) K D w7 g vs vr E x) {A : Option Addr} {n c : Nat} (hg : GotAt (slC (MT K j) E K w7) f.num x.slots A n c) {base q m d : Nat} {l : List Va} (hl : OwnL base 65 3 RV w7 (.slice (some ⟨q, 0, none⟩) m d) l) (hll : l.length ≤ 1000000) (ty : TypeId) => rep_append h7 hg hl hgl hll ty)
  have H := Lib.hid h
  have H2 := Lib.hid h2
  have HB := Lib.hid hb
  have HW2 := Lib.hid hw2
  have HK1 := Lib.hid k1
  have HK2 := Lib.hid k2
  have HLT := Lib.hid hlt
  have HW := Lib.hid (And.intro hWK hWe)
  -- what stands behind the call of values
  have HBX : Hid (∀ w6, Only p gc w2 w6 → w6.heap[w.heap.size]? = some (.cells #[X, Y, .pointer (some ⟨p, 0, none⟩)] 73 (0, 0)) ∧ w6.heap[w.heap.size + 1]? = some (.cells #[.string (strOf f.name), .int .i64 f.num, .int .i64 f.ty, .string (strOf f.ref), .bool f.rep, .bool f.loose, .string (strOf f.one)] 43 (0, 0))) := Lib.hid (fun w6 ho => by
    have k8 := HK1.out
    have k9 := HK2.out
    have e9 : (w.alloc (.cells #[X, Y, .pointer (some ⟨p, 0, none⟩)] 73)).heap.size = w.heap.size + 1 := by simp
    refine ⟨(ho.block _ (lt_of_block k8) (by have := HLT.out; omega) (by have := HLT.out; omega)).trans k8, ?_⟩
    first
      | exact (ho.block _ (lt_of_block k9) (by have := HLT.out; omega) (by have := HLT.out; omega)).trans k9
      | (rw [e9] at k9; exact (ho.block _ (lt_of_block k9) (by have := HLT.out; omega) (by have := HLT.out; omega)).trans k9))
  have HRD : Hid (∀ w6 gc', (gc' = gc ∨ w2.heap.size ≤ gc') → Cur W w6 p gc' bs s2 → Only p gc w2 w6 → RdS We K j D0 w0 w6 p gc0 gc' bs s2 g x D vs vr E) := Lib.hid (fun w6 gc' hg hc ho => rds_cur H2.out hWK hWe hg hc ho)
  have HSET : Hid (∀ (w6 w8 : World) (gc' : Nat) (N : Nat → Prop) (vals : List Va) (B : Option Addr) (n c : Nat), RdS We K j D0 w0 w6 p gc0 gc' bs s2 g x D vs vr E → Touch D w6 w8 → (∀ b, D b → ¬ E f.num b → w8.heap[b]? = w2.heap[b]?) → w2.heap.size ≤ w8.heap.size → (∀ b, N b → w2.heap.size ≤ b ∧ b < w8.heap.size ∧ b ≠ gc') → n = vals.length → (vals ≠ [] → MV (MT K j) (fun b => E f.num b ∨ N b) K w8 (.slice B n c) vals) →
      Calls Tryz.prog 109 #[.pointer (some ⟨g, 0, none⟩), .int .i64 f.num, .slice B n c] w8 fun e w9 => e = .returned (.tuple #[]) ∧ Hid (∃ D' vs' vr' E', RdS We K j D0 w0 w9 p gc0 gc' bs s2 g (.mk (withT f.num vals x.slots) x.rest) D' vs' vr' E')) := Lib.hid (fun w6 w8 gc' N vals B n c h6 ht hk hs hN hn hv => by
    refine (lay_ready (N := N) H2.out.r_mt hs hk (fun b hb => ⟨(hN b hb).1, (hN b hb).2.1⟩) hn hv hsl).mono ?_
    rintro e w9 ⟨rfl, D', vs', vr', E', h9, t9, s9, -⟩
    refine ⟨rfl, Lib.hid ⟨D', vs', vr', E', rds_tree2 (N := N) h6 h9 (ht.trans t9 (fun _ h => .inl h)) (fun b hb => ?_) (fun hb => ?_) (fun hb => (hN gc' hb).2.2 rfl) (fun b hb => Nat.le_trans (Nat.le_trans H.out.r_t.size HB.out.size) (hN b hb).1)⟩⟩
    · rcases s9 b hb with h1 | h1 | h1
      · exact .inl h1
      · exact .inr (.inl h1)
      · exact .inr (.inr (Nat.le_trans ht.size h1))
    · have := (hN p hb).1
      have := HLT.out
      have := HB.out.size
      omega)
  have HD2 : Hid (∀ w6, Only p gc w2 w6 → ∀ b, D b → w6.heap[b]? = w2.heap[b]?) := Lib.hid (fun w6 ho b hb => ho.block b (H2.out.r_mt.o_lt b hb).1 (fun e => H2.out.r_p (e ▸ hb)) (fun e => H2.out.r_g (e ▸ hb)))
  have r2 := obj_cell k2 2
  have a0 := obj_cell k1 0
  have a1 := obj_cell k1 1
  have a2 := obj_cell k1 2
  have b0 := obj_cell k2 0
  have b1 := obj_cell k2 1
  have b3 := obj_cell k2 3
  have b4 := obj_cell k2 4
  have b5 := obj_cell k2 5
  have b6 := obj_cell k2 6
  rw [hw2] at r2 a0 a1 a2 b0 b1 b3 b4 b5 b6
  have e15 : (f.ty == 15) = false := beq_false_of_ne h15
  unfold fdV at HVA HHI ⊢
  obtain ⟨fn, hfn⟩ : ∃ z, z = f.num := ⟨_, rfl⟩
  obtain ⟨ty, hty2⟩ : ∃ z, z = f.ty := ⟨_, rfl⟩
  obtain ⟨rep, hrep⟩ : ∃ z, z = f.rep := ⟨_, rfl⟩
  obtain ⟨hid, hhid⟩ : ∃ z, z = hiddenT f := ⟨_, rfl⟩
  rw [← hfn] at HP HGET HREP HSET b1 HK2 HW2 HBX HHI HVA ⊢
  rw [← hty2] at r2 e15 HK2 HW2 HBX HHI HVA ⊢
  rw [← hrep] at HP HOL b4 HK2 HW2 HBX HHI HVA ⊢
  rw [← hhid] at HP HHI
  generalize strOf f.name = s0 at *
  generalize strOf f.ref = s3 at *
  generalize strOf f.one = s6 at *
  generalize f.loose = loose at *
  generalize layQ f o x.slots = Q at *
  have HFN := Lib.hid hfn
  clear h hw2 k1 k2 hb h2 hlt2 hlt hWK hWe hcur htl hs2 ho env u8 hty h15 hl hmay hsl hgl hfn hty2 hrep hhid
  cases hoo : o with
  | none =>
    have HO := Lib.hid hoo
    clear hoo
    go_enter Tryz.func70, Tryz.ntmps70
    go_wp2_with (go_at_call 111; (with_reducible rw [← HW2.out]); refine HVA.out.mono ?_; rintro e w6 ⟨B, m, d, ok, gc6, rfl, hg6, hc6, ho6, hok, hl6, hk6⟩; (obtain rfl : ok = false := by rw [hok, HO.out]; rfl); have HR6 := Lib.hid (HRD.out w6 gc6 hg6 hc6 ho6); have HX6 := Lib.hid (HBX.out w6 ho6); have HD6 := Lib.hid (HD2.out w6 ho6); have HS6 := Lib.hid ho6.size; have HC6 := Lib.hid (cub_lt HR6.out.r_cur); have q0 := obj_cell HX6.out.2 0; have q1 := obj_cell HX6.out.2 1; have q2 := obj_cell HX6.out.2 2; have q3 := obj_cell HX6.out.2 3; have q4 := obj_cell HX6.out.2 4; have q5 := obj_cell HX6.out.2 5; have q6 := obj_cell HX6.out.2 6; clear hg6 hc6 ho6 hl6 hk6 hok r2 a0 a1 a2 b0 b1 b3 b4 b5 b6)
    go_ret
    refine ⟨gc6, D, vs, vr, E, by rw [HQN.out HO.out]; rfl, ?_⟩
    rw [HQN.out HO.out, show (Tr.mk (x.slots, (8 : Int)).1 x.rest) = x from tr_eta x]
    exact HR6.out
  | some l =>
    have HO := Lib.hid hoo
    have HLL := Lib.hid (HOL.out l hoo)
    clear hoo
    have HQE : Hid (Q = (layP f l x.slots, 0)) := Lib.hid (HQ2.out l HO.out)
    cases rep with
    | true =>
      have HPE : Hid (layP f l x.slots = withT fn (getT x.slots fn ++ l) x.slots) := Lib.hid (by rw [HP.out, if_pos rfl])
      go_enter Tryz.func70, Tryz.ntmps70
      go_wp2_with (first
        | (go_at_call 111; (with_reducible rw [← HW2.out]); refine HVA.out.mono ?_; rintro e w6 ⟨B, m, d, ok, gc6, rfl, hg6, hc6, ho6, hok, hl6, hk6⟩; (obtain rfl : ok = true := by rw [hok, HO.out]; rfl); obtain ⟨hl6, q, rfl⟩ := hl6 _ HO.out; have HL6 := Lib.hid hl6; have HK6 := Lib.hid hk6; have HR6 := Lib.hid (HRD.out w6 gc6 hg6 hc6 ho6); have HX6 := Lib.hid (HBX.out w6 ho6); have HD6 := Lib.hid (HD2.out w6 ho6); have HS6 := Lib.hid ho6.size; have HC6 := Lib.hid (cub_lt HR6.out.r_cur); have q0 := obj_cell HX6.out.2 0; have q1 := obj_cell HX6.out.2 1; have q2 := obj_cell HX6.out.2 2; have q3 := obj_cell HX6.out.2 3; have q4 := obj_cell HX6.out.2 4; have q5 := obj_cell HX6.out.2 5; have q6 := obj_cell HX6.out.2 6; clear hg6 hc6 ho6 hl6 hk6 hok r2 a0 a1 a2 b0 b1 b3 b4 b5 b6)
        | (go_at_call 112; refine (HGET.out w6 HR6.out.r_mt).mono ?_; rintro e w7 ⟨A, n, c, rfl, hga, hb7, -⟩; have HR7 := Lib.hid (rds_bel HR6.out hb7); have HG7 := Lib.hid (got_bel HR6.out.r_mt hb7 hga); have HL7 := Lib.hid (ownL_bel HL6.out (fun _ _ h => h) hb7); have HB7 := Lib.hid hb7; clear hga hb7)
        | (at_builtin; refine wpList_append_x rfl _ _ rfl rfl rfl (HREP.out w7 HR7.out.r_mt HG7.out HL7.out HLL.out.1 _) ?_; rintro v8 w8 ⟨B8, n8, d8, rfl, H8⟩; have k7 := (HB7.out.block _ (lt_of_block HX6.out.2)).trans HX6.out.2; have k8 := ((by obtain ⟨_, N, _, _, _, _, ht8⟩ := H8.out; exact ht8.block _ (lt_of_block k7) (fun hd => by have := (H.out.r_mt.o_lt _ hd).1; omega)) : w8.heap[w.heap.size + 1]? = _).trans k7; have o1 := obj_cell k8 1; clear k7 k8)
        | (go_at_call 109; obtain ⟨hn8, N, hs8, hk8, hN8, hv8, ht8⟩ := H8.out; refine (HSET.out w7 w8 gc6 N _ _ _ _ HR7.out ht8 (fun b hb hne => (hk8 b hb hne).trans ((HB7.out.block b (HR6.out.r_mt.o_lt b hb).1).trans (HD6.out b hb))) (Nat.le_trans HS6.out (Nat.le_trans HB7.out.size hs8)) (fun b hb => ⟨Nat.le_trans HS6.out (Nat.le_trans HB7.out.size (hN8 b hb).1), (hN8 b hb).2, fun e => by have := (hN8 b hb).1; have := HC6.out; have := HB7.out.size; omega⟩) hn8 (fun _ => hv8)).mono ?_; rintro e w9 ⟨rfl, H9⟩; clear hn8 hs8 hk8 hN8 hv8 ht8))
      go_ret
      obtain ⟨D', vs', vr', E', h9⟩ := H9.out
      refine ⟨gc6, D', vs', vr', E', by rw [HQE.out]; rfl, ?_⟩
      rw [HQE.out, HPE.out]
      exact h9
    | false =>
      obtain ⟨v, rfl⟩ := HLL.out.2 rfl
      have HPE : Hid (layP f [v] x.slots = withT fn (if (hid && zerD v.vn v.vs) = true then [] else [v]) x.slots) := Lib.hid (by rw [HP.out, if_neg (by decide)]; rfl)
      have HZ := Lib.hid (fun u => dzero_any v.vn v.vs none 0 0 u)
      obtain ⟨zz, hzz⟩ : ∃ z, z = zerD v.vn v.vs := ⟨_, rfl⟩
      rw [← hzz] at HPE HZ
      obtain ⟨vn, hvn⟩ : ∃ z, z = v.vn := ⟨_, rfl⟩
      obtain ⟨st, hst⟩ : ∃ z, z = strOf v.vs := ⟨_, rfl⟩
      rw [← hvn, ← hst] at HZ
      have HVN := Lib.hid (And.intro hvn hst)
      clear hzz hvn hst
      cases hid with
      | false =>
        go_enter Tryz.func70, Tryz.ntmps70
        go_wp2_with (first
          | (go_at_call 111; (with_reducible rw [← HW2.out]); refine HVA.out.mono ?_; rintro e w6 ⟨B, m, d, ok, gc6, rfl, hg6, hc6, ho6, hok, hl6, hk6⟩; (obtain rfl : ok = true := by rw [hok, HO.out]; rfl); obtain ⟨hl6, q, rfl⟩ := hl6 _ HO.out; have HL6 := Lib.hid hl6; have HK6 := Lib.hid hk6; (obtain rfl : m = 1 := by obtain ⟨A9, c9, e9, _⟩ := ownL_form HL6.out; cases e9; rfl); obtain ⟨g9, cap9, cs9, e9, _, _, _, ⟨_, hcs⟩, hcc⟩ := ownL_at HL6.out (j := 0) (x := v) rfl; cases e9; subst hcs; have HC9 : Hid (w6.cell? ⟨q, 0, none⟩ = some (.int .u64 (vn : Int)) ∧ w6.cell? ⟨q, 1, none⟩ = some (.string st) ∧ w6.cell? ⟨q, 2, none⟩ = some (.slice none 0 0)) := Lib.hid (by rw [HVN.out.1, HVN.out.2]; exact ⟨hcc 0 _ rfl, hcc 1 _ rfl, hcc 2 _ rfl⟩); clear hcc; have HR6 := Lib.hid (HRD.out w6 gc6 hg6 hc6 ho6); have HX6 := Lib.hid (HBX.out w6 ho6); have HD6 := Lib.hid (HD2.out w6 ho6); have HS6 := Lib.hid ho6.size; have HC6 := Lib.hid (cub_lt HR6.out.r_cur); have q0 := obj_cell HX6.out.2 0; have q1 := obj_cell HX6.out.2 1; have q2 := obj_cell HX6.out.2 2; have q3 := obj_cell HX6.out.2 3; have q4 := obj_cell HX6.out.2 4; have q5 := obj_cell HX6.out.2 5; have q6 := obj_cell HX6.out.2 6; clear hg6 hc6 ho6 hl6 hk6 hok r2 a0 a1 a2 b0 b1 b3 b4 b5 b6)
          | (go_at_call 113; refine (HHI.out _).mono ?_; rintro e w7 ⟨rfl, hb7⟩; have HB7 := Lib.hid hb7; have k7 := (hb7.block _ (lt_of_block HX6.out.2)).trans HX6.out.2; have o1 := obj_cell k7 1; have HK7 := Lib.hid k7; have z0 := cell_under hb7 HC9.out.1; have z1 := cell_under hb7 HC9.out.2.1; have z2 := cell_under hb7 HC9.out.2.2; clear hb7 k7)
          | (go_at_call 109; refine (HSET.out _ _ gc6 (fun b => (Value.slice (some ⟨q, 0, none⟩) 1 d).ownBlock = some b) [v] _ _ _ (rds_bel HR6.out HB7.out) (Touch.refl _ _) (fun b hb hne => (HB7.out.block b (HR6.out.r_mt.o_lt b hb).1).trans (HD6.out b hb)) (Nat.le_trans HS6.out HB7.out.size) (fun b hb => ⟨(HK6.out b hb).1, Nat.lt_of_lt_of_le (ownL_blk HL6.out b hb).2 HB7.out.size, (HK6.out b hb).2⟩) rfl (fun _ => mv_of_rv (ownL_bel HL6.out (fun _ _ h => h) HB7.out) (Nat.le_trans H.out.r_mt.o_hd.h_base HB.out.size) (fun b hb => .inr hb))).mono ?_; rintro e w9 ⟨rfl, H9⟩))
        go_ret
        obtain ⟨D', vs', vr', E', h9⟩ := H9.out
        refine ⟨gc6, D', vs', vr', E', by rw [HQE.out]; rfl, ?_⟩
        rw [HQE.out, HPE.out]
        exact h9
      | true =>
        cases zz with
        | false =>
          go_enter Tryz.func70, Tryz.ntmps70
          go_wp2_with (first
            | (go_at_call 111; (with_reducible rw [← HW2.out]); refine HVA.out.mono ?_; rintro e w6 ⟨B, m, d, ok, gc6, rfl, hg6, hc6, ho6, hok, hl6, hk6⟩; (obtain rfl : ok = true := by rw [hok, HO.out]; rfl); obtain ⟨hl6, q, rfl⟩ := hl6 _ HO.out; have HL6 := Lib.hid hl6; have HK6 := Lib.hid hk6; (obtain rfl : m = 1 := by obtain ⟨A9, c9, e9, _⟩ := ownL_form HL6.out; cases e9; rfl); obtain ⟨g9, cap9, cs9, e9, _, _, _, ⟨_, hcs⟩, hcc⟩ := ownL_at HL6.out (j := 0) (x := v) rfl; cases e9; subst hcs; have HC9 : Hid (w6.cell? ⟨q, 0, none⟩ = some (.int .u64 (vn : Int)) ∧ w6.cell? ⟨q, 1, none⟩ = some (.string st) ∧ w6.cell? ⟨q, 2, none⟩ = some (.slice none 0 0)) := Lib.hid (by rw [HVN.out.1, HVN.out.2]; exact ⟨hcc 0 _ rfl, hcc 1 _ rfl, hcc 2 _ rfl⟩); clear hcc; have HR6 := Lib.hid (HRD.out w6 gc6 hg6 hc6 ho6); have HX6 := Lib.hid (HBX.out w6 ho6); have HD6 := Lib.hid (HD2.out w6 ho6); have HS6 := Lib.hid ho6.size; have HC6 := Lib.hid (cub_lt HR6.out.r_cur); have q0 := obj_cell HX6.out.2 0; have q1 := obj_cell HX6.out.2 1; have q2 := obj_cell HX6.out.2 2; have q3 := obj_cell HX6.out.2 3; have q4 := obj_cell HX6.out.2 4; have q5 := obj_cell HX6.out.2 5; have q6 := obj_cell HX6.out.2 6; clear hg6 hc6 ho6 hl6 hk6 hok r2 a0 a1 a2 b0 b1 b3 b4 b5 b6)
            | (go_at_call 113; refine (HHI.out _).mono ?_; rintro e w7 ⟨rfl, hb7⟩; have HB7 := Lib.hid hb7; have k7 := (hb7.block _ (lt_of_block HX6.out.2)).trans HX6.out.2; have o1 := obj_cell k7 1; have HK7 := Lib.hid k7; have z0 := cell_under hb7 HC9.out.1; have z1 := cell_under hb7 HC9.out.2.1; have z2 := cell_under hb7 HC9.out.2.2; clear hb7 k7)
            | (go_at_call 114; refine (HZ.out _).mono ?_; rintro e w8 ⟨rfl, hb8⟩; have HB8 := Lib.hid (vbel HB7.out hb8); have k8 := (hb8.block _ (lt_of_block HK7.out)).trans HK7.out; have p1 := obj_cell k8 1; clear hb8 k8)
            | (go_at_call 109; refine (HSET.out _ _ gc6 (fun b => (Value.slice (some ⟨q, 0, none⟩) 1 d).ownBlock = some b) [v] _ _ _ (rds_bel HR6.out HB8.out) (Touch.refl _ _) (fun b hb hne => (HB8.out.block b (HR6.out.r_mt.o_lt b hb).1).trans (HD6.out b hb)) (Nat.le_trans HS6.out HB8.out.size) (fun b hb => ⟨(HK6.out b hb).1, Nat.lt_of_lt_of_le (ownL_blk HL6.out b hb).2 HB8.out.size, (HK6.out b hb).2⟩) rfl (fun _ => mv_of_rv (ownL_bel HL6.out (fun _ _ h => h) HB8.out) (Nat.le_trans H.out.r_mt.o_hd.h_base HB.out.size) (fun b hb => .inr hb))).mono ?_; rintro e w9 ⟨rfl, H9⟩))
          go_ret
          obtain ⟨D', vs', vr', E', h9⟩ := H9.out
          refine ⟨gc6, D', vs', vr', E', by rw [HQE.out]; rfl, ?_⟩
          rw [HQE.out, HPE.out]
          exact h9
        | true =>
          go_enter Tryz.func70, Tryz.ntmps70
          go_wp2_with (first
            | (go_at_call 111; (with_reducible rw [← HW2.out]); refine HVA.out.mono ?_; rintro e w6 ⟨B, m, d, ok, gc6, rfl, hg6, hc6, ho6, hok, hl6, hk6⟩; (obtain rfl : ok = true := by rw [hok, HO.out]; rfl); obtain ⟨hl6, q, rfl⟩ := hl6 _ HO.out; have HL6 := Lib.hid hl6; have HK6 := Lib.hid hk6; (obtain rfl : m = 1 := by obtain ⟨A9, c9, e9, _⟩ := ownL_form HL6.out; cases e9; rfl); obtain ⟨g9, cap9, cs9, e9, _, _, _, ⟨_, hcs⟩, hcc⟩ := ownL_at HL6.out (j := 0) (x := v) rfl; cases e9; subst hcs; have HC9 : Hid (w6.cell? ⟨q, 0, none⟩ = some (.int .u64 (vn : Int)) ∧ w6.cell? ⟨q, 1, none⟩ = some (.string st) ∧ w6.cell? ⟨q, 2, none⟩ = some (.slice none 0 0)) := Lib.hid (by rw [HVN.out.1, HVN.out.2]; exact ⟨hcc 0 _ rfl, hcc 1 _ rfl, hcc 2 _ rfl⟩); clear hcc; have HR6 := Lib.hid (HRD.out w6 gc6 hg6 hc6 ho6); have HX6 := Lib.hid (HBX.out w6 ho6); have HD6 := Lib.hid (HD2.out w6 ho6); have HS6 := Lib.hid ho6.size; have HC6 := Lib.hid (cub_lt HR6.out.r_cur); have q0 := obj_cell HX6.out.2 0; have q1 := obj_cell HX6.out.2 1; have q2 := obj_cell HX6.out.2 2; have q3 := obj_cell HX6.out.2 3; have q4 := obj_cell HX6.out.2 4; have q5 := obj_cell HX6.out.2 5; have q6 := obj_cell HX6.out.2 6; clear hg6 hc6 ho6 hl6 hk6 hok r2 a0 a1 a2 b0 b1 b3 b4 b5 b6)
            | (go_at_call 113; refine (HHI.out _).mono ?_; rintro e w7 ⟨rfl, hb7⟩; have HB7 := Lib.hid hb7; have k7 := (hb7.block _ (lt_of_block HX6.out.2)).trans HX6.out.2; have o1 := obj_cell k7 1; have HK7 := Lib.hid k7; have z0 := cell_under hb7 HC9.out.1; have z1 := cell_under hb7 HC9.out.2.1; have z2 := cell_under hb7 HC9.out.2.2; clear hb7 k7)
            | (go_at_call 114; refine (HZ.out _).mono ?_; rintro e w8 ⟨rfl, hb8⟩; have HB8 := Lib.hid (vbel HB7.out hb8); have k8 := (hb8.block _ (lt_of_block HK7.out)).trans HK7.out; have p1 := obj_cell k8 1; clear hb8 k8)
            | (go_at_call 109; refine (HSET.out _ _ gc6 (fun _ => False) [] none 0 0 (rds_bel HR6.out HB8.out) (Touch.refl _ _) (fun b hb hne => (HB8.out.block b (HR6.out.r_mt.o_lt b hb).1).trans (HD6.out b hb)) (Nat.le_trans HS6.out HB8.out.size) (fun b hb => hb.elim) rfl (fun h => absurd rfl h)).mono ?_; rintro e w9 ⟨rfl, H9⟩))
          go_ret
          obtain ⟨D', vs', vr', E', h9⟩ := H9.out
          refine ⟨gc6, D', vs', vr', E', by rw [HQE.out]; rfl, ?_⟩
          rw [HQE.out, HPE.out]
          exact h9
end
end Go.Proofs.YtpfdnggacpehdaaGreatDoor

/- Trees that are being read: a message within, opened and put back (no program's function here). Conditions: those that each theorem names. -/
namespace Go.Proofs.YtpfdnggacpehdaaGreatDoor
open Go.RowKit
set_option linter.unusedVariables false
set_option maxRecDepth 100000

theorem ownL_set {α : Type} {base k : Nat} {t : TypeId} {R R' : List Value → α → Prop} {w w' : World} {v : Value} {l : List α} (h : OwnL base t k R w v l) {i : Nat} {y' : α} (hR : ∀ j c x, j ≠ i → l[j]? = some x → R c x → R' c x) (hi : ∀ c x, l[i]? = some x → R c x → (∀ g q u, v.ownBlock = some g → c[q]? = some u → w.cell? ⟨g, i * k + q, none⟩ = some u) → R' c y') (hb : ∀ g, v.ownBlock = some g → w'.heap[g]? = w.heap[g]?) : OwnL base t k R' w' v (l.set i y') := by
  obtain ⟨css, h1, h2, h3⟩ := h
  refine ⟨css, by rw [List.length_set]; exact h1, fun j c x hc hx => ?_, by rw [List.length_set]; exact own_block h3 hb⟩
  by_cases e : j = i
  · subst e
    rw [List.getElem?_set] at hx
    split at hx
    · split at hx
      · rename_i hjl
        cases hx
        obtain ⟨z, hz⟩ : ∃ z, l[j]? = some z := ⟨_, List.getElem?_eq_getElem hjl⟩
        obtain ⟨a, b, d⟩ := h2 j c z hc hz
        refine ⟨a, b, hi c z hz d (fun g q u hg hu => ?_)⟩
        have hq : q < k := by have := (List.getElem?_eq_some_iff.mp hu).1; rw [a] at this; exact this
        refine own_cell h3 hg ?_
        rw [flatten_get (fun c' hc' => ?_) j c q hc hq, hu]
        obtain ⟨q', hq', e'⟩ := List.mem_iff_getElem.mp hc'
        exact (h2 q' c' l[q'] (by rw [List.getElem?_eq_getElem hq', e']) (List.getElem?_eq_getElem (by omega))).1
      · cases hx
    · rename_i hne; exact absurd rfl hne
  · rw [List.getElem?_set_ne (fun e' => e e'.symm)] at hx
    obtain ⟨a, b, d⟩ := h2 j c x hc hx
    exact ⟨a, b, hR j c x e hx d⟩
theorem zipIdx_last {α : Type} (l : List α) (v v' : α) : (l ++ [v']).zipIdx = ((l ++ [v]).zipIdx).set l.length (v', l.length) := by
  apply List.ext_getElem?
  intro j
  rw [List.getElem?_zipIdx, List.getElem?_set, List.length_zipIdx]
  by_cases e : l.length = j
  · subst e
    simp
  · rw [if_neg e, List.getElem?_zipIdx]
    by_cases hj : j < l.length
    · rw [List.getElem?_append_left hj, List.getElem?_append_left hj]
    · rw [List.getElem?_eq_none (l := l ++ [v']) (by simp; omega), List.getElem?_eq_none (l := l ++ [v]) (by simp; omega)]
theorem mt_lt {K : Nat} : ∀ {k : Nat} {D : Nat → Prop} {w : World} {g : Nat} {x : Tr}, MT K k D w g x → D g ∧ ∀ b, D b → b < w.heap.size ∧ (b = g ∨ K ≤ b)
  | 0, _, _, _, _, h => h.elim
  | k + 1, _, _, _, _, ⟨_, _, _, h⟩ => ⟨h.o_g, h.o_lt⟩
section
variable {K j : Nat} {w : World} {D : Nat → Prop} {g : Nat} {vs vr : Value} {E : Int → Nat → Prop} {x : Tr}
theorem kid_open {num : Int} {A : Option Addr} {n c : Nat} (h : OpT (MT K j) K D w g vs vr E x) (hg : GotAt (slC (MT K j) E K w) num x.slots A n c) (hgc : GotC w vs num x.slots A n c) {init : List Va} {v : Va} {u : Tr} (hv : getT x.slots num = init ++ [v]) (hm : v.vm = [u]) :
    ∃ ga Fk gk, A = some ⟨ga, 0, none⟩ ∧ n = init.length + 1 ∧ n ≤ c ∧ c ≤ maxLen ∧ w.cell? ⟨ga, init.length * 3 + 2, none⟩ = some (.slice (some ⟨gk, 0, none⟩) 1 1) ∧ MT K j Fk w gk u ∧ (∀ b, Fk b → D b ∧ b ≠ g) ∧ K ≤ gk ∧ (¬ Fk ga ∧ D ga) ∧
      ∀ w' D'' u', MT K j D'' w' gk u' → w.heap.size ≤ w'.heap.size → (∀ b, D b → ¬ Fk b → w'.heap[b]? = w.heap[b]?) → (∀ b, D'' b → Fk b ∨ w.heap.size ≤ b) →
        OpT (MT K j) K (fun b => D b ∨ D'' b) w' g vs vr (fun n b => E n b ∨ (n = num ∧ D'' b)) (.mk (withT num (init ++ [⟨v.vn, v.vs, [u']⟩]) x.slots) x.rest) := by
  replace hg : ∃ (i : Nat) (y : Slt), x.slots[i]? = some y ∧ y.snum = num ∧ getT x.slots num = y.svals ∧ slC (MT K j) E K w [.int .i64 num, .slice A n c] y := by
    rcases hg with h1 | ⟨e0, _⟩
    · exact h1
    · rw [e0] at hv
      exact absurd hv (by simp)
  obtain ⟨i, y, hy, ey, eg, A9, n9, d9, e9, F, hF⟩ := hg
  injection e9 with _ e9
  injection e9 with e9 _
  cases e9
  rw [eg] at hv
  rw [ey] at hF
  rw [hv] at hF
  obtain ⟨A8, c8, e8, q1, q2⟩ := mvr_len hF
  cases e8
  have hz : (init ++ [v]).zipIdx[init.length]? = some (v, init.length) := by rw [List.getElem?_zipIdx]; simp
  obtain ⟨ga, cap, cs, e7, _, _, _, ⟨A6, n6, d6, rfl, hmk⟩, hcc⟩ := ownL_at hF.v_row hz
  rw [List.length_zipIdx] at e7
  cases e7
  rw [hm] at hmk
  obtain ⟨gk, e6, hkid⟩ := hmk
  dsimp only at hkid
  cases e6
  have hkl := mt_lt hkid
  have hgk : F init.length gk := hkl.1
  have hFE : ∀ j b, F j b → E num b := fun j b hb => hF.v_sub j b hb
  refine ⟨ga, F init.length, gk, rfl, by simp, q1, q2, hcc 2 _ rfl, hkid, fun b hb => h.o_E num b (hFE _ b hb), ?_, ⟨(hF.v_blk ga rfl).2 _, (h.o_E num ga (hF.v_blk ga rfl).1).1⟩, ?_⟩
  · have h1 := h.o_E num gk (hFE _ gk hgk)
    rcases (h.o_lt gk h1.1).2 with e | e
    · exact absurd e h1.2
    · exact e
  intro w' D'' u' hk' hs hkeep hD''
  have hk2 := mt_lt hk'
  have hDg : ∀ b, D'' b → b ≠ g := fun b hb e => by
    rcases hD'' b hb with h1 | h1
    · exact (h.o_E num b (hFE _ b h1)).2 e
    · have := (h.o_lt g h.o_g).1
      omega
  have hEk : ∀ m b, m ≠ num → E m b → w'.heap[b]? = w.heap[b]? := fun m b hne hb => hkeep b (h.o_E m b hb).1 (fun e => hne (h.o_dis m num b hb (hFE _ b e)))
  have hvb : ∀ b, vs.ownBlock = some b → w'.heap[b]? = w.heap[b]? := fun b hb => hkeep b (h.o_s b hb).1 (fun e => (h.o_s b hb).2 num (hFE _ b e))
  have hrb : ∀ b, vr.ownBlock = some b → w'.heap[b]? = w.heap[b]? := fun b hb => hkeep b (h.o_r b hb).1 (fun e => (h.o_r b hb).2 num (hFE _ b e))
  have hgb : w'.heap[g]? = w.heap[g]? := hkeep g h.o_g (fun e => (h.o_E num g (hFE _ g e)).2 rfl)
  -- the values' row
  have hrow : MVr (MT K j) (fun b => E num b ∨ (num = num ∧ D'' b)) K w' (.slice (some ⟨ga, 0, none⟩) (init ++ [v]).length c) (init ++ [⟨v.vn, v.vs, [u']⟩]) (fun i b => (i ≠ init.length ∧ F i b) ∨ (i = init.length ∧ D'' b)) := by
    have hbk : ∀ b, (Value.slice (some ⟨ga, 0, none⟩) (init ++ [v]).length c).ownBlock = some b → w'.heap[b]? = w.heap[b]? := fun b hb => hkeep b (h.o_E num b (hF.v_blk b hb).1).1 (fun e => (hF.v_blk b hb).2 _ e)
    refine ⟨fun i b hb => ?_, fun i i' b hi hi' => ?_, fun b hb => ⟨.inl (hF.v_blk b hb).1, fun i hi => ?_⟩, ?_⟩
    · rcases hb with hb | hb
      · exact .inl (hFE i b hb.2)
      · exact .inr ⟨rfl, hb.2⟩
    · rcases hi with hi | hi <;> rcases hi' with hi' | hi'
      · exact hF.v_dis i i' b hi.2 hi'.2
      · rcases hD'' b hi'.2 with h1 | h1
        · exact absurd (hF.v_dis i _ b hi.2 h1) hi.1
        · have := (h.o_lt b (h.o_E num b (hFE _ b hi.2)).1).1
          omega
      · rcases hD'' b hi.2 with h1 | h1
        · exact absurd (hF.v_dis i' _ b hi'.2 h1) hi'.1
        · have := (h.o_lt b (h.o_E num b (hFE _ b hi'.2)).1).1
          omega
      · rw [hi.1, hi'.1]
    · rcases hi with hi | hi
      · exact (hF.v_blk b hb).2 i hi.2
      · rcases hD'' b hi.2 with h1 | h1
        · exact (hF.v_blk b hb).2 _ h1
        · have := (h.o_lt b (h.o_E num b (hF.v_blk b hb).1).1).1
          omega
    · rw [zipIdx_last init v ⟨v.vn, v.vs, [u']⟩]
      refine ownL_set hF.v_row (fun i' c' y' hne hy' hR => ?_) (fun c' y' hy' hR hce => ?_) hbk
      · obtain ⟨e1, e2⟩ := zipIdx_at hy'
        obtain ⟨y1, y2⟩ := y'
        dsimp only at e1 e2
        subst e2
        obtain ⟨A5, n5, d5, e5, hm5⟩ := hR
        refine ⟨A5, n5, d5, e5, mkR_keep2 (fun g0 x0 hx => mt_iff (fun b => ⟨fun hb => .inl ⟨hne, hb⟩, fun hb => by
          rcases hb with hb | hb
          · exact hb.2
          · exact absurd hb.1 hne⟩) (mt_keep j (fun b hb => hkeep b (h.o_E num b (hFE _ b hb)).1 (fun e => hne (hF.v_dis _ _ b hb e))) hs hx)) hm5⟩
      · rw [hz] at hy'
        cases hy'
        obtain ⟨A5, n5, d5, e5, hm5⟩ := hR
        rw [hm] at hm5
        obtain ⟨gk5, e55, hk5⟩ := hm5
        cases e55
        have hgg : gk5 = gk := by
          have e1 := hce ga 2 _ rfl (by rw [e5]; rfl)
          have e2 := hcc 2 _ rfl
          rw [e1] at e2
          simp at e2
          exact e2
        subst hgg
        exact ⟨_, _, _, e5, gk5, rfl, mt_iff (fun b => ⟨fun hb => .inr ⟨rfl, hb⟩, fun hb => by
          rcases hb with hb | hb
          · exact absurd rfl hb.1
          · exact hb.2⟩) hk'⟩
  have hpl : PlaceAt num x.slots i true := ⟨Nat.le_of_lt (List.getElem?_eq_some_iff.mp hy).1, fun j z hj hz => by
    have := rise_lt h.o_hd.h_rise hj hz hy
    omega, fun _ => ⟨y, hy, ey⟩, fun e => by cases e⟩
  have hset : withT num (init ++ [⟨v.vn, v.vs, [u']⟩]) x.slots = x.slots.set i ⟨num, init ++ [⟨v.vn, v.vs, [u']⟩]⟩ := by
    rw [withT_there (by simp) hpl h.o_hd.h_rise, List.set_eq_take_append_cons_drop, if_pos (place_lt hpl)]
  have hother : ∀ (j : Nat) (z : Slt), j ≠ i → x.slots[j]? = some z → z.snum ≠ num := fun j z hne hz e => by
    rcases Nat.lt_or_ge j i with h1 | h1
    · have := rise_lt h.o_hd.h_rise h1 hz hy; omega
    · have := rise_lt h.o_hd.h_rise (show i < j by omega) hy hz; omega
  refine ⟨⟨hgb.trans h.o_hd.h_blk, ?_, rise_with h.o_hd.h_rise, ?_, Nat.le_trans h.o_hd.h_base hs⟩, ownL_keep h.o_rest (fun _ _ h => h) hrb, .inl h.o_g, fun b hb => ⟨.inl (h.o_s b hb).1, fun m hm' => ?_⟩, fun b hb => ⟨.inl (h.o_r b hb).1, fun m hm' => ?_⟩, fun m b hb => ?_, fun m m' b hb hb' => ?_, fun b hb => ?_⟩
  · show OwnL K _ 2 _ w' vs (withT num (init ++ [⟨v.vn, v.vs, [u']⟩]) x.slots)
    rw [hset]
    refine ownL_set h.o_hd.h_row (fun j' c' z hne hz hR => ?_) (fun c' z hz hR hce => ?_) hvb
    · obtain ⟨A5, n5, d5, e5, F5, hF5⟩ := hR
      have hzn := hother j' z hne hz
      have h2 := mvr_keep (T' := MT K j) (w' := w') (fun q g x hx => mt_keep j (fun b hbF => hEk _ b hzn (hF5.v_sub q b hbF)) hs hx) (fun b hk => hEk _ b hzn (hF5.v_blk b hk).1) hF5
      exact ⟨A5, n5, d5, e5, F5, mvr_mono (fun b hb => .inl hb) h2⟩
    · rw [hy] at hz
      cases hz
      obtain ⟨A5, n5, d5, e5, _⟩ := hR
      obtain ⟨i', y', gs, hgs, hy', ey', hcell⟩ := hgc
      have hii : i' = i := by
        rcases Nat.lt_trichotomy i' i with h1 | h1 | h1
        · have := rise_lt h.o_hd.h_rise h1 hy' hy; omega
        · exact h1
        · have := rise_lt h.o_hd.h_rise h1 hy hy'; omega
      subst hii
      have e1 := hce gs 1 _ hgs (by rw [e5]; rfl)
      rw [hcell] at e1
      injection e1 with e1
      rw [ey] at e5
      rw [← e1] at e5
      exact ⟨_, _, _, e5, _, hrow⟩
  · show (withT num (init ++ [⟨v.vn, v.vs, [u']⟩]) x.slots).length ≤ 900
    rw [hset, List.length_set]
    exact h.o_hd.h_len
  · rcases hm' with h1 | ⟨_, h1⟩
    · exact (h.o_s b hb).2 m h1
    · rcases hD'' b h1 with h2 | h2
      · exact (h.o_s b hb).2 num (hFE _ b h2)
      · have := (h.o_lt b (h.o_s b hb).1).1
        omega
  · rcases hm' with h1 | ⟨_, h1⟩
    · exact (h.o_r b hb).2 m h1
    · rcases hD'' b h1 with h2 | h2
      · exact (h.o_r b hb).2 num (hFE _ b h2)
      · have := (h.o_lt b (h.o_r b hb).1).1
        omega
  · rcases hb with h1 | ⟨_, h1⟩
    · exact ⟨.inl (h.o_E m b h1).1, (h.o_E m b h1).2⟩
    · exact ⟨.inr h1, hDg b h1⟩
  · rcases hb with h1 | ⟨e1, h1⟩ <;> rcases hb' with h2 | ⟨e2, h2⟩
    · exact h.o_dis m m' b h1 h2
    · rcases hD'' b h2 with h3 | h3
      · rw [e2]; exact h.o_dis m num b h1 (hFE _ b h3)
      · have := (h.o_lt b (h.o_E m b h1).1).1
        omega
    · rcases hD'' b h1 with h3 | h3
      · rw [e1]; exact h.o_dis num m' b (hFE _ b h3) h2
      · have := (h.o_lt b (h.o_E m' b h2).1).1
        omega
    · rw [e1, e2]
  · rcases hb with h1 | h1
    · exact ⟨Nat.lt_of_lt_of_le (h.o_lt b h1).1 hs, (h.o_lt b h1).2⟩
    · refine ⟨(hk2.2 b h1).1, .inr ?_⟩
      rcases (hk2.2 b h1).2 with e | e
      · rw [e]
        have h1 := h.o_E num gk (hFE _ gk hgk)
        rcases (h.o_lt gk h1.1).2 with e | e
        · exact absurd e h1.2
        · exact e
      · exact e
end
end Go.Proofs.YtpfdnggacpehdaaGreatDoor

/- The landed layer 22: what a message's reading leaves; a message within, called and put back. Conditions: those that each theorem names. -/
namespace Go.Proofs.YtpfdnggacpehdaaGreatDoor
open Go.RowKit
set_option linter.unusedVariables false
set_option maxRecDepth 100000

/-- The tree is lost, the cursor is not. -/
def Lost (We : World) (K : Nat) (D0 : Nat → Prop) (w0 w' : World) (p gc0 : Nat) (bs : List UInt8) (c : Nat) : Prop := ∃ gc' s', CuB We K w' p gc' bs s' ∧ (gc' = gc0 ∨ w0.heap.size ≤ gc') ∧ Touch (fun b => D0 b ∨ b = p ∨ b = gc0) w0 w' ∧ (s'.fr = [] → c = 8)
/-- What a call of message gives. -/
def MsgTo (We : World) (K j : Nat) (D : Nat → Prop) (w : World) (p gc : Nat) (bs : List UInt8) (a n : Nat) (r : List Nat) (g : Nat) (q : Tr × Nat) (e : Ending) (w' : World) : Prop :=
  e = .returned (.int .i64 (q.2 : Int)) ∧ (q.2 = 0 → ∃ gc' D', CuB We K w' p gc' bs ((⟨n, [n]⟩ : St).lift a r) ∧ (gc' = gc ∨ w.heap.size ≤ gc') ∧ MT K (j + 1) D' w' g q.1 ∧ (∀ b, D' b → D b ∨ w.heap.size ≤ b) ∧ ¬ D' gc' ∧ Touch (fun b => D b ∨ b = p ∨ b = gc) w w') ∧ (q.2 ≠ 0 → Lost We K D w w' p gc bs q.2)
def rdV (A : Option Addr) (ne ca : Nat) (A2 : Option Addr) (nm ca2 p : Nat) : Value := .agg #[.slice A ne ca, .slice A2 nm ca2, .pointer (some ⟨p, 0, none⟩)]
def PMsg (s : Sc) (We : World) (A : Option Addr) (ne ca : Nat) (A2 : Option Addr) (nm ca2 : Nat) (j : Nat) : Prop :=
  ∀ (K : Nat) (w : World) (p gc : Nat) (bs : List UInt8) (D : Nat → Prop) (g : Nat) (name : List UInt8) (x : Tr) (a n : Nat) (r : List Nat),
    CuB We K w p gc bs ((⟨0, [n]⟩ : St).lift a r) → a + n ≤ bs.length → bs.length ≤ 70000 → r.length + j = 16 → MT K (j + 1) D w g x → ¬ D p → ¬ D gc → We.heap.size ≤ g → treeN s (j + 1) name x = true → wtN (j + 1) x + n ≤ 70000 →
    Calls Tryz.prog 30 #[rdV A ne ca A2 nm ca2 p, .string (strOf name), .pointer (some ⟨g, 0, none⟩)] w (MsgTo We K j D w p gc bs a n r g (intoN s j name x (segOf bs a (a + n))))
section
variable {We w0 w : World} {K j p gc0 gc g : Nat} {D0 D : Nat → Prop} {bs : List UInt8} {x : Tr} {vs vr : Value} {E : Int → Nat → Prop} {s : Sc} {A A2 : Option Addr} {ne ca nm ca2 : Nat}
theorem lost_trans {w1 w2 : World} {st : St} {c : Nat} {Fk : Nat → Prop} (h : RdS We K j D0 w0 w1 p gc0 gc bs st g x D vs vr E) (hF : ∀ b, Fk b → D b) (hl : Lost We K Fk w1 w2 p gc bs c) : Lost We K D0 w0 w2 p gc0 bs c := by
  obtain ⟨gc', s', h1, h2, h3, h4⟩ := hl
  refine ⟨gc', s', h1, ?_, h.r_t.trans h3 (fun i hi => ?_), h4⟩
  · rcases h2 with rfl | h2
    · exact h.r_gc
    · exact .inr (Nat.le_trans h.r_t.size h2)
  · rcases hi with hi | rfl | rfl
    · rcases h.r_sub i (hF i hi) with h5 | h5
      · exact .inl (.inl h5)
      · exact .inr h5
    · exact .inl (.inr (.inl rfl))
    · rcases h.r_gc with e | e
      · exact .inl (.inr (.inr e))
      · exact .inr e
/-- Given up. -/
theorem rds_lost {st : St} {c : Nat} (h : RdS We K j D0 w0 w p gc0 gc bs st g x D vs vr E) (hc : st.fr = [] → c = 8) : Lost We K D0 w0 w p gc0 bs c := ⟨gc, st, h.r_cur, h.r_gc, h.r_t, hc⟩
/-- A message within: called, and put back into its tree. -/
theorem wit_call (hM : PMsg s We A ne ca A2 nm ca2 j) {a o n m : Nat} {r : List Nat} (h : RdS We K (j + 1) D0 w0 w p gc0 gc bs ((⟨0, [m]⟩ : St).lift (a + o) ((a + n) :: r)) g x D vs vr E) (hlen : a + o + m ≤ bs.length) (hbs : bs.length ≤ 70000) (hr : r.length + (j + 1) = 16)
    {num : Int} {B : Option Addr} {nB cB : Nat} (hg : GotAt (slC (MT K (j + 1)) E K w) num x.slots B nB cB) (hgc : GotC w vs num x.slots B nB cB) {init : List Va} {v : Va} {u : Tr} (hv : getT x.slots num = init ++ [v]) (hm : v.vm = [u]) (hn0 : v.vn = 0) (hs0 : v.vs = []) {name : List UInt8} (ht : treeN s (j + 1) name u = true) (hw : wtN (j + 1) u + m ≤ 70000) :
    ∃ ga gk, B = some ⟨ga, 0, none⟩ ∧ nB = init.length + 1 ∧ nB ≤ cB ∧ cB ≤ 9223372036854775807 ∧ w.cell? ⟨ga, init.length * 3 + 2, none⟩ = some (.slice (some ⟨gk, 0, none⟩) 1 1) ∧
      ∀ w9, Below w.heap.size w w9 → Calls Tryz.prog 30 #[rdV A ne ca A2 nm ca2 p, .string (strOf name), .pointer (some ⟨gk, 0, none⟩)] w9 fun e w' =>
        e = .returned (.int .i64 ((intoN s j name u (segOf bs (a + o) (a + o + m))).2 : Int)) ∧ ((intoN s j name u (segOf bs (a + o) (a + o + m))).2 = 0 → ∃ gc' D' vs' vr' E', RdS We K (j + 1) D0 w0 w' p gc0 gc' bs ((⟨m, [m]⟩ : St).lift (a + o) ((a + n) :: r)) g (.mk (withT num (init ++ [⟨0, [], [(intoN s j name u (segOf bs (a + o) (a + o + m))).1]⟩]) x.slots) x.rest) D' vs' vr' E') ∧ ((intoN s j name u (segOf bs (a + o) (a + o + m))).2 ≠ 0 → Lost We K D0 w0 w' p gc0 bs (intoN s j name u (segOf bs (a + o) (a + o + m))).2) ∧ (∀ q, (q < w.heap.size ∧ ¬ D q ∧ q ≠ p ∧ q ≠ gc) ∨ q = ga → w'.heap[q]? = w9.heap[q]?) := by
  obtain ⟨ga, Fk, gk, e1, e2, e3, e4, hcell, hkid, hFD, hKg, hFga, hclose⟩ := kid_open h.r_mt hg hgc hv hm
  unfold maxLen at e4
  refine ⟨ga, gk, e1, e2, e3, e4, hcell, fun w9 hb9 => ?_⟩
  have h9 := rds_bel h hb9
  have hlt := cub_lt h.r_cur
  have hkl := (mt_lt hkid).2
  have hkid9 : MT K (j + 1) Fk w9 gk u := mt_keep (j + 1) (fun b hb => hb9.block b (hkl b hb).1) hb9.size hkid
  refine (hM K w9 p gc bs Fk gk name u (a + o) m ((a + n) :: r) h9.r_cur hlen hbs (by simp; omega) hkid9 (fun e => h.r_p (hFD p e).1) (fun e => h.r_g (hFD gc e).1) (by omega) ht hw).mono ?_
  rintro e w' ⟨he, h0, h1⟩
  have htt : Touch (fun b => Fk b ∨ b = p ∨ b = gc) w9 w' := by
    by_cases hz : (intoN s j name u (segOf bs (a + o) (a + o + m))).2 = 0
    · obtain ⟨_, _, _, _, _, _, _, h5⟩ := h0 hz
      exact h5
    · obtain ⟨_, _, _, _, h5, _⟩ := h1 hz
      exact h5
  refine ⟨he, fun hz => ?_, fun hz => lost_trans h9 (fun b hb => (hFD b hb).1) (h1 hz), fun q hq => ?_⟩
  · obtain ⟨gc', D'', hc', hg', hk', hsub, hng, htc⟩ := h0 hz
    have hDlt : ∀ b, D b → b < w.heap.size := fun b hb => (h.r_mt.o_lt b hb).1
    have hsz : w.heap.size ≤ w'.heap.size := Nat.le_trans hb9.size htc.size
    have hop := hclose w' D'' _ hk' hsz (fun b hb hnb => (htc.block b (Nat.lt_of_lt_of_le (hDlt b hb) hb9.size) (fun e => by
      rcases e with e | e | e
      · exact hnb e
      · exact h.r_p (e ▸ hb)
      · exact h.r_g (e ▸ hb))).trans (hb9.block b (hDlt b hb))) (fun b hb => by
      rcases hsub b hb with h2 | h2
      · exact .inl h2
      · exact .inr (Nat.le_trans hb9.size h2))
    rw [hn0, hs0] at hop
    refine ⟨gc', _, vs, vr, _, hc', hop, fun hd => ?_, fun hd => ?_, fun b hb => ?_, h9.r_t.trans htc (fun i hi => ?_), ?_, h.r_we⟩
    · rcases hd with hd | hd
      · exact h.r_p hd
      · rcases hsub p hd with h2 | h2
        · exact h.r_p (hFD p h2).1
        · have := hb9.size
          omega
    · rcases hd with hd | hd
      · rcases hg' with rfl | hg'
        · exact h.r_g hd
        · have := hDlt gc' hd
          have := hb9.size
          omega
      · exact hng hd
    · rcases hb with hb | hb
      · exact h.r_sub b hb
      · rcases hsub b hb with h2 | h2
        · exact h.r_sub b (hFD b h2).1
        · exact .inr (Nat.le_trans h9.r_t.size h2)
    · rcases hi with hi | rfl | rfl
      · rcases h.r_sub i (hFD i hi).1 with h5 | h5
        · exact .inl (.inl h5)
        · exact .inr h5
      · exact .inl (.inr (.inl rfl))
      · rcases h.r_gc with e | e
        · exact .inl (.inr (.inr e))
        · exact .inr e
    · rcases hg' with rfl | hg'
      · exact h.r_gc
      · exact .inr (Nat.le_trans h9.r_t.size hg')
  · rcases hq with ⟨q1, q2, q3, q4⟩ | rfl
    · exact htt.block q (Nat.lt_of_lt_of_le q1 hb9.size) (fun e => by
        rcases e with e | e | e
        · exact q2 (hFD q e).1
        · exact q3 e
        · exact q4 e)
    · exact htt.block q (Nat.lt_of_lt_of_le (h.r_mt.o_lt q hFga.2).1 hb9.size) (fun e => by
        rcases e with e | e | e
        · exact hFga.1 e
        · exact h.r_p (e ▸ hFga.2)
        · exact h.r_g (e ▸ hFga.2))
/-- A new message's value. -/
def nVa : Va := ⟨0, [], [default]⟩
/-- A new message laid behind the values of a slot. -/
theorem kid_append {num : Int} {B : Option Addr} {n c : Nat} (h : OpT (MT K (j + 1)) K D w g vs vr E x) (hg : GotAt (slC (MT K (j + 1)) E K w) num x.slots B n c) (hla : (getT x.slots num).length ≤ 1000000) (ty : TypeId) :
    ∃ v' w8, (Builtin.append_ #[66, 66] ty #[.slice B n c, .slice (some ⟨w.heap.size + 1, 0, none⟩) 1 1]).run Tryz.prog ((w.alloc (.cells #[.slice none 0 0, .slice none 0 0] 33)).alloc (.cells #[.int .u64 0, .string ⟨#[]⟩, .slice (some ⟨w.heap.size, 0, none⟩) 1 1] 65)) = .ok v' w8 ∧
      (∃ B' n' d', v' = .slice B' n' d' ∧ Hid (n' = (getT x.slots num ++ [nVa]).length ∧ ∃ N : Nat → Prop, w.heap.size ≤ w8.heap.size ∧ (∀ b, D b → ¬ E num b → w8.heap[b]? = w.heap[b]?) ∧ (∀ b, N b → w.heap.size ≤ b ∧ b < w8.heap.size) ∧ MV (MT K (j + 1)) (fun b => E num b ∨ N b) K w8 (.slice B' n' d') (getT x.slots num ++ [nVa]) ∧ Touch D w w8)) := by
  obtain ⟨w1, hw1⟩ : ∃ w1, w1 = w.alloc (.cells #[.slice none 0 0, .slice none 0 0] 33) := ⟨_, rfl⟩
  obtain ⟨w2, hw2⟩ : ∃ w2, w2 = w1.alloc (.cells #[.int .u64 0, .string ⟨#[]⟩, .slice (some ⟨w.heap.size, 0, none⟩) 1 1] 65) := ⟨_, rfl⟩
  have hs1 : w1.heap.size = w.heap.size + 1 := by rw [hw1]; simp
  have hs2 : w2.heap.size = w.heap.size + 2 := by rw [hw2]; simp; omega
  have hb1 : Below w.heap.size w w1 := by rw [hw1]; exact (Below.refl _ w).alloc (Nat.le_refl _) _
  have hb12 : Below w1.heap.size w1 w2 := by rw [hw2]; exact (Below.refl _ w1).alloc (Nat.le_refl _) _
  have hb2 : Below w.heap.size w w2 := vbel hb1 hb12
  have k1 : w2.heap[w.heap.size]? = some (.cells #[.slice none 0 0, .slice none 0 0] 33 (0, 0)) := (hb12.block _ (by omega)).trans (by rw [hw1]; exact heap_alloc_new w _)
  have k2 : w2.heap[w.heap.size + 1]? = some (.cells #[.int .u64 0, .string ⟨#[]⟩, .slice (some ⟨w.heap.size, 0, none⟩) 1 1] 65 (0, 0)) := by rw [← hs1, hw2]; exact heap_alloc_new w1 _
  rw [← hw1, ← hw2]
  have h2 := opT_bel hb2 h
  have hg2 := got_bel h hb2 hg
  obtain ⟨hn, F, hF⟩ := got_mv h2 hg2
  have hElt : ∀ b, E num b → b < w.heap.size := fun b hb => (h.o_lt b (h.o_E num b hb).1).1
  obtain ⟨v', w8, hr, hm, hgr, hmv⟩ := mv_append hF [[.int .u64 0, .string ⟨#[]⟩, .slice (some ⟨w.heap.size, 0, none⟩) 1 1]] [nVa] (fun i b => i = (getT x.slots num).length ∧ b = w.heap.size) rfl (fun i c y hc hy => by
      have hi : i = 0 := by have := (List.getElem?_eq_some_iff.mp hc).1; simp at this; exact this
      subst hi
      simp at hc hy
      subst hc hy
      refine ⟨rfl, by intro u hu; simp at hu; rcases hu with rfl | rfl | rfl <;> rfl, _, _, _, rfl, w.heap.size, rfl, mt_iff (fun b => ⟨fun e => ⟨by simp, e⟩, fun e => e.2⟩) (mt_new j w2 k1 h2.o_hd.h_base)⟩)
    (fun i b hb => ⟨by omega, fun e => by have := hElt b e; omega, by omega⟩) (fun i i' b h1 h2 => by omega) (fun b hb => (h2.o_lt b (h2.o_E num b hb).1).1) ⟨w.heap.size + 1, 0, none⟩ (fun i u hu => by
      rw [Addr.add_lit, Nat.zero_add, obj_cell k2]
      simpa using hu) 1 1 rfl hla (by simp) h2.o_hd.h_base ty
  obtain ⟨A8, d8, e8, _⟩ := mvr_len hm
  subst e8
  have hblk : ∀ b, (Value.slice B n c).ownBlock = some b → E num b := fun b hb => (hF.v_blk b hb).1
  have hvlt := fun b hb => (ownL_blk hm.v_row b hb).2
  refine ⟨_, w8, hr, A8, _, d8, rfl, Lib.hid ⟨rfl, fun b => ((Value.slice A8 (getT x.slots num ++ [nVa]).length d8).ownBlock = some b ∧ w.heap.size ≤ b) ∨ b = w.heap.size, by have := hgr.size; omega, fun b hb hne => (hgr.block b (by have := (h.o_lt b hb).1; omega) (fun e => hne (hblk b e.symm))).trans (hb2.block b (h.o_lt b hb).1), fun b hb => ?_, ⟨_, mvr_mono (fun b hb => ?_) hm⟩, ((Touch.refl D w).then_below hb2).grown hgr (fun k hk => .inl (h.o_E num k (hblk k hk)).1)⟩⟩
  · rcases hb with hb | hb
    · exact ⟨hb.2, hvlt b hb.1⟩
    · have := hgr.size
      omega
  · rcases hb with hb | hb | ⟨_, hb⟩
    · exact .inl hb
    · rcases hmv with e | ⟨q', e, hq'⟩
      · exact .inl (hblk b (by rw [← e]; exact hb))
      · rw [hb] at e
        cases e
        exact .inr (.inl ⟨hb, by omega⟩)
    · exact .inr (.inr hb.2)
end
end Go.Proofs.YtpfdnggacpehdaaGreatDoor

/- The landed layer 22: within. Conditions: those that each theorem names. -/
namespace Go.Proofs.YtpfdnggacpehdaaGreatDoor
open Go.RowKit
set_option linter.unusedVariables false
set_option maxRecDepth 100000

/-- What a message within comes to. -/
def witQ (s : Sc) (j : Nat) (f : Fd) (x : Tr) (tx : List UInt8 × St) : Tr × Nat := if tx.2.fr = [] then (x, 8) else endD f x.slots x.rest (getT x.slots f.num) (intoN s j f.ref (wasD f (getT x.slots f.num)) tx.1)
section
variable {We w0 w : World} {K j p gc0 gc g : Nat} {D0 D : Nat → Prop} {bs : List UInt8} {x : Tr} {vs vr : Value} {E : Int → Nat → Prop} {s : Sc} {A A2 : Option Addr} {ne ca nm ca2 : Nat}
/-- What a call of within leaves. -/
def WitTo (We : World) (K j : Nat) (D0 : Nat → Prop) (w0 : World) (p gc0 : Nat) (bs : List UInt8) (a : Nat) (r : List Nat) (g : Nat) (s2 : St) (q : Tr × Nat) (e : Ending) (w' : World) : Prop :=
  e = .returned (.int .i64 (q.2 : Int)) ∧ (q.2 = 0 → ∃ gc' D' vs' vr' E', RdS We K j D0 w0 w' p gc0 gc' bs (s2.lift a r) g q.1 D' vs' vr' E') ∧ (q.2 ≠ 0 → Lost We K D0 w0 w' p gc0 bs q.2)
/-- Behind the call of message: the frame is left. -/
theorem wit_close {a o n m : Nat} {r : List Nat} {c : Nat} {y : Tr} {s2 : St} (hs2 : s2 = ⟨o + m, [n]⟩) {w1 : World}
    (h0 : c = 0 → ∃ gc' D' vs' vr' E', RdS We K j D0 w0 w1 p gc0 gc' bs ((⟨m, [m]⟩ : St).lift (a + o) ((a + n) :: r)) g y D' vs' vr' E') (h1 : c ≠ 0 → Lost We K D0 w0 w1 p gc0 bs c) :
    Calls Tryz.prog 144 #[.pointer (some ⟨p, 0, none⟩)] w1 fun e w' => (∃ v, e = .returned v) ∧ Hid ((c = 0 → ∃ gc' D' vs' vr' E', RdS We K j D0 w0 w' p gc0 gc' bs (s2.lift a r) g y D' vs' vr' E') ∧ (c ≠ 0 → Lost We K D0 w0 w' p gc0 bs c)) := by
  by_cases hc : c = 0
  · obtain ⟨gc', D', vs', vr', E', h⟩ := h0 hc
    obtain ⟨W, hW, hWe, hcur⟩ := h.r_cur
    refine (close_cur hcur).mono ?_
    rintro e w' ⟨rfl, g2, hg2, hc2, ho2⟩
    rw [shut_way] at hc2
    refine ⟨⟨_, rfl⟩, Lib.hid ⟨fun _ => ⟨g2, D', vs', vr', E', ?_⟩, fun hne => absurd hc hne⟩⟩
    rw [hs2]
    exact rds_cur h hW hWe hg2 hc2 ho2
  · obtain ⟨gc', s', ⟨W, hW, hWe, hcur⟩, h2, h3, h4⟩ := h1 hc
    refine (close_cur hcur).mono ?_
    rintro e w' ⟨rfl, g2, hg2, hc2, ho2⟩
    refine ⟨⟨_, rfl⟩, Lib.hid ⟨fun e => absurd e hc, fun _ => ⟨g2, _, ⟨W, hW, hWe, hc2⟩, ?_, ?_, fun hf => h4 ?_⟩⟩⟩
    · rcases hg2 with rfl | hg2
      · exact h2
      · exact .inr (Nat.le_trans h3.size hg2)
    · refine h3.trans (S' := fun b => b = p ∨ b = gc') ⟨ho2.os, ho2.tape, ho2.output, ho2.size, fun k hk hn => ho2.block k hk (fun e => hn (.inl e)) (fun e => hn (.inr e))⟩ (fun i hi => ?_)
      rcases hi with rfl | rfl
      · exact .inl (.inr (.inl rfl))
      · rcases h2 with e | e
        · exact .inl (.inr (.inr e))
        · exact .inr e
    · unfold St.shuts at hf
      match hfr : s'.fr with
      | [] => rfl
      | [l] => rw [hfr] at hf; dsimp only at hf; rw [hfr] at hf; cases hf
      | l :: l2 :: r' =>
        rw [hfr] at hf
        dsimp only at hf
        split at hf
        · cases hf
        · rw [hfr] at hf; cases hf
/-- Behind the call of message, before the frame is left. -/
def WitMid (We : World) (K j : Nat) (D0 : Nat → Prop) (w0 : World) (p gc0 : Nat) (bs : List UInt8) (a o n m : Nat) (r : List Nat) (g : Nat) (y : Tr) (c : Nat) (e : Ending) (w' : World) : Prop :=
  e = .returned (.int .i64 (c : Int)) ∧ (c = 0 → ∃ gc' D' vs' vr' E', RdS We K j D0 w0 w' p gc0 gc' bs ((⟨m, [m]⟩ : St).lift (a + o) ((a + n) :: r)) g y D' vs' vr' E') ∧ (c ≠ 0 → Lost We K D0 w0 w' p gc0 bs c)
/-- The same, and what is kept. -/
def WitKp (We : World) (K j : Nat) (D0 : Nat → Prop) (w0 : World) (p gc0 : Nat) (bs : List UInt8) (a o n m : Nat) (r : List Nat) (g : Nat) (y : Tr) (c : Nat) (X : Nat → Prop) (w9 : World) (e : Ending) (w' : World) : Prop :=
  WitMid We K j D0 w0 p gc0 bs a o n m r g y c e w' ∧ ∀ q, X q → w'.heap[q]? = w9.heap[q]?
theorem wit_new (hM : PMsg s We A ne ca A2 nm ca2 j) {a o n m : Nat} {r : List Nat} {w8 : World} (h : RdS We K (j + 1) D0 w0 w p gc0 gc bs ((⟨0, [m]⟩ : St).lift (a + o) ((a + n) :: r)) g x D vs vr E) (hlen : a + o + m ≤ bs.length) (hbs : bs.length ≤ 70000) (hr : r.length + (j + 1) = 16) (hm : m ≤ 70000) {num : Int} {name : List UInt8} (hsl : x.slots.length ≤ 800) (hnew : treeN s (j + 1) name default = true)
    {B : Option Addr} {n8 d8 : Nat} (h8 : n8 = (getT x.slots num ++ [nVa]).length ∧ ∃ N : Nat → Prop, w.heap.size ≤ w8.heap.size ∧ (∀ b, D b → ¬ E num b → w8.heap[b]? = w.heap[b]?) ∧ (∀ b, N b → w.heap.size ≤ b ∧ b < w8.heap.size) ∧ MV (MT K (j + 1)) (fun b => E num b ∨ N b) K w8 (.slice B n8 d8) (getT x.slots num ++ [nVa]) ∧ Touch D w w8) :
    Calls Tryz.prog 109 #[.pointer (some ⟨g, 0, none⟩), .int .i64 num, .slice B n8 d8] w8 fun e w9 => e = .returned (.tuple #[]) ∧ ∃ ga gk k, B = some ⟨ga, 0, none⟩ ∧ n8 = k + 1 ∧ k + 1 ≤ d8 ∧ d8 ≤ 9223372036854775807 ∧ w9.cell? ⟨ga, k * 3 + 2, none⟩ = some (.slice (some ⟨gk, 0, none⟩) 1 1) ∧ Hid (∀ b, b < w8.heap.size → ¬ D b → w9.heap[b]? = w8.heap[b]?) ∧
      Hid (∀ w', Below w9.heap.size w9 w' → Calls Tryz.prog 30 #[rdV A ne ca A2 nm ca2 p, .string (strOf name), .pointer (some ⟨gk, 0, none⟩)] w' (WitKp We K (j + 1) D0 w0 p gc0 bs a o n m r g (.mk (withT num (getT x.slots num ++ [⟨0, [], [(intoN s j name default (segOf bs (a + o) (a + o + m))).1]⟩]) x.slots) x.rest) (intoN s j name default (segOf bs (a + o) (a + o + m))).2 (fun q => (q < w.heap.size ∧ ¬ D q ∧ q ≠ p ∧ q ≠ gc) ∨ q = ga) w')) := by
  obtain ⟨hn8, N, hs8, hk8, hN8, hv8, ht8⟩ := h8
  have hlt := cub_lt h.r_cur
  refine (lay_ready (N := N) h.r_mt hs8 hk8 hN8 hn8 (fun _ => hv8) hsl).mono ?_
  rintro e w9 ⟨rfl, D', vs', vr', E', h9, t9, s9, g9⟩
  obtain ⟨ga9, gc9⟩ := g9 (by simp)
  have hr9 : RdS We K (j + 1) D0 w0 w9 p gc0 gc bs ((⟨0, [m]⟩ : St).lift (a + o) ((a + n) :: r)) g (.mk (withT num (getT x.slots num ++ [nVa]) x.slots) x.rest) D' vs' vr' E' := rds_tree2 (N := N) h h9 (ht8.trans t9 (fun _ h => .inl h)) (fun b hb => by
    rcases s9 b hb with h1 | h1 | h1
    · exact .inl h1
    · exact .inr (.inl h1)
    · exact .inr (.inr (Nat.le_trans hs8 h1))) (fun hb => by have := (hN8 p hb).1; omega) (fun hb => by have := (hN8 gc hb).1; omega) (fun b hb => Nat.le_trans h.r_t.size (hN8 b hb).1)
  obtain ⟨ga, gk, e1, e2, e3, e4, hcell, hcall⟩ := wit_call hM hr9 hlen hbs hr ga9 gc9 (init := getT x.slots num) (v := nVa) (u := default) (getT_with num _ x.slots) rfl rfl rfl hnew (by rw [wt_default]; omega)
  refine ⟨rfl, ga, gk, (getT x.slots num).length, e1, e2, by rw [← e2]; exact e3, e4, hcell, Lib.hid (fun b hb hd => t9.block b hb hd), Lib.hid (fun w' hb => (hcall w' hb).mono (fun e w10 hh => ?_))⟩
  obtain ⟨hh1, hh2, hh3, hh4⟩ := hh
  have := And.intro hh1 (And.intro hh2 hh3)
  rw [show (Tr.mk (withT num (getT x.slots num ++ [nVa]) x.slots) x.rest).slots = withT num (getT x.slots num ++ [nVa]) x.slots from rfl, with_with] at this
  refine ⟨this, fun q hq => hh4 q ?_⟩
  rcases hq with ⟨q1, q2, q3, q4⟩ | hq
  · refine .inl ⟨Nat.lt_of_lt_of_le q1 (Nat.le_trans hs8 t9.size), fun hd => ?_, q3, q4⟩
    rcases s9 q hd with h1 | h1 | h1
    · exact q2 h1
    · have := (hN8 q h1).1; omega
    · omega
  · exact .inr hq
theorem wit_old (hM : PMsg s We A ne ca A2 nm ca2 j) {a o n m : Nat} {r : List Nat} (h : RdS We K (j + 1) D0 w0 w p gc0 gc bs ((⟨0, [m]⟩ : St).lift (a + o) ((a + n) :: r)) g x D vs vr E) (hlen : a + o + m ≤ bs.length) (hbs : bs.length ≤ 70000) (hr : r.length + (j + 1) = 16) {num : Int} {name : List UInt8}
    {B : Option Addr} {nB cB : Nat} (hg : GotAt (slC (MT K (j + 1)) E K w) num x.slots B nB cB) (hgc : GotC w vs num x.slots B nB cB) {v : Va} {u : Tr} (hv : getT x.slots num = [v]) (hm : v.vm = [u]) (hn0 : v.vn = 0) (hs0 : v.vs = []) (ht : treeN s (j + 1) name u = true) (hw : wtN (j + 1) u + m ≤ 70000) :
    ∃ ga gk, B = some ⟨ga, 0, none⟩ ∧ nB = 1 ∧ 1 ≤ cB ∧ cB ≤ 9223372036854775807 ∧ w.cell? ⟨ga, 2, none⟩ = some (.slice (some ⟨gk, 0, none⟩) 1 1) ∧
      Hid (∀ w', Below w.heap.size w w' → Calls Tryz.prog 30 #[rdV A ne ca A2 nm ca2 p, .string (strOf name), .pointer (some ⟨gk, 0, none⟩)] w' (WitKp We K (j + 1) D0 w0 p gc0 bs a o n m r g (.mk (withT num [⟨0, [], [(intoN s j name u (segOf bs (a + o) (a + o + m))).1]⟩] x.slots) x.rest) (intoN s j name u (segOf bs (a + o) (a + o + m))).2 (fun q => (q < w.heap.size ∧ ¬ D q ∧ q ≠ p ∧ q ≠ gc) ∨ q = ga) w')) := by
  obtain ⟨ga, gk, e1, e2, e3, e4, hcell, hcall⟩ := wit_call hM h hlen hbs hr hg hgc (init := []) (v := v) (u := u) hv hm hn0 hs0 ht hw
  refine ⟨ga, gk, e1, e2, by rw [e2] at e3; exact e3, e4, by simpa using hcell, Lib.hid (fun w' hb => (hcall w' hb).mono (fun e w10 ⟨h1, h2, h3, h4⟩ => ⟨⟨h1, h2, h3⟩, h4⟩))⟩
theorem wit_fin {s2 : St} {a : Nat} {r : List Nat} {Q q : Tr × Nat} {y z : Tr} {w' : World} (hQ : Q = if q.2 ≠ 0 then (z, q.2) else (y, 0)) (h : (q.2 = 0 → ∃ gc' D' vs' vr' E', RdS We K j D0 w0 w' p gc0 gc' bs (s2.lift a r) g y D' vs' vr' E') ∧ (q.2 ≠ 0 → Lost We K D0 w0 w' p gc0 bs q.2)) : WitTo We K j D0 w0 p gc0 bs a r g s2 Q (.returned (.int .i64 (q.2 : Int))) w' := by
  by_cases hc : q.2 = 0
  · rw [if_neg (fun e => e hc)] at hQ
    rw [hQ]
    exact ⟨by rw [hc], fun _ => h.1 hc, fun e => absurd rfl e⟩
  · rw [if_pos hc] at hQ
    rw [hQ]
    exact ⟨rfl, fun e => absurd e hc, fun _ => h.2 hc⟩
set_option maxHeartbeats 32000000 in
theorem dwithin_any (hM : PMsg s We A ne ca A2 nm ca2 j) {s1 : St} {a n : Nat} {r : List Nat} (h : RdS We K (j + 1) D0 w0 w p gc0 gc bs (s1.lift a r) g x D vs vr E) (hs1 : s1.fr = [n]) (hlen : a + n ≤ bs.length) (hbs : bs.length ≤ 70000) (hr : r.length + (j + 1) = 16) (f : Fd) (hsl : x.slots.length ≤ 800) (hgl : (getT x.slots f.num).length ≤ 70000)
    (hval : ∀ v ∈ getT x.slots f.num, v.vn = 0 ∧ v.vs = [] ∧ ∃ u, v.vm = [u] ∧ treeN s (j + 1) f.ref u = true ∧ wtN (j + 1) u + (s1.rd tText [] (segOf bs a (a + n))).1.length ≤ 70000) (hone : f.rep = false → (getT x.slots f.num).length ≤ 1) (hnew : treeN s (j + 1) f.ref default = true) :
    Calls Tryz.prog 110 #[rdV A ne ca A2 nm ca2 p, .pointer (some ⟨g, 0, none⟩), fdV f] w (WitTo We K (j + 1) D0 w0 p gc0 bs a r g (s1.rd tText [] (segOf bs a (a + n))).2 (witQ s j f x (s1.rd tText [] (segOf bs a (a + n))))) := by
  obtain ⟨w2, hw2⟩ : ∃ w2, w2 = (w.alloc (.cells #[.slice A ne ca, .slice A2 nm ca2, .pointer (some ⟨p, 0, none⟩)] 73)).alloc (.cells #[.string (strOf f.name), .int .i64 f.num, .int .i64 f.ty, .string (strOf f.ref), .bool f.rep, .bool f.loose, .string (strOf f.one)] 43) := ⟨_, rfl⟩
  obtain ⟨k1, k2, hb⟩ := box_two w (.cells #[.slice A ne ca, .slice A2 nm ca2, .pointer (some ⟨p, 0, none⟩)] 73) (.cells #[.string (strOf f.name), .int .i64 f.num, .int .i64 f.ty, .string (strOf f.ref), .bool f.rep, .bool f.loose, .string (strOf f.one)] 43)
  rw [heap_alloc_new] at k1 k2
  rw [← hw2] at k1 k2 hb
  have e9 : (w.alloc (.cells #[.slice A ne ca, .slice A2 nm ca2, .pointer (some ⟨p, 0, none⟩)] 73)).heap.size = w.heap.size + 1 := by simp
  have k2' : w2.heap[w.heap.size + 1]? = some (.cells #[.string (strOf f.name), .int .i64 f.num, .int .i64 f.ty, .string (strOf f.ref), .bool f.rep, .bool f.loose, .string (strOf f.one)] 43 (0, 0)) := by first | exact k2 | (rw [e9] at k2; exact k2)
  have h2 := rds_bel h hb
  have hlt := cub_lt h.r_cur
  obtain ⟨W, hWK, hWe, hcur⟩ := h2.r_cur
  have HOP := Lib.hid (open_cur hcur (by omega))
  have hway := open_way (r := r) hlen hs1
  obtain ⟨tx, htx⟩ : ∃ tx, tx = s1.rd tText [] (segOf bs a (a + n)) := ⟨_, rfl⟩
  rw [← htx] at hway hval ⊢
  obtain ⟨t, s2⟩ := tx
  dsimp only at hway hval ⊢
  have H := Lib.hid h
  have H2 := Lib.hid h2
  have HB := Lib.hid hb
  have HW2 := Lib.hid hw2
  have HK1 := Lib.hid k1
  have HK2 := Lib.hid k2'
  have HLT := Lib.hid hlt
  have HBX : Hid (∀ w6, Only p gc w2 w6 → w6.heap[w.heap.size]? = some (.cells #[.slice A ne ca, .slice A2 nm ca2, .pointer (some ⟨p, 0, none⟩)] 73 (0, 0)) ∧ w6.heap[w.heap.size + 1]? = some (.cells #[.string (strOf f.name), .int .i64 f.num, .int .i64 f.ty, .string (strOf f.ref), .bool f.rep, .bool f.loose, .string (strOf f.one)] 43 (0, 0))) := Lib.hid (fun w6 ho =>
    ⟨(ho.block _ (lt_of_block HK1.out) (by have := HLT.out; omega) (by have := HLT.out; omega)).trans HK1.out, (ho.block _ (lt_of_block HK2.out) (by have := HLT.out; omega) (by have := HLT.out; omega)).trans HK2.out⟩)
  have HRD : Hid (∀ w6 gc' st, (gc' = gc ∨ w2.heap.size ≤ gc') → Cur W w6 p gc' bs st → Only p gc w2 w6 → RdS We K (j + 1) D0 w0 w6 p gc0 gc' bs st g x D vs vr E) := Lib.hid (fun w6 gc' st hg hc ho => rds_cur H2.out hWK hWe hg hc ho)
  have r2 := obj_cell k1 2
  rw [hw2] at r2
  rcases hway with ⟨hf, hop⟩ | ⟨o, t', ht', hs2, hop, hseg, hl2, hon, -⟩
  · rw [hop] at HOP
    have HQ : Hid (witQ s j f x (t, s2) = (x, 8)) := Lib.hid (by unfold witQ; rw [if_pos hf])
    generalize witQ s j f x (t, s2) = Q at *
    unfold rdV fdV
    generalize strOf f.name = s0 at *
    generalize strOf f.ref = s3 at *
    generalize strOf f.one = s6 at *
    obtain ⟨fn, hfn⟩ : ∃ z, z = f.num := ⟨_, rfl⟩
    rw [← hfn] at HW2 HK2 HBX ⊢
    clear h hw2 k1 k2 k2' hb h2 hlt hWK hWe hcur htx hval hone hnew hf hop hsl hgl hs1 hfn
    have hok : St.none.oks = false := rfl
    rw [hok] at HOP
    go_enter Tryz.func110, Tryz.ntmps110
    go_wp2_with (go_at_call 143; (with_reducible rw [← HW2.out]); refine HOP.out.mono ?_; rintro e w6 ⟨rfl, g6, hg6, hc6, ho6⟩; have HR6 := Lib.hid (HRD.out w6 g6 _ hg6 hc6 ho6); clear hg6 hc6 ho6)
    go_ret
    rw [HQ.out]
    exact ⟨rfl, (fun e => by cases e), fun _ => rds_lost HR6.out (fun _ => rfl)⟩
  · subst ht'
    have hnf : s2.fr ≠ [] := by rw [hs2]; simp
    have hnil : (⟨0, [t.length]⟩ : St).fr = [t.length] := rfl
    have hok : ((⟨0, [t.length]⟩ : St).lift (a + o) ((a + n) :: r)).oks = true := rfl
    rw [hop, hok] at HOP
    obtain ⟨had, hhad⟩ : ∃ z, z = getT x.slots f.num := ⟨_, rfl⟩
    have HQ : Hid (witQ s j f x (t, s2) = endD f x.slots x.rest had (intoN s j f.ref (wasD f had) t)) := Lib.hid (by unfold witQ; rw [if_neg hnf, ← hhad])
    have HED : Hid (∀ q, endD f x.slots x.rest had q = if q.2 ≠ 0 then (.mk x.slots x.rest, q.2) else (.mk (withT f.num (cond (oneD f had) [] had ++ [⟨0, [], [q.1]⟩]) x.slots) x.rest, 0)) := Lib.hid (fun q => rfl)
    generalize witQ s j f x (t, s2) = Q at *
    have HGET := Lib.hid (fun (w7 : World) (h7 : OpT (MT K (j + 1)) K D w7 g vs vr E x) => dget_any (shape_ms _ _ _ _) h7.o_hd f.num)
    have HS2 := Lib.hid hs2
    have HSEG := Lib.hid hseg
    have HM := Lib.hid hM
    have hml : t.length ≤ 70000 := by omega
    have HMK : Hid (∀ w1 : World, (Instr.makeSlice 63 (.int .i64 1) (.int .i64 1)).run Tryz.prog w1 = .ok (.slice (some ⟨w1.heap.size, 0, none⟩) 1 1) (w1.alloc (.cells #[.slice none 0 0, .slice none 0 0] 33))) := Lib.hid (fun w1 => by
      obtain ⟨i, i1, i2, i3, i4⟩ := info_ofs info_trs
      have := run_make (P := Tryz.prog) w1 63 33 i _ Tryz.underlying63 i1 i2 .i64 .i64 1 1 (by decide) (by decide) (by rw [i4]; decide) (by decide)
      have hmc : madeCells (Value.agg #[.slice none 0 0, .slice none 0 0]).cells 2 = #[.slice none 0 0, .slice none 0 0] := by kernel_rfl
      rw [this, i3]
      exact congrArg (fun z => Result.ok (Value.slice (some ⟨w1.heap.size, 0, none⟩) 1 1) (w1.alloc (.cells z 33))) hmc)
    have HVAL : Hid (∀ v ∈ had, v.vn = 0 ∧ v.vs = [] ∧ ∃ u, v.vm = [u] ∧ treeN s (j + 1) f.ref u = true ∧ wtN (j + 1) u + t.length ≤ 70000) := Lib.hid (by rw [hhad]; exact hval)
    have HONE : Hid (f.rep = false → had.length ≤ 1) := Lib.hid (by rw [hhad]; exact hone)
    have HHAD := Lib.hid hhad
    have HNEW := Lib.hid hnew
    have HSL := Lib.hid hsl
    have HGL : Hid (had.length ≤ 70000) := Lib.hid (by rw [hhad]; exact hgl)
    have HLN := Lib.hid hl2
    have HBS := Lib.hid hbs
    have HR := Lib.hid hr
    have HTL := Lib.hid hml
    have HOD : Hid (oneD f had = (!f.rep && !had.isEmpty)) := Lib.hid rfl
    have HWAS : Hid (wasD f had = cond (oneD f had) ((had.headD default).vm.headD default) default) := Lib.hid rfl
    generalize oneD f had = od at *
    generalize wasD f had = wd at *
    clear h hw2 k1 k2 k2' hb h2 hlt hWK hWe hcur htx hval hone hnew hop hsl hgl hs1 hnf hnil hok hs2 hseg hl2 hon hml hbs hr hlen hM hhad
    obtain ⟨name, num, ty, ref, rep, loose, one⟩ := f
    dsimp only at *
    unfold rdV fdV
    dsimp only
    generalize strOf name = s0 at *
    generalize strOf one = s6 at *
    obtain ⟨s3, hs3⟩ : ∃ z, z = strOf ref := ⟨_, rfl⟩
    have HS3 := Lib.hid hs3
    rw [← hs3] at HW2 HK2 HBX ⊢
    clear hs3
    have hld : had.length ≤ 70000 := HGL.out
    cases rep with
    | false =>
      rcases hh : had with _ | ⟨v, vl⟩
      · subst hh
        have HODF : Hid (od = false) := Lib.hid (by rw [HOD.out]; rfl)
        have HWD : Hid (wd = default) := Lib.hid (by rw [HWAS.out, HODF.out]; rfl)
        have hmk := HMK.out
        go_enter Tryz.func110, Tryz.ntmps110
        go_wp2_with (first
          | (go_at_call 143; (with_reducible rw [← HW2.out]); refine HOP.out.mono ?_; rintro e w6 ⟨rfl, g6, hg6, hc6, ho6⟩; have HR6 := Lib.hid (HRD.out w6 g6 _ hg6 hc6 ho6); have HO6 := Lib.hid ho6; have HLT6 := Lib.hid (cub_lt HR6.out.r_cur); have HG6 := Lib.hid hg6; have HX6 := Lib.hid (HBX.out w6 ho6); have q1 := obj_cell HX6.out.2 1; have q4 := obj_cell HX6.out.2 4; clear hg6 hc6 ho6 r2)
          | (go_at_call 112; refine (HGET.out w6 HR6.out.r_mt).mono ?_; rintro e w7 ⟨B, nB, cB, rfl, hga, hb7, hgc⟩; have HR7 := Lib.hid (rds_bel HR6.out hb7); have HG7 := Lib.hid (got_bel HR6.out.r_mt hb7 hga); have HGC := Lib.hid hgc; have HBL := Lib.hid (got_mv HR7.out.r_mt HG7.out).1; have kr := (hb7.block _ (lt_of_block HX6.out.1)).trans HX6.out.1; have kf := (hb7.block _ (lt_of_block HX6.out.2)).trans HX6.out.2; have HKR := Lib.hid kr; have HKF := Lib.hid kf; have f1 := obj_cell kf 1; have f4 := obj_cell kf 4; have f3 := obj_cell kf 3; have c0 := obj_cell kr 0; have c1 := obj_cell kr 1; have c2 := obj_cell kr 2; clear hga hgc hb7 kr kf q1 q4; (obtain rfl : nB = 0 := by rw [HBL.out, ← HHAD.out]; rfl))
          | (at_builtin; refine wpList_append_x rfl _ _ rfl rfl rfl (kid_append HR7.out.r_mt HG7.out (by rw [← HHAD.out]; simp) _) ?_; rintro v8 w8 ⟨B8, n8, d8, rfl, H8⟩; have hb8 := H8.out.2; have k8f := (by obtain ⟨N, hs8, hk8, hN8, hv8, ht8⟩ := hb8; exact ht8.block _ (lt_of_block HKF.out) (fun hd => by have := (H.out.r_mt.o_lt _ hd).1; omega) : w8.heap[w.heap.size + 1]? = w7.heap[w.heap.size + 1]?).trans HKF.out; have k8r := (by obtain ⟨N, hs8, hk8, hN8, hv8, ht8⟩ := hb8; exact ht8.block _ (lt_of_block HKR.out) (fun hd => by have := (H.out.r_mt.o_lt _ hd).1; omega) : w8.heap[w.heap.size]? = w7.heap[w.heap.size]?).trans HKR.out; have HK8F := Lib.hid k8f; have HK8R := Lib.hid k8r; have g1 := obj_cell k8f 1; clear hb8 k8f k8r)
          | (go_at_call 109; refine (wit_new (name := ref) HM.out HR7.out HLN.out HBS.out HR.out HTL.out HSL.out HNEW.out (by have := H8.out; exact this)).mono ?_; rintro e w9 ⟨rfl, ga, gk, k, rfl, rfl, hkd, hd8, kc, HKP, HMC⟩; unfold rdV at HMC; rw [← HS3.out] at HMC; have k9f := (HKP.out _ (lt_of_block HK8F.out) (fun hd => by have := (H.out.r_mt.o_lt _ hd).1; omega)).trans HK8F.out; have k9r := (HKP.out _ (lt_of_block HK8R.out) (fun hd => by have := (H.out.r_mt.o_lt _ hd).1; omega)).trans HK8R.out; have i3 := obj_cell k9f 3; have d0 := obj_cell k9r 0; have d1 := obj_cell k9r 1; have d2 := obj_cell k9r 2; have HK9F := Lib.hid k9f; have HK9R := Lib.hid k9r; clear k9f k9r))
        have x1 : IntKind.i64.wrap ((k : Int) + 1 - 1) = (k : Int) := by rw [IntKind.wrap_i64]; omega
        have x2 : (0 : Int) ≤ (k : Int) := by omega
        have x3 : (k : Int) < (k : Int) + 1 := by omega
        have x4 : IntKind.i64.wrap (k : Int) = (k : Int) := by rw [IntKind.wrap_i64]; omega
        have hne : w.heap.size < w7.heap.size ∧ ¬ D w.heap.size ∧ w.heap.size ≠ p ∧ w.heap.size ≠ g6 := ⟨lt_of_block HKR.out, fun hd => by have := (H.out.r_mt.o_lt _ hd).1; omega, by have := HLT.out; omega, by have := HG6.out; have := HLT.out; have := HB.out.size; have e := lt_of_block HK1.out; have := HK2.out; have e2 := lt_of_block HK2.out; omega⟩
        have hne1 : w.heap.size + 1 < w7.heap.size ∧ ¬ D (w.heap.size + 1) ∧ w.heap.size + 1 ≠ p ∧ w.heap.size + 1 ≠ g6 := ⟨lt_of_block HKF.out, fun hd => by have := (H.out.r_mt.o_lt _ hd).1; omega, by have := HLT.out; omega, by have := HG6.out; have := HLT.out; have e2 := lt_of_block HK2.out; omega⟩
        have HNE := Lib.hid (And.intro hne hne1)
        clear hne hne1
        have hcells : w9.cell? ⟨w.heap.size, 0, none⟩ = some (.slice A ne ca) ∧ w9.cell? ⟨w.heap.size, 1, none⟩ = some (.slice A2 nm ca2) ∧ w9.cell? ⟨w.heap.size, 2, none⟩ = some (.pointer (some ⟨p, 0, none⟩)) ∧ w9.cell? ⟨w.heap.size + 1, 3, none⟩ = some (.string s3) ∧ w9.cell? ⟨ga, k * 3 + 2, none⟩ = some (.slice (some ⟨gk, 0, none⟩) 1 1) := ⟨d0, d1, d2, i3, kc⟩
        have HCL := Lib.hid hcells
        go_region_held3 (fun u => u.cell? ⟨w.heap.size, 0, none⟩ = some (.slice A ne ca) ∧ u.cell? ⟨w.heap.size, 1, none⟩ = some (.slice A2 nm ca2) ∧ u.cell? ⟨w.heap.size, 2, none⟩ = some (.pointer (some ⟨p, 0, none⟩)) ∧ u.cell? ⟨w.heap.size + 1, 3, none⟩ = some (.string s3) ∧ u.cell? ⟨ga, k * 3 + 2, none⟩ = some (.slice (some ⟨gk, 0, none⟩) 1 1))
          (first | exact hcells | exact HZ.out | go_keep)
          (first
            | (go_at_call 30; refine (HMC.out _ (drawn_below _ 1)).mono ?_; rintro e w10 ⟨⟨rfl, hc0, hc1⟩, hkp⟩; have HC0 := Lib.hid hc0; have HC1 := Lib.hid hc1; have HZ := Lib.hid (And.intro ((World.cell?_of_block (a := ⟨w.heap.size, 0, none⟩) (hkp _ (.inl HNE.out.1))).trans HCL.out.1) (And.intro ((World.cell?_of_block (a := ⟨w.heap.size, 1, none⟩) (hkp _ (.inl HNE.out.1))).trans HCL.out.2.1) (And.intro ((World.cell?_of_block (a := ⟨w.heap.size, 2, none⟩) (hkp _ (.inl HNE.out.1))).trans HCL.out.2.2.1) (And.intro ((World.cell?_of_block (a := ⟨w.heap.size + 1, 3, none⟩) (hkp _ (.inl HNE.out.2))).trans HCL.out.2.2.2.1) ((World.cell?_of_block (a := ⟨ga, k * 3 + 2, none⟩) (hkp _ (.inr rfl))).trans HCL.out.2.2.2.2))))); have y2 := HZ.out.2.2.1; clear hc0 hc1 hkp))
        go_wp2_with (go_at_call 144; refine (wit_close HS2.out HC0.out HC1.out).mono ?_; rintro e w11 ⟨⟨v, rfl⟩, HCC⟩)
        go_ret
        exact wit_fin (by rw [HQ.out, HED.out, HWD.out, HODF.out, HSEG.out]; (try rw [← HHAD.out]); rfl) HCC.out
      · have hvl : vl = [] := by
          have := HONE.out rfl
          rw [hh] at this
          exact List.eq_nil_of_length_eq_zero (by simpa using this)
        subst hvl
        subst hh
        obtain ⟨hv0, hvs, u, hvm, htree, hwt⟩ := HVAL.out v (by simp)
        have HODF : Hid (od = true) := Lib.hid (by rw [HOD.out]; rfl)
        have HWD : Hid (wd = u) := Lib.hid (by rw [HWAS.out, HODF.out]; show v.vm.headD default = u; rw [hvm]; rfl)
        have x1 : IntKind.i64.wrap ((1 : Int) - 1) = 0 := by rw [IntKind.wrap_i64]; omega
        have x2 : IntKind.i64.wrap (0 : Int) = 0 := by rw [IntKind.wrap_i64]; omega
        go_enter Tryz.func110, Tryz.ntmps110
        go_wp2_with (first
          | (go_at_call 143; (with_reducible rw [← HW2.out]); refine HOP.out.mono ?_; rintro e w6 ⟨rfl, g6, hg6, hc6, ho6⟩; have HR6 := Lib.hid (HRD.out w6 g6 _ hg6 hc6 ho6); have HO6 := Lib.hid ho6; have HLT6 := Lib.hid (cub_lt HR6.out.r_cur); have HG6 := Lib.hid hg6; have HX6 := Lib.hid (HBX.out w6 ho6); have q1 := obj_cell HX6.out.2 1; have q4 := obj_cell HX6.out.2 4; clear hg6 hc6 ho6 r2)
          | (go_at_call 112; refine (HGET.out w6 HR6.out.r_mt).mono ?_; rintro e w7 ⟨B, nB, cB, rfl, hga, hb7, hgc⟩; have HR7 := Lib.hid (rds_bel HR6.out hb7); have HG7 := Lib.hid (got_bel HR6.out.r_mt hb7 hga); have HGC := Lib.hid hgc; have HBL := Lib.hid (got_mv HR7.out.r_mt HG7.out).1; have kr := (hb7.block _ (lt_of_block HX6.out.1)).trans HX6.out.1; have kf := (hb7.block _ (lt_of_block HX6.out.2)).trans HX6.out.2; have HKR := Lib.hid kr; have HKF := Lib.hid kf; have f1 := obj_cell kf 1; have f4 := obj_cell kf 4; have f3 := obj_cell kf 3; have c0 := obj_cell kr 0; have c1 := obj_cell kr 1; have c2 := obj_cell kr 2; clear hga hgc hb7 kr kf q1 q4; obtain ⟨ga, gk, rfl, rfl, hcb1, hcb2, kc, HMC⟩ := wit_old (name := ref) HM.out HR7.out HLN.out HBS.out HR.out HG7.out (HGC.out (by rw [← HHAD.out]; simp)) HHAD.out.symm hvm hv0 hvs htree hwt; unfold rdV at HMC; rw [← HS3.out] at HMC))
        have hne : w.heap.size < w7.heap.size ∧ ¬ D w.heap.size ∧ w.heap.size ≠ p ∧ w.heap.size ≠ g6 := ⟨lt_of_block HKR.out, fun hd => by have := (H.out.r_mt.o_lt _ hd).1; omega, by have := HLT.out; omega, by have := HG6.out; have := HLT.out; have := HB.out.size; have e := lt_of_block HK1.out; have := HK2.out; have e2 := lt_of_block HK2.out; omega⟩
        have hne1 : w.heap.size + 1 < w7.heap.size ∧ ¬ D (w.heap.size + 1) ∧ w.heap.size + 1 ≠ p ∧ w.heap.size + 1 ≠ g6 := ⟨lt_of_block HKF.out, fun hd => by have := (H.out.r_mt.o_lt _ hd).1; omega, by have := HLT.out; omega, by have := HG6.out; have := HLT.out; have e2 := lt_of_block HK2.out; omega⟩
        have HNE := Lib.hid (And.intro hne hne1)
        clear hne hne1
        have hcells : w7.cell? ⟨w.heap.size, 0, none⟩ = some (.slice A ne ca) ∧ w7.cell? ⟨w.heap.size, 1, none⟩ = some (.slice A2 nm ca2) ∧ w7.cell? ⟨w.heap.size, 2, none⟩ = some (.pointer (some ⟨p, 0, none⟩)) ∧ w7.cell? ⟨w.heap.size + 1, 3, none⟩ = some (.string s3) ∧ w7.cell? ⟨ga, 2, none⟩ = some (.slice (some ⟨gk, 0, none⟩) 1 1) := ⟨c0, c1, c2, f3, kc⟩
        have HCL := Lib.hid hcells
        go_region_held3 (fun u => u.cell? ⟨w.heap.size, 0, none⟩ = some (.slice A ne ca) ∧ u.cell? ⟨w.heap.size, 1, none⟩ = some (.slice A2 nm ca2) ∧ u.cell? ⟨w.heap.size, 2, none⟩ = some (.pointer (some ⟨p, 0, none⟩)) ∧ u.cell? ⟨w.heap.size + 1, 3, none⟩ = some (.string s3) ∧ u.cell? ⟨ga, 2, none⟩ = some (.slice (some ⟨gk, 0, none⟩) 1 1))
          (first | exact hcells | exact HZ.out | go_keep)
          (first
            | (go_at_call 30; refine (HMC.out _ (drawn_below _ 1)).mono ?_; rintro e w10 ⟨⟨rfl, hc0, hc1⟩, hkp⟩; have HC0 := Lib.hid hc0; have HC1 := Lib.hid hc1; have HZ := Lib.hid (And.intro ((World.cell?_of_block (a := ⟨w.heap.size, 0, none⟩) (hkp _ (.inl HNE.out.1))).trans HCL.out.1) (And.intro ((World.cell?_of_block (a := ⟨w.heap.size, 1, none⟩) (hkp _ (.inl HNE.out.1))).trans HCL.out.2.1) (And.intro ((World.cell?_of_block (a := ⟨w.heap.size, 2, none⟩) (hkp _ (.inl HNE.out.1))).trans HCL.out.2.2.1) (And.intro ((World.cell?_of_block (a := ⟨w.heap.size + 1, 3, none⟩) (hkp _ (.inl HNE.out.2))).trans HCL.out.2.2.2.1) ((World.cell?_of_block (a := ⟨ga, 2, none⟩) (hkp _ (.inr rfl))).trans HCL.out.2.2.2.2))))); have y2 := HZ.out.2.2.1; clear hc0 hc1 hkp))
        go_wp2_with (go_at_call 144; refine (wit_close HS2.out HC0.out HC1.out).mono ?_; rintro e w11 ⟨⟨v, rfl⟩, HCC⟩)
        go_ret
        exact wit_fin (by rw [HQ.out, HED.out, HWD.out, HODF.out, HSEG.out]; (try rw [← HHAD.out]); rfl) HCC.out
    | true =>
      have HODF : Hid (od = false) := Lib.hid (by rw [HOD.out]; rfl)
      have HWD : Hid (wd = default) := Lib.hid (by rw [HWAS.out, HODF.out]; rfl)
      have hmk := HMK.out
      go_enter Tryz.func110, Tryz.ntmps110
      go_wp2_with (first
        | (go_at_call 143; (with_reducible rw [← HW2.out]); refine HOP.out.mono ?_; rintro e w6 ⟨rfl, g6, hg6, hc6, ho6⟩; have HR6 := Lib.hid (HRD.out w6 g6 _ hg6 hc6 ho6); have HO6 := Lib.hid ho6; have HLT6 := Lib.hid (cub_lt HR6.out.r_cur); have HG6 := Lib.hid hg6; have HX6 := Lib.hid (HBX.out w6 ho6); have q1 := obj_cell HX6.out.2 1; have q4 := obj_cell HX6.out.2 4; clear hg6 hc6 ho6 r2)
        | (go_at_call 112; refine (HGET.out w6 HR6.out.r_mt).mono ?_; rintro e w7 ⟨B, nB, cB, rfl, hga, hb7, hgc⟩; have HR7 := Lib.hid (rds_bel HR6.out hb7); have HG7 := Lib.hid (got_bel HR6.out.r_mt hb7 hga); have HGC := Lib.hid hgc; have HBL := Lib.hid (got_mv HR7.out.r_mt HG7.out).1; have kr := (hb7.block _ (lt_of_block HX6.out.1)).trans HX6.out.1; have kf := (hb7.block _ (lt_of_block HX6.out.2)).trans HX6.out.2; have HKR := Lib.hid kr; have HKF := Lib.hid kf; have f1 := obj_cell kf 1; have f4 := obj_cell kf 4; have f3 := obj_cell kf 3; have c0 := obj_cell kr 0; have c1 := obj_cell kr 1; have c2 := obj_cell kr 2; clear hga hgc hb7 kr kf q1 q4; (obtain rfl : nB = had.length := by rw [HBL.out, ← HHAD.out]))
        | (at_builtin; refine wpList_append_x rfl _ _ rfl rfl rfl (kid_append HR7.out.r_mt HG7.out (by rw [← HHAD.out]; have := HGL.out; omega) _) ?_; rintro v8 w8 ⟨B8, n8, d8, rfl, H8⟩; have hb8 := H8.out.2; have k8f := (by obtain ⟨N, hs8, hk8, hN8, hv8, ht8⟩ := hb8; exact ht8.block _ (lt_of_block HKF.out) (fun hd => by have := (H.out.r_mt.o_lt _ hd).1; omega) : w8.heap[w.heap.size + 1]? = w7.heap[w.heap.size + 1]?).trans HKF.out; have k8r := (by obtain ⟨N, hs8, hk8, hN8, hv8, ht8⟩ := hb8; exact ht8.block _ (lt_of_block HKR.out) (fun hd => by have := (H.out.r_mt.o_lt _ hd).1; omega) : w8.heap[w.heap.size]? = w7.heap[w.heap.size]?).trans HKR.out; have HK8F := Lib.hid k8f; have HK8R := Lib.hid k8r; have g1 := obj_cell k8f 1; clear hb8 k8f k8r)
        | (go_at_call 109; refine (wit_new (name := ref) HM.out HR7.out HLN.out HBS.out HR.out HTL.out HSL.out HNEW.out (by have := H8.out; exact this)).mono ?_; rintro e w9 ⟨rfl, ga, gk, k, rfl, rfl, hkd, hd8, kc, HKP, HMC⟩; unfold rdV at HMC; rw [← HS3.out] at HMC; have k9f := (HKP.out _ (lt_of_block HK8F.out) (fun hd => by have := (H.out.r_mt.o_lt _ hd).1; omega)).trans HK8F.out; have k9r := (HKP.out _ (lt_of_block HK8R.out) (fun hd => by have := (H.out.r_mt.o_lt _ hd).1; omega)).trans HK8R.out; have i3 := obj_cell k9f 3; have d0 := obj_cell k9r 0; have d1 := obj_cell k9r 1; have d2 := obj_cell k9r 2; have HK9F := Lib.hid k9f; have HK9R := Lib.hid k9r; clear k9f k9r))
      have x1 : IntKind.i64.wrap ((k : Int) + 1 - 1) = (k : Int) := by rw [IntKind.wrap_i64]; omega
      have x2 : (0 : Int) ≤ (k : Int) := by omega
      have x3 : (k : Int) < (k : Int) + 1 := by omega
      have x4 : IntKind.i64.wrap (k : Int) = (k : Int) := by rw [IntKind.wrap_i64]; omega
      have hne : w.heap.size < w7.heap.size ∧ ¬ D w.heap.size ∧ w.heap.size ≠ p ∧ w.heap.size ≠ g6 := ⟨lt_of_block HKR.out, fun hd => by have := (H.out.r_mt.o_lt _ hd).1; omega, by have := HLT.out; omega, by have := HG6.out; have := HLT.out; have := HB.out.size; have e := lt_of_block HK1.out; have := HK2.out; have e2 := lt_of_block HK2.out; omega⟩
      have hne1 : w.heap.size + 1 < w7.heap.size ∧ ¬ D (w.heap.size + 1) ∧ w.heap.size + 1 ≠ p ∧ w.heap.size + 1 ≠ g6 := ⟨lt_of_block HKF.out, fun hd => by have := (H.out.r_mt.o_lt _ hd).1; omega, by have := HLT.out; omega, by have := HG6.out; have := HLT.out; have e2 := lt_of_block HK2.out; omega⟩
      have HNE := Lib.hid (And.intro hne hne1)
      clear hne hne1
      have hcells : w9.cell? ⟨w.heap.size, 0, none⟩ = some (.slice A ne ca) ∧ w9.cell? ⟨w.heap.size, 1, none⟩ = some (.slice A2 nm ca2) ∧ w9.cell? ⟨w.heap.size, 2, none⟩ = some (.pointer (some ⟨p, 0, none⟩)) ∧ w9.cell? ⟨w.heap.size + 1, 3, none⟩ = some (.string s3) ∧ w9.cell? ⟨ga, k * 3 + 2, none⟩ = some (.slice (some ⟨gk, 0, none⟩) 1 1) := ⟨d0, d1, d2, i3, kc⟩
      have HCL := Lib.hid hcells
      go_region_held3 (fun u => u.cell? ⟨w.heap.size, 0, none⟩ = some (.slice A ne ca) ∧ u.cell? ⟨w.heap.size, 1, none⟩ = some (.slice A2 nm ca2) ∧ u.cell? ⟨w.heap.size, 2, none⟩ = some (.pointer (some ⟨p, 0, none⟩)) ∧ u.cell? ⟨w.heap.size + 1, 3, none⟩ = some (.string s3) ∧ u.cell? ⟨ga, k * 3 + 2, none⟩ = some (.slice (some ⟨gk, 0, none⟩) 1 1))
        (first | exact hcells | exact HZ.out | go_keep)
        (first
          | (go_at_call 30; refine (HMC.out _ (drawn_below _ 1)).mono ?_; rintro e w10 ⟨⟨rfl, hc0, hc1⟩, hkp⟩; have HC0 := Lib.hid hc0; have HC1 := Lib.hid hc1; have HZ := Lib.hid (And.intro ((World.cell?_of_block (a := ⟨w.heap.size, 0, none⟩) (hkp _ (.inl HNE.out.1))).trans HCL.out.1) (And.intro ((World.cell?_of_block (a := ⟨w.heap.size, 1, none⟩) (hkp _ (.inl HNE.out.1))).trans HCL.out.2.1) (And.intro ((World.cell?_of_block (a := ⟨w.heap.size, 2, none⟩) (hkp _ (.inl HNE.out.1))).trans HCL.out.2.2.1) (And.intro ((World.cell?_of_block (a := ⟨w.heap.size + 1, 3, none⟩) (hkp _ (.inl HNE.out.2))).trans HCL.out.2.2.2.1) ((World.cell?_of_block (a := ⟨ga, k * 3 + 2, none⟩) (hkp _ (.inr rfl))).trans HCL.out.2.2.2.2))))); have y2 := HZ.out.2.2.1; clear hc0 hc1 hkp))
      go_wp2_with (go_at_call 144; refine (wit_close HS2.out HC0.out HC1.out).mono ?_; rintro e w11 ⟨⟨v, rfl⟩, HCC⟩)
      go_ret
      exact wit_fin (by rw [HQ.out, HED.out, HWD.out, HODF.out, HSEG.out]; (try rw [← HHAD.out]); rfl) HCC.out
end
end Go.Proofs.YtpfdnggacpehdaaGreatDoor

/- Layer 22 in plain words (no program here): a message that is read field by field. Conditions: those that each theorem names. -/
namespace Go.Proofs.YtpfdnggacpehdaaGreatDoor
open Go.RowKit Go.Lib
set_option linter.unusedVariables false

/-- So much of a message is read. -/
structure LiveP (s : Sc) (j : Nat) (m : Ms) (x0 : Tr) (seg : List UInt8) (st : St) (acc : List (Rw × Nat)) (u : Tr) : Prop where
  l_half : Half seg st acc
  l_fold : foldD (intoN s j) m x0 (acc.map Prod.fst) = (u, 0)
  l_put : (putR (acc.map Prod.fst)).length ≤ st.at_
  l_ok : ∀ x ∈ acc.map Prod.fst, okR x = true ∧ x.n < 18446744073709551616
section
variable {s : Sc} {j : Nat} {m : Ms} {name : List UInt8} {x0 u v : Tr} {seg : List UInt8} {st : St} {acc : List (Rw × Nat)}
theorem live_start : LiveP s j m x0 seg ⟨0, [seg.length]⟩ [] x0 := ⟨half_start seg, by rw [List.map_nil, foldD], Nat.zero_le _, fun x hx => by simp at hx⟩
theorem live_facts (h : LiveP s j m x0 seg st acc u) (hc : checkT s = 0) (hmv : vMsg s name = some m) (ht : treeN s (j + 2) name x0 = true) : OkT2 s (j + 1) m u ∧ wtN (j + 2) u ≤ wtN (j + 2) x0 + st.at_ := by
  have hm := vMsg_mem hmv
  rw [treeN_iff hmv] at ht
  have h1 := fold_ok hc hm (K := j + 1) (E := intoN s j) (fun n u b hu hz => into_valid hc j (j + 1) n u b (by omega) hu hz) (fun n u b hz => by omega) _ x0 ht h.l_ok (by rw [h.l_fold])
  have h2 := fold_adds hc hm (K := j + 1) (j := j) (E := intoN s j) (fun n u b hu hz => into_valid hc j (j + 1) n u b (by omega) hu hz) (fun n u b hu hz => into_adds hc j (j + 1) n u b (by omega) hu hz) (fun n u b hz => by
    cases j with
    | zero => cases hz
    | succ j => omega) _ x0 ht h.l_ok (by rw [h.l_fold])
  rw [h.l_fold] at h1 h2
  have h3 : wtN (j + 2) u ≤ wtN (j + 2) x0 + (putR (acc.map Prod.fst)).length := h2.a_wt
  exact ⟨h1, by have := h.l_put; omega⟩
theorem live_done (h : LiveP s j m x0 seg st acc u) (hmv : vMsg s name = some m) (hm : st.more = false) : intoN s (j + 1) name x0 seg = (u, 0) := by
  rw [intoN_end hmv]; exact end_done h.l_half hm h.l_fold
theorem live_fail (h : LiveP s j m x0 seg st acc u) (hmv : vMsg s name = some m) (hm : st.more = true) (hb : (oneS seg st).2.fr = []) : (intoN s (j + 1) name x0 seg).2 = 8 := by
  rw [intoN_end hmv, end_fail h.l_half hm hb h.l_fold]
theorem live_stop (h : LiveP s j m x0 seg st acc u) (hmv : vMsg s name = some m) (hm : st.more = true) (hb : (oneS seg st).2.fr ≠ []) (hx : (stepD (intoN s j) m u (oneS seg st).1).2 ≠ 0) : (intoN s (j + 1) name x0 seg).2 = (stepD (intoN s j) m u (oneS seg st).1).2 := by
  rw [intoN_end hmv]; exact end_stop h.l_half hm hb h.l_fold hx
theorem live_next (h : LiveP s j m x0 seg st acc u) (hm : st.more = true) (hb : (oneS seg st).2.fr ≠ []) (hx : stepD (intoN s j) m u (oneS seg st).1 = (v, 0)) : LiveP s j m x0 seg (oneS seg st).2 (acc ++ [((oneS seg st).1, st.at_)]) v := by
  obtain ⟨o1, o2, o3, o4⟩ := one_right h.l_half.right (l := seg.length) (r := []) h.l_half.fr hb
  refine ⟨h.l_half.step hm hb, fold_snoc h.l_fold hx, ?_, fun x hx' => ?_⟩
  · rw [List.map_append, putR_append, List.length_append]
    have hp : (putR ([((oneS seg st).1, st.at_)].map Prod.fst)).length = (bytesR (oneS seg st).1).length := by
      show (bytesR (oneS seg st).1 ++ putR []).length = _
      rw [List.length_append]; rfl
    rw [hp]
    have := h.l_put
    omega
  · rw [List.map_append] at hx'
    rcases List.mem_append.mp hx' with h1 | h1
    · exact h.l_ok x h1
    · have : x = (oneS seg st).1 := by simpa using h1
      rw [this]; exact ⟨o1, o2⟩
end
theorem sub_length {l m : List Int} : l.Nodup → (∀ x ∈ l, x ∈ m) → l.length ≤ m.length := by
  induction l generalizing m with
  | nil => intro _ _; exact Nat.zero_le _
  | cons a l ih =>
    intro hn hs
    have ha : a ∈ m := hs a List.mem_cons_self
    rw [List.nodup_cons] at hn
    have h1 := ih (m := m.erase a) hn.2 (fun x hx => (List.mem_erase_of_ne (fun e => hn.1 (by rw [← e]; exact hx))).mpr (hs x (List.mem_cons_of_mem _ hx)))
    rw [List.length_erase_of_mem ha] at h1
    have := List.length_pos_of_mem ha
    rw [List.length_cons]
    omega
theorem slots_few {V : List UInt8 → Tr → Bool} {m : Ms} {l : List Slt} (h : OkS V m l) : l.length ≤ m.fields.length := by
  have hn : (l.map (·.snum)).Nodup := h.o_rise.imp (fun h => by omega)
  have := sub_length hn (m := m.fields.map Fd.num) (fun x hx => by
    obtain ⟨z, hz, rfl⟩ := List.mem_map.mp hx
    obtain ⟨f, hf, _⟩ := slotT_more (h.o_slot z hz)
    exact List.mem_map.mpr ⟨f, vFld_mem hf, vFld_num hf⟩)
  simpa using this
section
variable {f : Fd} {num wire : Int} {n : Nat} {t : List UInt8}
theorem vals_eq (hty : 1 ≤ f.ty ∧ f.ty ≤ 15) (h15 : f.ty ≠ 15) (h : mayD f wire = true) (hr : (wire = 2 ∧ n = 0) ∨ (wire ≠ 2 ∧ t = [])) (h14 : numberT f.ty = true ∨ f.ty = 12 ∨ f.ty = 13 ∨ f.ty = 15) : valsD f ⟨num, wire, n, t⟩ = valsQ f wire n t := by
  unfold mayD at h
  by_cases hw : wire = wireT f.ty
  · have hQ : valsQ f wire n t = if f.ty = 12 ∧ Lib.validD t = false then none else some [⟨fromT f.ty n, t, []⟩] := by unfold valsQ; rw [if_neg (fun e => e hw)]
    rw [hQ]
    cases hnum : numberT f.ty with
    | true =>
      have h2 := wire_2 hnum
      have ht : t = [] := by
        rcases hr with h1 | h1
        · exact absurd (hw ▸ h1.1) h2
        · exact h1.2
      have h12 : f.ty ≠ 12 := fun e => by rw [e] at hnum; exact absurd hnum (by decide)
      have hw2 : wire ≠ 2 := by rw [hw]; exact h2
      have hD : valsD f ⟨num, wire, n, t⟩ = some [⟨fromT f.ty n, [], []⟩] := by
        unfold valsD
        dsimp only
        rw [hnum, decide_eq_false hw2, Bool.and_false, if_neg (by decide), if_neg (fun e => by rcases e with e | e; exact e hw; exact h12 e.1), if_pos rfl]
      rw [hD, if_neg (fun e => h12 e.1), ht]
    | false =>
      have hf0 : wireT f.ty = 2 := by
        rcases h14 with h1 | h1 | h1 | h1
        · rw [hnum] at h1; cases h1
        · rw [h1]; decide
        · rw [h1]; decide
        · exact absurd h1 h15
      have hn0 : n = 0 := by
        rcases hr with h1 | h1
        · exact h1.2
        · exact absurd (hw.trans hf0) h1.1
      have hD : valsD f ⟨num, wire, n, t⟩ = if wire ≠ wireT f.ty ∨ (f.ty = 12 ∧ Lib.validD t = false) then none else some [⟨0, t, []⟩] := by
        unfold valsD
        dsimp only
        rw [hnum, Bool.and_false, Bool.false_and, if_neg (by decide), if_neg (show ¬ false = true by decide)]
      rw [hD]
      by_cases hv : f.ty = 12 ∧ Lib.validD t = false
      · rw [if_pos (.inr hv), if_pos hv]
      · rw [if_neg (fun e => by rcases e with e | e; exact e hw; exact hv e), if_neg hv, hn0, from_zero]
  · have hQ : valsQ f wire n t = (unpackO f t).map (fun l => l.map vN) := by unfold valsQ; rw [if_pos hw]
    rw [hQ]
    have : (f.rep && numberT f.ty && decide (wire = 2)) = true := by
      rw [decide_eq_false hw, Bool.or_false] at h
      rw [Bool.and_assoc]; exact h
    unfold valsD
    dsimp only
    rw [if_pos this]
    rfl
theorem vals_not (h : mayD f wire = false) : valsD f ⟨num, wire, n, t⟩ = none := by
  unfold mayD at h
  rw [Bool.or_eq_false_iff] at h
  unfold valsD
  dsimp only
  rw [Bool.and_assoc, h.1, if_neg (by decide), if_pos (.inl (of_decide_eq_false h.2))]
theorem vals_15 (h15 : f.ty = 15) (h : mayD f wire = true) : wire = 2 ∧ ∃ l, valsD f ⟨num, wire, n, t⟩ = some l := by
  unfold mayD at h
  have hn : numberT f.ty = false := by rw [h15]; decide
  have hw : wireT f.ty = 2 := by rw [h15]; decide
  rw [hn, Bool.false_and, Bool.and_false, Bool.false_or, decide_eq_true_eq, hw] at h
  refine ⟨h, [⟨0, t, []⟩], ?_⟩
  unfold valsD
  dsimp only
  rw [hn, Bool.and_false, Bool.false_and, if_neg (by decide), if_neg (fun e => by rcases e with e | e; exact e (by rw [hw]; exact h); (rw [h15] at e; exact absurd e.1 (by decide))), if_neg (by decide)]
end
theorem read_form (wire : Int) (bs : List UInt8) (st : St) : (wire = 2 ∧ (readS wire bs st).1.1 = 0) ∨ (wire ≠ 2 ∧ (readS wire bs st).1.2 = []) := by
  unfold readS
  by_cases h2 : wire = 2
  · left
    rw [if_neg (by omega), if_pos h2]
    exact ⟨h2, rfl⟩
  · right
    refine ⟨h2, ?_⟩
    split
    · rfl
    · split <;> rfl
end Go.Proofs.YtpfdnggacpehdaaGreatDoor

/- The landed layer 22: lay, of messages; what a message is between two fields. Conditions: those that each theorem names. -/
namespace Go.Proofs.YtpfdnggacpehdaaGreatDoor
open Go.RowKit
set_option linter.unusedVariables false
set_option maxRecDepth 100000

section
variable {We w0 w : World} {K j p gc0 gc g : Nat} {D0 D : Nat → Prop} {bs : List UInt8} {x : Tr} {vs vr : Value} {E : Int → Nat → Prop} {s : Sc} {A A2 : Option Addr} {ne ca nm ca2 : Nat}
set_option maxHeartbeats 8000000 in
theorem dlay15_any (hM : PMsg s We A ne ca A2 nm ca2 j) {s1 : St} {a n : Nat} {r : List Nat} (h : RdS We K (j + 1) D0 w0 w p gc0 gc bs (s1.lift a r) g x D vs vr E) (hs1 : s1.fr = [n]) (hlen : a + n ≤ bs.length) (hbs : bs.length ≤ 70000) (hr : r.length + (j + 1) = 16) (f : Fd) (wire : Int) (h15 : f.ty = 15) (hsl : x.slots.length ≤ 800) (hgl : (getT x.slots f.num).length ≤ 70000)
    (hval : ∀ v ∈ getT x.slots f.num, v.vn = 0 ∧ v.vs = [] ∧ ∃ u, v.vm = [u] ∧ treeN s (j + 1) f.ref u = true ∧ wtN (j + 1) u + (s1.rd tText [] (segOf bs a (a + n))).1.length ≤ 70000) (hone : f.rep = false → (getT x.slots f.num).length ≤ 1) (hnew : treeN s (j + 1) f.ref default = true) :
    Calls Tryz.prog 70 #[rdV A ne ca A2 nm ca2 p, .pointer (some ⟨g, 0, none⟩), fdV f, .int .i64 wire] w (WitTo We K (j + 1) D0 w0 p gc0 bs a r g (s1.rd tText [] (segOf bs a (a + n))).2 (witQ s j f x (s1.rd tText [] (segOf bs a (a + n))))) := by
  obtain ⟨w2, hw2⟩ : ∃ w2, w2 = (w.alloc (.cells #[.slice A ne ca, .slice A2 nm ca2, .pointer (some ⟨p, 0, none⟩)] 73)).alloc (.cells #[.string (strOf f.name), .int .i64 f.num, .int .i64 f.ty, .string (strOf f.ref), .bool f.rep, .bool f.loose, .string (strOf f.one)] 43) := ⟨_, rfl⟩
  obtain ⟨k1, k2, hb⟩ := box_two w (.cells #[.slice A ne ca, .slice A2 nm ca2, .pointer (some ⟨p, 0, none⟩)] 73) (.cells #[.string (strOf f.name), .int .i64 f.num, .int .i64 f.ty, .string (strOf f.ref), .bool f.rep, .bool f.loose, .string (strOf f.one)] 43)
  rw [heap_alloc_new] at k1 k2
  rw [← hw2] at k1 k2 hb
  have HC := Lib.hid (dwithin_any hM (rds_bel h hb) hs1 hlen hbs hr f hsl hgl hval hone hnew)
  have c0 := obj_cell k1 0
  have c1 := obj_cell k1 1
  have c2 := obj_cell k1 2
  have b0 := obj_cell k2 0
  have b1 := obj_cell k2 1
  have b2 := obj_cell k2 2
  have b3 := obj_cell k2 3
  have b4 := obj_cell k2 4
  have b5 := obj_cell k2 5
  have b6 := obj_cell k2 6
  have e15 : (f.ty == 15) = true := by rw [h15]; rfl
  have HW2 := Lib.hid hw2
  rw [hw2] at c0 c1 c2 b0 b1 b2 b3 b4 b5 b6
  unfold rdV fdV at HC ⊢
  generalize strOf f.name = s0 at *
  generalize strOf f.ref = s3 at *
  generalize strOf f.one = s6 at *
  generalize witQ s j f x (s1.rd tText [] (segOf bs a (a + n))) = Q at *
  obtain ⟨ty, hty⟩ : ∃ z, z = f.ty := ⟨_, rfl⟩
  rw [← hty] at b2 e15 HW2 HC ⊢
  clear h hw2 k1 k2 hb h15 hval hone hnew hsl hgl hs1 hlen hbs hr hM hty
  go_enter Tryz.func70, Tryz.ntmps70
  go_wp2_with (go_at_call 110; (with_reducible rw [← HW2.out]); refine HC.out.mono ?_; rintro e w6 ⟨rfl, h6⟩; have H6 := Lib.hid h6; clear h6)
  go_ret
  exact ⟨rfl, H6.out⟩
/-- The loop is left. -/
def EndB (We : World) (K : Nat) (D : Nat → Prop) (w : World) (p gc : Nat) (bs : List UInt8) (q : Nat) (c : Nat) (w9 : World) : Prop := ∃ gc' s', CuB We K w9 p gc' bs s' ∧ (gc' = gc ∨ w.heap.size ≤ gc') ∧ Touch (fun b => D b ∨ b = p ∨ b = gc) w w9 ∧ q ≠ 0 ∧ (s'.fr = [] → q = 8) ∧ (s'.fr ≠ [] → c = q)
theorem endB_lost {q c : Nat} {w9 : World} (h : EndB We K D w p gc bs q c w9) : Lost We K D w w9 p gc bs q := by
  obtain ⟨gc', s', h1, h2, h3, h4, h5, h6⟩ := h
  exact ⟨gc', s', h1, h2, h3, h5⟩
/-- What Ok tells at the end. -/
theorem endB_ok {q c : Nat} {w9 : World} (h : EndB We K D w p gc bs q c w9) : ∃ b, Calls Tryz.prog 40 #[.pointer (some ⟨p, 0, none⟩)] w9 (fun e w' => e = .returned (.bool b) ∧ w9 = w') ∧ (b = false → q = 8) ∧ (b = true → c = q) := by
  obtain ⟨gc', s', ⟨W, hW, hWe, hc⟩, h2, h3, h4, h5, h6⟩ := h
  refine ⟨s'.oks, ok_cur hc, fun hb => h5 ?_, fun hb => h6 ?_⟩
  · unfold St.oks at hb
    cases hf : s'.fr with
    | nil => rfl
    | cons => rw [hf] at hb; cases hb
  · intro hf
    unfold St.oks at hb
    rw [hf] at hb
    cases hb
end
end Go.Proofs.YtpfdnggacpehdaaGreatDoor

/- Layer 22 in plain words (no program here): what is known of a message between two fields. Conditions: those that each theorem names. -/
namespace Go.Proofs.YtpfdnggacpehdaaGreatDoor
open Go.RowKit
set_option linter.unusedVariables false

theorem types15 {ty : Int} (h : 1 ≤ ty ∧ ty ≤ 15) : numberT ty = true ∨ ty = 12 ∨ ty = 13 ∨ ty = 15 := by
  unfold numberT wholeT
  simp only [Bool.or_eq_true, decide_eq_true_eq]
  omega
theorem sum_get {wt : Tr → Nat} {l : List Slt} {num : Int} {k : Nat} (h : wtS wt l ≤ k) : (getT l num).length ≤ k ∧ ∀ v ∈ getT l num, ∀ u ∈ v.vm, wt u ≤ k := by
  have h1 := (wtS_drop (wt := wt) (num := num) l).2
  by_cases e : getT l num = []
  · rw [e]
    exact ⟨Nat.zero_le _, fun v hv => by cases hv⟩
  · have h2 := h1 e
    have h3 : wtV wt (getT l num) ≤ k := by omega
    refine ⟨Nat.le_trans (sum_len (fun v => by omega) _) h3, fun v hv u hu => ?_⟩
    have h4 : 1 + v.vs.length + sumB wt v.vm ≤ k := sum_mem_le (f := fun v : Va => 1 + v.vs.length + sumB wt v.vm) h3 hv
    exact sum_mem_le (n := k) (by omega) hu
/-- What is known of a message between two fields. -/
theorem live_ready {s : Sc} {j : Nat} {m : Ms} {name : List UInt8} {x0 u : Tr} {seg : List UInt8} {st : St} {acc : List (Rw × Nat)} (h : LiveP s j m x0 seg st acc u) (hc : checkT s = 0) (hmv : vMsg s name = some m) (ht : treeN s (j + 2) name x0 = true) (hw : wtN (j + 2) x0 + seg.length ≤ 70000) (hf200 : m.fields.length ≤ 200) :
    u.rest.length ≤ 70000 ∧ u.slots.length ≤ 200 ∧ st.at_ ≤ seg.length ∧ ∀ (f : Fd) (num : Int), vFld m num = some f → (1 ≤ f.ty ∧ f.ty ≤ 15) ∧ f.num = num ∧ (othersD m f u.slots).length ≤ 200 ∧ (getT (othersD m f u.slots) f.num).length ≤ 70000 ∧
      (f.ty = 15 → (∀ v ∈ getT (othersD m f u.slots) f.num, v.vn = 0 ∧ v.vs = [] ∧ ∃ k, v.vm = [k] ∧ treeN s (j + 1) f.ref k = true ∧ wtN (j + 1) k + (seg.length - st.at_) ≤ 70000) ∧ (f.rep = false → (getT (othersD m f u.slots) f.num).length ≤ 1) ∧ treeN s (j + 1) f.ref default = true) := by
  obtain ⟨hok, hwt⟩ := live_facts h hc hmv ht
  have hfew := slots_few hok.1
  have hat : st.at_ ≤ seg.length := by
    have hR := h.l_half.right
    unfold Right at hR
    rw [h.l_half.fr] at hR
    exact hR.1
  have hwu : sumB (fun r : Rw => 1 + r.s.length) u.rest + wtS (wtN (j + 1)) u.slots ≤ wtN (j + 2) x0 + st.at_ := hwt
  have hrl := sum_len (f := fun r : Rw => 1 + r.s.length) (fun r => by omega) u.rest
  refine ⟨by omega, by omega, hat, fun f num hf => ?_⟩
  have hn := vFld_num hf
  have hfm := vFld_mem hf
  have hm := vMsg_mem hmv
  obtain ⟨_, _, _, _, c2, c3, _, _⟩ := fcheck_ok (sch_field hc hm hfm)
  have hsub := othersD_sub m f u.slots
  have hws : wtS (wtN (j + 1)) (othersD m f u.slots) ≤ wtN (j + 2) x0 + st.at_ := by
    have hs2 : wtS (wtN (j + 1)) (othersD m f u.slots) ≤ wtS (wtN (j + 1)) u.slots := sumB_sub' hsub
    omega
  have hg := sum_get (num := f.num) hws
  have hg1 := hg.1
  refine ⟨⟨by omega, by omega⟩, hn, by have := hsub.length_le; omega, by omega, fun h15 => ?_⟩
  have hoks := hok.1.sub hsub
  have hf' : vFld m f.num = some f := by rw [hn]; exact hf
  refine ⟨fun v hv => ?_, fun hr => ?_, ?_⟩
  · have he := got_each hoks hf' v hv
    unfold eachV at he
    rw [Bool.and_eq_true] at he
    have hv15 := he.1
    rw [val_15 h15] at hv15
    simp only [Bool.and_eq_true, decide_eq_true_eq] at hv15
    obtain ⟨e1, e2, e3⟩ := hv15
    match hvm : v.vm, e3 with
    | [k], e3 =>
      refine ⟨e1, e2, k, rfl, e3, ?_⟩
      have := hg.2 v hv k (by rw [hvm]; simp)
      omega
  · rcases getT_mem (num := f.num) (l := othersD m f u.slots) with e | ⟨z, hz, h1, h2⟩
    · rw [e]; exact Nat.zero_le _
    · obtain ⟨g, g1, _, g3, _⟩ := slotT_more (hoks.o_slot z hz)
      rw [h1, hf'] at g1
      obtain rfl := Option.some.inj g1
      rcases g3 with g3 | g3
      · rw [hr] at g3; cases g3
      · rw [← h2]; exact g3
  · show treeN s (j + 1) f.ref (.mk [] []) = true
    rw [tree_empty]
    exact decide_eq_true (ref_there hc hm hfm h15)
end Go.Proofs.YtpfdnggacpehdaaGreatDoor

/- The landed layer 22: message. Conditions: those that each theorem names. -/
namespace Go.Proofs.YtpfdnggacpehdaaGreatDoor
open Go.RowKit
set_option linter.unusedVariables false
set_option maxRecDepth 100000

section
variable {We w0 w : World} {K j p gc0 gc g : Nat} {D0 D : Nat → Prop} {bs : List UInt8} {x : Tr} {vs vr : Value} {E : Int → Nat → Prop} {s : Sc} {A A2 : Option Addr} {ne ca nm ca2 : Nat}
/-- Behind a call of alone. -/
theorem alone_rds {st : St} {sl' : List Slt} {w5 : World} (h : RdS We K j D0 w0 w p gc0 gc bs st g x D vs vr E) (h5 : SetTo (slC (MT K j) E K w) K w g vs vr sl' w5) : ∃ D' vs' vr' E', RdS We K j D0 w0 w5 p gc0 gc bs st g (.mk sl' x.rest) D' vs' vr' E' := by
  have h6 : SetTo (slC (MT K j) (E2 E 0 (fun _ => False)) K w) K w g vs vr sl' w5 := by
    obtain ⟨v', hh, h2, h3⟩ := h5
    exact ⟨v', ⟨hh.h_blk, ownL_keep hh.h_row (fun c y hc => ms_stay h.r_mt (fun _ _ => rfl) (Nat.le_refl _) c y rfl hc) (fun _ _ => rfl), hh.h_rise, hh.h_len, hh.h_base⟩, h2, h3⟩
  obtain ⟨vs', h1, h2, h3, _⟩ := lay_post h.r_mt (Nat.le_refl _) (fun _ _ => rfl) (fun b hb => hb.elim) h6
  refine ⟨_, _, _, _, rds_tree h h1 (h2.mono (fun b hb => ?_)) (fun b hb => ?_)⟩
  · rcases hb with rfl | hb
    · exact h.r_mt.o_g
    · exact (h.r_mt.o_s b hb).1
  · rcases h3 b hb with h4 | h4 | h4
    · exact .inl h4
    · exact h4.elim
    · exact .inr h4
/-- What is left beside the tree and the cursor. -/
theorem rds_box {st : St} {b : Nat} {o : Obj} (h : RdS We K j D0 w0 w p gc0 gc bs st g x D vs vr E) (hb : w0.heap[b]? = some o) (h1 : ¬ D0 b) (h2 : b ≠ p) (h3 : b ≠ gc0) : w.heap[b]? = some o :=
  (h.r_t.block b (lt_of_some hb) (fun e => by
    rcases e with e | e | e
    · exact h1 e
    · exact h2 e
    · exact h3 e)).trans hb
/-- What a message is that was left alone. -/
structure DeadB (We : World) (K : Nat) (D : Nat → Prop) (w : World) (p gc : Nat) (bs : List UInt8) (q : Nat) (w9 : World) : Prop where
  d_q : q = 8
  d_e : ∃ gc' s', CuB We K w9 p gc' bs s' ∧ (gc' = gc ∨ w.heap.size ≤ gc') ∧ Touch (fun b => D b ∨ b = p ∨ b = gc) w w9 ∧ s'.fr = []
theorem rds_dead {st : St} {q : Nat} (h : RdS We K j D0 w0 w p gc0 gc bs st g x D vs vr E) (hf : st.fr = []) (hq : q = 8) : DeadB We K D0 w0 p gc0 bs q w := ⟨hq, gc, st, h.r_cur, h.r_gc, h.r_t, hf⟩
theorem dead_end {q c : Nat} {w9 : World} (h : DeadB We K D w p gc bs q w9) : EndB We K D w p gc bs q c w9 := by
  obtain ⟨rfl, gc', s', h1, h2, h3, h4⟩ := h
  exact ⟨gc', s', h1, h2, h3, by decide, fun _ => rfl, fun e => absurd h4 e⟩
theorem dead_more {q : Nat} {w9 : World} (h : DeadB We K D w p gc bs q w9) : Calls Tryz.prog 36 #[.pointer (some ⟨p, 0, none⟩)] w9 fun e w' => e = .returned (.bool false) ∧ ∃ n, w' = w9.drewN n := by
  obtain ⟨_, gc', s', ⟨W, hW, hWe, hc⟩, h2, h3, h4⟩ := h
  have := more_cur hc
  have hm : s'.more = false := by unfold St.more; rw [h4]
  rwa [hm] at this
theorem dead_bel {q : Nat} {w9 w' : World} (h : DeadB We K D w p gc bs q w9) (hb : Below w9.heap.size w9 w') : DeadB We K D w p gc bs q w' := by
  obtain ⟨h0, gc', s', h1, h2, h3, h4⟩ := h
  exact ⟨h0, gc', s', cub_bel h1 hb, h2, h3.then_below hb, h4⟩
theorem rds_end {st : St} {q c : Nat} (h : RdS We K j D0 w0 w p gc0 gc bs st g x D vs vr E) (hq : q ≠ 0) (hf : st.fr = [] → q = 8) (hc : st.fr ≠ [] → c = q) : EndB We K D0 w0 p gc0 bs q c w := ⟨gc, st, h.r_cur, h.r_gc, h.r_t, hq, hf, hc⟩
theorem lost_end {q : Nat} {w9 : World} (h : Lost We K D w w9 p gc bs q) (hq : q ≠ 0) : EndB We K D w p gc bs q q w9 := by
  obtain ⟨gc', s', h1, h2, h3, h4⟩ := h
  exact ⟨gc', s', h1, h2, h3, hq, h4, fun _ => rfl⟩
/-- How message ends, when it does so in tears. -/
theorem msg_lost {wB : World} {a n : Nat} {r : List Nat} {q : Tr × Nat} {w9 : World} (hb : Below w.heap.size w wB) (h : Lost We K D wB w9 p gc bs q.2) (hq : q.2 ≠ 0) : MsgTo We K j D w p gc bs a n r g q (.returned (.int .i64 (q.2 : Int))) w9 := by
  obtain ⟨gc', s', h1, h2, h3, h4⟩ := h
  refine ⟨rfl, fun e => absurd e hq, fun _ => ⟨gc', s', h1, ?_, (Touch.of_below _ hb).trans h3 (fun _ h => .inl h), h4⟩⟩
  rcases h2 with e | e
  · exact .inl e
  · exact .inr (Nat.le_trans hb.size e)
theorem msg_done {wB : World} {a n : Nat} {r : List Nat} {u : Tr} {w9 : World} {gc' : Nat} {D' : Nat → Prop} (hb : Below w.heap.size w wB) (h : RdS We K j D wB w9 p gc gc' bs ((⟨n, [n]⟩ : St).lift a r) g u D' vs vr E) : MsgTo We K j D w p gc bs a n r g (u, 0) (.returned (.int .i64 0)) w9 := by
  refine ⟨rfl, fun _ => ⟨gc', D', h.r_cur, ?_, ⟨vs, vr, E, h.r_mt⟩, fun b hb' => ?_, h.r_g, (Touch.of_below _ hb).trans h.r_t (fun _ h => .inl h)⟩, fun e => absurd rfl e⟩
  · rcases h.r_gc with e | e
    · exact .inl e
    · exact .inr (Nat.le_trans hb.size e)
  · rcases h.r_sub b hb' with e | e
    · exact .inl e
    · exact .inr (Nat.le_trans hb.size e)
theorem dead_ok {q : Nat} {w9 : World} (h : DeadB We K D w p gc bs q w9) : Calls Tryz.prog 40 #[.pointer (some ⟨p, 0, none⟩)] w9 fun e w' => e = .returned (.bool false) ∧ w9 = w' := by
  obtain ⟨_, gc', s', ⟨W, hW, hWe, hc⟩, h2, h3, h4⟩ := h
  have := ok_cur hc
  have hm : s'.oks = false := by unfold St.oks; rw [h4]; rfl
  rwa [hm] at this
theorem rds_self {st : St} (h : RdS We K j D0 w0 w p gc0 gc bs st g x D vs vr E) : RdS We K j D w w p gc gc bs st g x D vs vr E :=
  ⟨h.r_cur, h.r_mt, h.r_p, h.r_g, fun b hb => .inl hb, Touch.refl _ _, .inl rfl, h.r_we⟩
theorem rds_trans {st st2 : St} {w9 : World} {gc9 : Nat} {D9 : Nat → Prop} {y : Tr} {vs9 vr9 : Value} {E9 : Int → Nat → Prop} (h : RdS We K j D0 w0 w p gc0 gc bs st g x D vs vr E) (k : RdS We K j D w w9 p gc gc9 bs st2 g y D9 vs9 vr9 E9) : RdS We K j D0 w0 w9 p gc0 gc9 bs st2 g y D9 vs9 vr9 E9 := by
  refine ⟨k.r_cur, k.r_mt, k.r_p, k.r_g, fun b hb => ?_, h.r_t.trans k.r_t (fun i hi => ?_), ?_, k.r_we⟩
  · rcases k.r_sub b hb with h1 | h1
    · exact h.r_sub b h1
    · exact .inr (Nat.le_trans h.r_t.size h1)
  · rcases hi with hi | rfl | rfl
    · rcases h.r_sub i hi with h5 | h5
      · exact .inl (.inl h5)
      · exact .inr h5
    · exact .inl (.inr (.inl rfl))
    · rcases h.r_gc with e | e
      · exact .inl (.inr (.inr e))
      · exact .inr e
  · rcases k.r_gc with rfl | e
    · exact h.r_gc
    · exact .inr (Nat.le_trans h.r_t.size e)
section
variable {a n : Nat} {r : List Nat} {st : St}
theorem live_tag (h : RdS We K j D0 w0 w p gc0 gc bs (st.lift a r) g x D vs vr E) (hlen : a + n ≤ bs.length) (hs : Sub n st) {w' : World} (hb : Below w.heap.size w w') :
    Calls Tryz.prog 66 #[.pointer (some ⟨p, 0, none⟩)] w' fun e w4 => e = .returned (.tuple #[.int .i64 ((st.rd tTag (0, 0) (segOf bs a (a + n))).1.1 : Int), .int .i64 ((st.rd tTag (0, 0) (segOf bs a (a + n))).1.2 : Int)]) ∧ ∃ gc', RdS We K j D0 w0 w4 p gc0 gc' bs ((st.rd tTag (0, 0) (segOf bs a (a + n))).2.lift a r) g x D vs vr E := by
  have h2 := rds_bel h hb
  obtain ⟨W, hW, hWe, hc⟩ := h2.r_cur
  refine (tag_cur hc).mono ?_
  rintro e w4 ⟨rfl, g2, hg2, hc2, ho2⟩
  rw [rd_lift tTag (0, 0) hlen hs] at hc2 ⊢
  exact ⟨rfl, g2, rds_cur h2 hW hWe hg2 hc2 ho2⟩
theorem live_read (h : RdS We K j D0 w0 w p gc0 gc bs (st.lift a r) g x D vs vr E) (hlen : a + n ≤ bs.length) (hs : Sub n st) (wire : Int) {w' : World} (hb : Below w.heap.size w w') :
    Calls Tryz.prog 37 #[.pointer (some ⟨p, 0, none⟩), .int .i64 wire] w' fun e w4 => e = .returned (.tuple #[.int .u64 ((readS wire (segOf bs a (a + n)) st).1.1 : Int), .string (strOf (readS wire (segOf bs a (a + n)) st).1.2)]) ∧ ∃ gc', RdS We K j D0 w0 w4 p gc0 gc' bs ((readS wire (segOf bs a (a + n)) st).2.lift a r) g x D vs vr E := by
  have h2 := rds_bel h hb
  obtain ⟨W, hW, hWe, hc⟩ := h2.r_cur
  refine (dread_any hc wire).mono ?_
  rintro e w4 ⟨rfl, g2, hg2, hc2, ho2⟩
  rw [read_lift wire hlen hs] at hc2 ⊢
  exact ⟨rfl, g2, rds_cur h2 hW hWe hg2 hc2 ho2⟩
theorem live_more (h : RdS We K j D0 w0 w p gc0 gc bs (st.lift a r) g x D vs vr E) (hs : Sub n st) : Calls Tryz.prog 36 #[.pointer (some ⟨p, 0, none⟩)] w fun e w' => e = .returned (.bool st.more) ∧ ∃ n, w' = w.drewN n := by
  obtain ⟨W, hW, hWe, hc⟩ := h.r_cur
  have := more_cur hc
  rwa [more_lift hs] at this
theorem live_ok (h : RdS We K j D0 w0 w p gc0 gc bs (st.lift a r) g x D vs vr E) (hs : st.fr = [n]) {w' : World} (hb : Below w.heap.size w w') : Calls Tryz.prog 40 #[.pointer (some ⟨p, 0, none⟩)] w' fun e w2 => e = .returned (.bool true) ∧ w' = w2 := by
  obtain ⟨W, hW, hWe, hc⟩ := (rds_bel h hb).r_cur
  have := ok_cur hc
  rw [lift_some hs] at this
  exact this
end
end
end Go.Proofs.YtpfdnggacpehdaaGreatDoor

/- The landed layer 22: message, at every depth. Conditions: those that each theorem names. -/
namespace Go.Proofs.YtpfdnggacpehdaaGreatDoor
open Go.RowKit
set_option linter.unusedVariables false
set_option maxRecDepth 100000

section
variable {We : World} {s : Sc} {A A2 : Option Addr} {ne ca nm ca2 : Nat} {SS : Nat → Nat → Prop}
set_option maxHeartbeats 4000000 in
theorem pmsg_zero (hsc : ScAt SS We A ne ca A2 nm ca2 s) : PMsg s We A ne ca A2 nm ca2 0 := by
  intro K w p gc bs D g name x a n r hcu hlen hbs hr hmt hDp hDg hWeg ht hw
  have hWe := cub_env hcu
  have hbx := bx_start w #[.slice A ne ca, .slice A2 nm ca2, .pointer (some ⟨p, 0, none⟩)] 73
  obtain ⟨w1, hw1⟩ : ∃ w1, w1 = w.alloc (.cells #[.slice A ne ca, .slice A2 nm ca2, .pointer (some ⟨p, 0, none⟩)] 73) := ⟨_, rfl⟩
  rw [← hw1] at hbx
  have HF := Lib.hid (fxmessage_any w1 (scAt_bel hsc (vbel hWe hbx.b_bel)) name)
  have HC := Lib.hid (fun (w2 : World) (hb : Below w1.heap.size w1 w2) => cub_bel hcu (vbel hbx.b_bel hb))
  have HD : Hid (∀ w2, Below w1.heap.size w1 w2 → Calls Tryz.prog 65 #[.pointer (some ⟨p, 0, none⟩)] w2 fun e w' => e = .returned (.int .i64 17) ∧ w2 = w') := Lib.hid (fun w2 hb => by
    obtain ⟨W, hW, hWe, hc⟩ := HC.out w2 hb
    have := deep_cur hc
    rw [lift_some rfl] at this
    have e : (((a + n) :: r).length : Int) = 17 := by simp; omega
    simp only at this
    rw [e] at this
    exact this)
  have HBX := Lib.hid hbx
  have HCU := Lib.hid hcu
  have HW1 := Lib.hid hw1
  have r0 := obj_cell hbx.b_blk 0
  have r1 := obj_cell hbx.b_blk 1
  have r2 := obj_cell hbx.b_blk 2
  rw [hw1] at r0 r1 r2
  have HQ : Hid (intoN s 0 name x (segOf bs a (a + n)) = (x, 3)) := Lib.hid rfl
  generalize intoN s 0 name x (segOf bs a (a + n)) = Q at *
  unfold rdV
  clear hsc hcu hlen hbs hr hmt hDp hDg hWeg ht hw hWe hbx hw1
  go_enter Tryz.func30, Tryz.ntmps30
  go_wp2
  go_step3
  go_wp2_with (first
    | (go_at_call 28; (with_reducible rw [← HW1.out]); refine HF.out.mono ?_; rintro e w2 ⟨rfl, hb2⟩; have HB2 := Lib.hid hb2; have kr := (hb2.block _ (lt_of_block HBX.out.b_blk)).trans HBX.out.b_blk; have c2 := obj_cell kr 2; clear hb2 kr)
    | (go_at_call 65; refine (HD.out _ HB2.out).mono ?_; rintro e w3 ⟨rfl, rfl⟩))
  rw [Exit.noGoto_ret]
  go_ret
  rw [HQ.out]
  exact ⟨rfl, (fun e => by cases e), fun _ => ⟨gc, _, HC.out w2 HB2.out, .inl rfl, Touch.of_below _ (vbel HBX.out.b_bel HB2.out), (fun e => by cases e)⟩⟩
theorem text_few {bs : List UInt8} {a n : Nat} {st : St} (hl : a + n ≤ bs.length) (h : st.fr = [n]) : (st.rd tText [] (segOf bs a (a + n))).1.length = 0 ∨ st.at_ + (st.rd tText [] (segOf bs a (a + n))).1.length ≤ n := by
  rcases open_way (r := []) hl h with ⟨h1, _⟩ | ⟨o, t, e1, e2, _, _, _, e6, e7⟩
  · left
    unfold St.rd at h1 ⊢
    rw [h] at h1 ⊢
    dsimp only at h1 ⊢
    by_cases h0 : (tText (segOf (segOf bs a (a + n)) st.at_ n)).2 = 0
    · rw [if_pos h0]; rfl
    · rw [if_neg h0] at h1
      cases h1
  · right
    rw [e1]
    omega
set_option maxHeartbeats 64000000 in
theorem pmsg_succ (env : ScEnv We) (u8 : U8Env We) (hsc : ScAt SS We A ne ca A2 nm ca2 s) (hck : checkT s = 0) (hsm : ∀ m ∈ s.msgs, m.fields.length ≤ 200 ∧ m.barred.length ≤ 200) {j : Nat} (hM : PMsg s We A ne ca A2 nm ca2 j) : PMsg s We A ne ca A2 nm ca2 (j + 1) := by
  intro K w p gc bs D g name x a n r hcu hlen hbs hr hmt hDp hDg hWeg ht hw
  have hWe := cub_env hcu
  have hlt := cub_lt hcu
  have hDlt : ∀ b, D b → b < w.heap.size := fun b hb => ((mt_lt hmt).2 b hb).1
  have hseg : (segOf bs a (a + n)).length = n := by rw [segOf_length hlen]; omega
  rcases msg_way s name with ⟨e1, e2⟩ | ⟨i, m, e1, e2, e3⟩
  · rw [treeN_none e2] at ht; cases ht
  have hmm := vMsg_mem e3
  obtain ⟨hf200, hb200⟩ := hsm m hmm
  obtain ⟨m1, m2, m3, m4⟩ := scAt_max hsc
  have hin : i < nm := by have := (List.getElem?_eq_some_iff.mp e2).1; have := hsc.s_nm; omega
  obtain ⟨ge, oe, AF, capF, AB, capB, rfl, _, hmc, hlF, hlB⟩ := ms_at hsc.s_m e2
  have hbx := bx_start w #[.slice A ne ca, .slice (some ⟨ge, oe, none⟩) nm ca2, .pointer (some ⟨p, 0, none⟩)] 73
  obtain ⟨w1, hw1⟩ : ∃ w1, w1 = w.alloc (.cells #[.slice A ne ca, .slice (some ⟨ge, oe, none⟩) nm ca2, .pointer (some ⟨p, 0, none⟩)] 73) := ⟨_, rfl⟩
  rw [← hw1] at hbx
  have HF := Lib.hid (fxmessage_any w1 (scAt_bel hsc (vbel hWe hbx.b_bel)) name)
  rw [e1] at HF
  have HC := Lib.hid (fun (w2 : World) (hb : Below w1.heap.size w1 w2) => cub_bel hcu (vbel hbx.b_bel hb))
  obtain ⟨dp, hdp⟩ : ∃ z : Nat, z = r.length + 1 := ⟨_, rfl⟩
  have hdp16 : dp ≤ 16 := by omega
  have HD : Hid (∀ w2, Below w1.heap.size w1 w2 → Calls Tryz.prog 65 #[.pointer (some ⟨p, 0, none⟩)] w2 fun e w' => e = .returned (.int .i64 (dp : Int)) ∧ w2 = w') := Lib.hid (fun w2 hb => by
    obtain ⟨W, hW, hWe, hc⟩ := HC.out w2 hb
    have := deep_cur hc
    rw [lift_some rfl] at this
    rw [hdp]
    exact this)
  have HBX := Lib.hid hbx
  have HW1 := Lib.hid hw1
  have HMC := Lib.hid hmc
  have HWE := Lib.hid (vbel hWe hbx.b_bel)
  have r0 := obj_cell hbx.b_blk 0
  have r1 := obj_cell hbx.b_blk 1
  have r2 := obj_cell hbx.b_blk 2
  rw [hw1] at r0 r1 r2
  obtain ⟨vs0, vr0, E0, hop0⟩ := hmt
  have HOP0 := Lib.hid hop0
  obtain ⟨nF, hnF⟩ : ∃ z, z = m.fields.length := ⟨_, rfl⟩
  obtain ⟨nB, hnB⟩ : ∃ z, z = m.barred.length := ⟨_, rfl⟩
  rw [← hnF, ← hnB] at HMC
  obtain ⟨sn, hsn⟩ : ∃ z, z = strOf m.name := ⟨_, rfl⟩
  rw [← hsn] at HMC
  have HNF := Lib.hid (And.intro hnF hnB)
  have HLF := Lib.hid (And.intro hlF hlB)
  have HARG := Lib.hid (And.intro hDp (And.intro hDg (And.intro hWeg (And.intro hlt hDlt))))
  obtain ⟨Q, hQ⟩ : ∃ z, z = intoN s (j + 1) name x (segOf bs a (a + n)) := ⟨_, rfl⟩
  have HQ := Lib.hid hQ
  have HE3 := Lib.hid e3
  have HT := Lib.hid ht
  have HSEG := Lib.hid hseg
  have HW70 := Lib.hid hw
  have HLEN := Lib.hid hlen
  have HBS := Lib.hid hbs
  have HR := Lib.hid hr
  have HF200 := Lib.hid (And.intro hf200 hb200)
  have HENV := Lib.hid (And.intro env u8)
  have HM := Lib.hid hM
  have HCK := Lib.hid hck
  rw [← hQ]
  unfold rdV at HM ⊢
  have g0 : decide ((i : Int) < 0) = false := decide_eq_false (by omega)
  have g9 : decide ((16 : Int) < (dp : Int)) = false := decide_eq_false (by omega)
  clear hsc hcu hlen hbs hr hDp hDg hWeg ht hw hWe hbx hw1 e1 e2 e3 hmc hlF hlB hop0 hnF hnB hsn hlt hDlt hseg hmm hf200 hb200 hQ env u8 hM hck hdp hsm
  go_enter Tryz.func30, Tryz.ntmps30
  go_wp2
  go_step3
  go_wp2_with (first
    | (go_at_call 28; (with_reducible rw [← HW1.out]); refine HF.out.mono ?_; rintro e w2 ⟨rfl, hb2⟩; have HB2 := Lib.hid hb2; have kr := (hb2.block _ (lt_of_block HBX.out.b_blk)).trans HBX.out.b_blk; have HKR := Lib.hid kr; have c0 := obj_cell kr 0; have c1 := obj_cell kr 1; have c2 := obj_cell kr 2; obtain ⟨n0, n1, n2⟩ := HMC.out _ (vbel HWE.out hb2); clear hb2 kr r0 r1 r2)
    | (go_at_call 65; refine (HD.out _ HB2.out).mono ?_; rintro e w3 ⟨rfl, rfl⟩))
  go_step3
  go_wp2
  obtain ⟨wB, hwB⟩ : ∃ wB, wB = w2.alloc (.cells #[.string sn, .slice AF nF capF, .slice AB nB capB] 59) := ⟨_, rfl⟩
  have hb2B : Below w2.heap.size w2 wB := by rw [hwB]; exact (Below.refl _ w2).alloc (Nat.le_refl _) _
  have HBB : Hid (Below w.heap.size w wB) := Lib.hid (vbel HBX.out.b_bel (vbel HB2.out hb2B))
  have HKM : Hid (wB.heap[w2.heap.size]? = some (.cells #[.string sn, .slice AF nF capF, .slice AB nB capB] 59 (0, 0))) := Lib.hid (by rw [hwB]; exact heap_alloc_new w2 _)
  have HKRB : Hid (wB.heap[w.heap.size]? = some (.cells #[.slice A ne ca, .slice (some ⟨ge, oe, none⟩) nm ca2, .pointer (some ⟨p, 0, none⟩)] 73 (0, 0))) := Lib.hid ((hb2B.block _ (lt_of_block HKR.out)).trans HKR.out)
  have HR0 : Hid (RdS We K (j + 1) D wB wB p gc gc bs ((⟨0, [n]⟩ : St).lift a r) g x D vs0 vr0 E0) := Lib.hid ⟨cub_bel (HC.out w2 HB2.out) hb2B, opT_bel HBB.out HOP0.out, HARG.out.1, HARG.out.2.1, fun b hb => .inl hb, Touch.refl _ _, .inl rfl, HARG.out.2.2.1⟩
  have HWB := Lib.hid hwB
  have HB2B := Lib.hid hb2B
  -- the boxes stay
  have HBOX : Hid (∀ wr (h : Touch (fun b => D b ∨ b = p ∨ b = gc) wB wr), wr.heap[w2.heap.size]? = some (.cells #[.string sn, .slice AF nF capF, .slice AB nB capB] 59 (0, 0)) ∧ wr.heap[w.heap.size]? = some (.cells #[.slice A ne ca, .slice (some ⟨ge, oe, none⟩) nm ca2, .pointer (some ⟨p, 0, none⟩)] 73 (0, 0))) := Lib.hid (fun wr h => by
    have h1 := HARG.out.2.2.2.1
    have h2 := HARG.out.2.2.2.2
    have h3 := lt_of_block HKR.out
    have h4 := HBX.out.b_bel.size
    have h5 := HB2.out.size
    refine ⟨(h.block _ (lt_of_block HKM.out) (fun e => ?_)).trans HKM.out, (h.block _ (lt_of_block HKRB.out) (fun e => ?_)).trans HKRB.out⟩
    · rcases e with e | e | e
      · have := h2 _ e; omega
      · omega
      · omega
    · rcases e with e | e | e
      · have := h2 _ e; omega
      · omega
      · omega)
  clear hwB hb2B n0 n1 n2 c0 c1 c2
  obtain ⟨seg, hsg⟩ : ∃ z, z = segOf bs a (a + n) := ⟨_, rfl⟩
  have HSG := Lib.hid hsg
  have HLS : Hid (LiveP s j m x seg ⟨0, [n]⟩ [] x) := Lib.hid (by have := live_start (s := s) (j := j) (m := m) (x0 := x) (seg := seg); rw [hsg, HSEG.out] at this; rw [hsg]; exact this)
  clear hsg
  go_loopg [9, 10, 11, 12, 13, 14, 15] (n + 1) (fun gz x9 x10 x11 x12 x13 x14 x15 wr => x9 = .int .i64 0 ∧ ((∃ st acc u gc' D' vs' vr' E', st.at_ + gz = n + 1 ∧ LiveP s j m x seg st acc u ∧ RdS We K (j + 1) D wB wr p gc gc' bs (st.lift a r) g u D' vs' vr' E') ∨ DeadB We K D wB p gc bs Q.2 wr))
  case atStart => exact ⟨rfl, .inl ⟨⟨0, [n]⟩, [], x, gc, D, vs0, vr0, E0, by simp, HLS.out, by rw [← HWB.out]; exact HR0.out⟩⟩
  case round =>
    obtain ⟨rfl, hor⟩ := hrel
    obtain ⟨g0, hg0⟩ : ∃ g0, g0 = gk := ⟨_, rfl⟩
    subst hg0
    rcases hor with ⟨st, acc, u, gc1, D1, vs1, vr1, E1, hat, hlive, hrd⟩ | hdead
    · obtain ⟨kM, kR⟩ := HBOX.out wr hrd.r_t
      have hfr : st.fr = [n] := by have := hlive.l_half.fr; rw [HSG.out, HSEG.out] at this; exact this
      have HFR := Lib.hid hfr
      have HRD := Lib.hid hrd
      have HLV := Lib.hid hlive
      have HMO := Lib.hid (live_more hrd (.inr hfr))
      have z2 := obj_cell kR 2
      have z2d : ∀ k, (wr.drewN k).cell? ⟨w.heap.size, 2, none⟩ = some (.pointer (some ⟨p, 0, none⟩)) := fun k => z2
      cases hm : st.more with
      | false =>
        rw [hm] at HMO
        have HQE : Hid (Q = (u, 0)) := Lib.hid (by rw [HQ.out, ← HSG.out]; exact live_done hlive HE3.out hm)
        have HST : Hid (st = ⟨n, [n]⟩) := Lib.hid (by
          have h1 : st.at_ ≤ seg.length := by
            have hR := hlive.l_half.right
            unfold Right at hR
            rw [hlive.l_half.fr] at hR
            exact hR.1
          have h2 : seg.length = n := by rw [HSG.out]; exact HSEG.out
          unfold St.more at hm
          rw [hfr] at hm
          dsimp only at hm
          have h3 := of_decide_eq_false hm
          obtain ⟨at9, fr9⟩ := st
          dsimp only at *
          rw [hfr]
          congr 1
          omega)
        clear hrd hlive kM kR hfr hm
        go_wp2_with (first
          | (go_at_call 36; refine HMO.out.mono ?_; rintro e w3 ⟨rfl, k, rfl⟩)
          | (go_at_call 40; refine (live_ok HRD.out HFR.out (drawn_below _ k)).mono ?_; rintro e w5 ⟨rfl, rfl⟩))
        rw [Exit.noGoto_ret]
        go_ret
        rw [HQE.out]
        have h9 := rds_bel HRD.out (drawn_below _ k)
        rw [HST.out] at h9
        exact msg_done HBB.out h9
      | true =>
        rw [hm] at HMO
        have hsegn : seg.length = n := by rw [HSG.out]; exact HSEG.out
        have HSN := Lib.hid hsegn
        have HTAG := Lib.hid (fun (w3 : World) (hb : Below wr.heap.size wr w3) => live_tag hrd HLEN.out (.inr hfr) hb)
        rw [← HSG.out] at HTAG
        obtain ⟨T, hT⟩ : ∃ T, T = st.rd tTag (0, 0) seg := ⟨_, rfl⟩
        rw [← hT] at HTAG
        obtain ⟨⟨num, wire⟩, st1⟩ := T
        dsimp only at HTAG
        obtain ⟨R, hR⟩ : ∃ R, R = readS wire seg st1 := ⟨_, rfl⟩
        have hone : oneS seg st = (⟨(num : Int), (wire : Int), R.1.1, R.1.2⟩, R.2) := by rw [one_read, ← hT, hR]
        have hsub1 : Sub n st1 := by
          have := sub_rd (n := n) tTag (0, 0) seg (s := st) (.inr hfr)
          rw [← hT] at this
          exact this
        have HREAD := Lib.hid (fun (w5 : World) (gc' : Nat) {D5 : Nat → Prop} {vs5 vr5 : Value} {E5 : Int → Nat → Prop} (h : RdS We K (j + 1) D wB w5 p gc gc' bs (st1.lift a r) g u D5 vs5 vr5 E5) (w6 : World) (hb : Below w5.heap.size w5 w6) => live_read h HLEN.out hsub1 (wire : Int) hb)
        rw [← HSG.out, ← hR] at HREAD
        have HRDY := Lib.hid (live_ready hlive HCK.out HE3.out HT.out (by rw [hsegn]; exact HW70.out) HF200.out.1)
        have hone2 := one_on seg st
        rw [hone, hfr] at hone2
        dsimp only at hone2
        have HFAIL : Hid (R.2.fr = [] → Q.2 = 8) := Lib.hid (fun hb => by rw [HQ.out, ← HSG.out]; exact live_fail hlive HE3.out hm (by rw [hone]; exact hb))
        have HSTOP : Hid (R.2.fr ≠ [] → (stepD (intoN s j) m u ⟨(num : Int), (wire : Int), R.1.1, R.1.2⟩).2 ≠ 0 → Q.2 = (stepD (intoN s j) m u ⟨(num : Int), (wire : Int), R.1.1, R.1.2⟩).2) := Lib.hid (fun hb hx => by
          have := live_stop hlive HE3.out hm (by rw [hone]; exact hb)
          rw [hone] at this
          rw [HQ.out, ← HSG.out]
          exact this hx)
        have HNEXT : Hid (∀ v, R.2.fr ≠ [] → stepD (intoN s j) m u ⟨(num : Int), (wire : Int), R.1.1, R.1.2⟩ = (v, 0) → ∃ acc2, LiveP s j m x seg R.2 acc2 v) := Lib.hid (fun v hb hx => by
          have := live_next (v := v) hlive hm (by rw [hone]; exact hb) (by rw [hone]; exact hx)
          rw [hone] at this
          exact ⟨_, this⟩)
        have HAT : Hid (R.2.fr ≠ [] → st.at_ < R.2.at_ ∧ R.2.fr = [n] ∧ R.2.at_ ≤ n) := Lib.hid (fun hb => by
          rcases hone2 with h1 | h1
          · exact absurd h1 hb
          · refine ⟨h1.2, h1.1, ?_⟩
            have := right_one hlive.l_half.right
            rw [hone] at this
            unfold Right at this
            rw [h1.1] at this
            exact this.1)
        obtain ⟨⟨rn, rs⟩, st2⟩ := R
        dsimp only at HREAD HFAIL HSTOP HNEXT HAT
        have HNUM := Lib.hid (fun (w4 : World) (hb : Below We.heap.size We w4) => dnumbered_any w4 sn (lst_keep (S' := SS 1) HLF.out.1 fdR_keep (fun _ h => h) (bel_keep hb)) (lst_keep (S' := SS 2) HLF.out.2 inR_keep (fun _ h => h) (bel_keep hb)) HNF.out.1 HNF.out.2 (num : Int))
        cases hfld : vFld m (num : Int) with
        | none =>
          rw [hfld] at HNUM
          dsimp only [Option.isSome] at HNUM
          unfold zFld at HNUM
          have HSTEP : Hid (stepD (intoN s j) m u ⟨(num : Int), (wire : Int), rn, rs⟩ = (.mk u.slots (u.rest ++ [⟨(num : Int), (wire : Int), rn, rs⟩]), 0)) := Lib.hid (by unfold stepD; dsimp only; rw [hfld])
          clear hrd hlive kM kR hfr hm hsegn hT hR hone hsub1 hone2 hfld
          go_wp2_with (first
            | (go_at_call 36; refine HMO.out.mono ?_; rintro e w3 ⟨rfl, k, rfl⟩)
            | (go_at_call 66; refine (HTAG.out _ (drawn_below _ k)).mono ?_; rintro e w4 ⟨rfl, gc4, hr4⟩; have HR4 := Lib.hid hr4; obtain ⟨kM4, kR4⟩ := HBOX.out w4 hr4.r_t; have p0 := obj_cell kM4 0; have p1 := obj_cell kM4 1; have p2 := obj_cell kM4 2; have HKM4 := Lib.hid kM4; have HKR4 := Lib.hid kR4; clear hr4 kM4 kR4 z2 z2d)
            | (go_at_call 67; refine (HNUM.out w4 (cub_env HR4.out.r_cur)).mono ?_; rintro e w5 ⟨rfl, hb5⟩; have HR5 := Lib.hid (rds_bel HR4.out hb5); have kM5 := (hb5.block _ (lt_of_block HKM4.out)).trans HKM4.out; have kR5 := (hb5.block _ (lt_of_block HKR4.out)).trans HKR4.out; have HKM5 := Lib.hid kM5; have HKR5 := Lib.hid kR5; have HBX5 : Hid (∀ o, Below w5.heap.size w5 (w5.alloc o)) := Lib.hid (fun o => (Below.refl _ w5).alloc (Nat.le_refl _) o); have q2 : ∀ o, (w5.alloc o).cell? ⟨w.heap.size, 2, none⟩ = some (.pointer (some ⟨p, 0, none⟩)) := (fun o => cell_under (HBX5.out o) (obj_cell kR5 2)); have q1 : ∀ o, (w5.alloc o).cell? ⟨g, 1, none⟩ = _ := (fun o => cell_under (HBX5.out o) (obj_cell HR5.out.r_mt.o_hd.h_blk 1)); clear hb5 kM5 kR5 p0 p1 p2)
            | (go_at_call 37; refine (HREAD.out w5 gc4 HR5.out _ (HBX5.out _)).mono ?_; rintro e w7 ⟨rfl, gc7, hr7⟩; have HR7 := Lib.hid hr7; have q7 := obj_cell hr7.r_mt.o_hd.h_blk 1; clear hr7 q2 q1)
            | (at_builtin; refine wpList_append_x rfl _ _ rfl rfl rfl (rest_append HR7.out.r_mt ⟨(num : Int), (wire : Int), rn, rs⟩ (by have := HRDY.out.1; omega) _) ?_; rintro v8 w8 ⟨⟨A8, n8, c8, rfl⟩, HT8, k80, k81⟩))
          obtain ⟨D', vs', vr', E', hop8, t8, s8⟩ := HT8.out
          have HR9 := Lib.hid (rds_tree HR7.out hop8 t8 s8)
          have hatl := HRDY.out.2.2.1
          rw [HSN.out] at hatl
          by_cases hbad : st2.fr = []
          · go_roundg 0
            case measure => omega
            case rel => exact ⟨rfl, .inr (rds_dead HR9.out (by rw [lift_none hbad]; rfl) (HFAIL.out hbad))⟩
          · have hlt2 := HAT.out hbad
            obtain ⟨acc2, hl2⟩ := HNEXT.out _ hbad HSTEP.out
            go_roundg (n + 1 - st2.at_)
            case measure => omega
            case rel => exact ⟨rfl, .inl ⟨st2, acc2, _, gc7, D', vs', vr', E', by omega, hl2, HR9.out⟩⟩
        | some f =>
          have HRF := Lib.hid (HRDY.out.2.2.2 f (num : Int) hfld)
          have HRR := Lib.hid (And.intro HRDY.out.1 (And.intro HRDY.out.2.1 HRDY.out.2.2.1))
          rw [hfld] at HNUM
          dsimp only [Option.isSome] at HNUM
          have hfr1 : st1.fr = [n] := by
            rcases hsub1 with h1 | h1
            · exfalso
              have hnum : num = 0 := by
                have h2 := rd_on tTag (0, 0) seg st
                unfold St.rd at hT
                rw [hfr] at hT
                dsimp only at hT
                split at hT
                · exact congrArg (fun z => z.1.1) hT
                · have := congrArg (fun z => z.2.fr) hT
                  dsimp only at this
                  rw [h1] at this
                  cases this
              have hfn := vFld_num hfld
              obtain ⟨_, _, _, c1, _⟩ := fcheck_ok (sch_field HCK.out (vMsg_mem HE3.out) (vFld_mem hfld))
              rw [hfn, hnum] at c1
              exact absurd c1 (by decide)
            · exact h1
          have HFR1 := Lib.hid hfr1
          have HATB : Hid (st.at_ ≤ st1.at_) := Lib.hid (by
            rcases rd_on tTag (0, 0) seg st with h1 | h1
            · rw [← hT] at h1
              exact absurd (hfr1.symm.trans h1) (by simp)
            · have := h1.2
              rw [← hT] at this
              dsimp only at this
              omega)
          have HMAY := Lib.hid (fun (w6 : World) (hb : Below We.heap.size We w6) => dmay_any f (wire : Int) w6 (HENV.out.1.rides hb))
          have HALO := Lib.hid (fun (w6 : World) (gc' : Nat) {D5 : Nat → Prop} {vs5 vr5 : Value} {E5 : Int → Nat → Prop} {s5 : St} (h : RdS We K (j + 1) D wB w6 p gc gc' bs s5 g u D5 vs5 vr5 E5) => (dalone_any (shape_ms _ _ _ _) h.r_mt.o_hd (lst_keep (S' := SS 1) HLF.out.1 fdR_keep (fun _ h => h) (bel_keep (cub_env h.r_cur))) (lst_keep (S' := SS 2) HLF.out.2 inR_keep (fun _ h => h) (bel_keep (cub_env h.r_cur))) HNF.out.1 HNF.out.2 (sn := sn) f (by have := HF200.out.1; have := HNF.out.1; omega)).mono (fun e w8 ⟨h1, h2⟩ => And.intro h1 (alone_rds (rds_self h) h2)))
          obtain ⟨sl, hsl⟩ : ∃ z, z = othersD m f u.slots := ⟨_, rfl⟩
          rw [← hsl] at HALO HRF
          have HSLO := Lib.hid hsl
          have hread1 := read_form (wire : Int) seg st1
          rw [← hR] at hread1
          dsimp only at hread1
          have HRE1 := Lib.hid hread1
          obtain ⟨mb, hmb⟩ : ∃ z, z = mayD f (wire : Int) := ⟨_, rfl⟩
          rw [← hmb] at HMAY
          have HMB := Lib.hid hmb
          have HLAYA := Lib.hid (fun (w8 : World) {w7 : World} {gc7 gc8 : Nat} {D7 D8 : Nat → Prop} {vs8 vr8 : Value} {E8 : Int → Nat → Prop} (h : RdS We K (j + 1) D7 w7 w8 p gc7 gc8 bs (st1.lift a r) g (.mk sl u.rest) D8 vs8 vr8 E8) (hne : f.ty ≠ 15) (hmm : f.rep = false → (wire : Int) = wireT f.ty) => dlay_any h f (wire : Int) HENV.out.1 HENV.out.2 (by have := HRF.out.1; unfold Int64; omega) hne (by have := HBS.out; omega) hmm (by have := HRF.out.2.2.1; show sl.length ≤ 800; omega) (by have := HRF.out.2.2.2.1; show (getT sl f.num).length ≤ 1000000; omega) (.slice A ne ca) (.slice (some ⟨ge, oe, none⟩) nm ca2) rfl rfl)
          rw [read_lift (wire : Int) HLEN.out hsub1, ← HSG.out, ← hR] at HLAYA
          dsimp only at HLAYA
          have HRDEF := Lib.hid hR
          have HFLD := Lib.hid hfld
          obtain ⟨fname, fnum, fty, fref, frep, floose, fone⟩ := f
          unfold fdV at HNUM HMAY HALO HLAYA
          dsimp only at HNUM HMAY HALO HLAYA HRF HMB HFLD HSLO
          obtain ⟨fn0, hg0⟩ : ∃ z, z = strOf fname := ⟨_, rfl⟩
          obtain ⟨fn3, hg3⟩ : ∃ z, z = strOf fref := ⟨_, rfl⟩
          obtain ⟨fn6, hg6⟩ : ∃ z, z = strOf fone := ⟨_, rfl⟩
          rw [← hg0, ← hg3, ← hg6] at HNUM HMAY HALO HLAYA
          have HG0 := Lib.hid hg0.symm
          have HG3 := Lib.hid hg3.symm
          have HG6 := Lib.hid hg6.symm
          clear hg0 hg3 hg6
          clear hrd hlive kM kR hfr hm hsegn hT hR hone hsub1 hone2 hfld hfr1 hsl hread1 hmb HRDY
          cases mb with
          | false =>
            have HQ8 : Hid (Q.2 = 8) := Lib.hid (by
              by_cases hbad : st2.fr = []
              · exact HFAIL.out hbad
              · have hs8 : (stepD (intoN s j) m u ⟨(num : Int), (wire : Int), rn, rs⟩) = (u, 8) := by
                  unfold stepD
                  dsimp only
                  rw [HFLD.out]
                  dsimp only
                  rw [vals_not HMB.out.symm]
                have := HSTOP.out hbad (by rw [hs8]; exact (by decide : (8 : Nat) ≠ 0))
                rw [this, hs8])
            go_wp2_with (first
              | (go_at_call 36; refine HMO.out.mono ?_; rintro e w3 ⟨rfl, k, rfl⟩)
              | (go_at_call 66; refine (HTAG.out _ (drawn_below _ k)).mono ?_; rintro e w4 ⟨rfl, gc4, hr4⟩; have HR4 := Lib.hid hr4; obtain ⟨kM4, kR4⟩ := HBOX.out w4 hr4.r_t; have p0 := obj_cell kM4 0; have p1 := obj_cell kM4 1; have p2 := obj_cell kM4 2; have HKM4 := Lib.hid kM4; have HKR4 := Lib.hid kR4; clear hr4 kM4 kR4 z2 z2d)
              | (go_at_call 67; refine (HNUM.out w4 (cub_env HR4.out.r_cur)).mono ?_; rintro e w5 ⟨rfl, hb5⟩; have HR5 := Lib.hid (rds_bel HR4.out hb5); have kM5 := (hb5.block _ (lt_of_block HKM4.out)).trans HKM4.out; have kR5 := (hb5.block _ (lt_of_block HKR4.out)).trans HKR4.out; have HKM5 := Lib.hid kM5; have HKR5 := Lib.hid kR5; have HB5 := Lib.hid ((Below.refl _ w5).alloc (Nat.le_refl _) (.cells #[.string fn0, .int .i64 fnum, .int .i64 fty, .string fn3, .bool frep, .bool floose, .string fn6] 43)); have HKF5 := Lib.hid (heap_alloc_new w5 (.cells #[.string fn0, .int .i64 fnum, .int .i64 fty, .string fn3, .bool frep, .bool floose, .string fn6] 43)); have v0 := obj_cell HKF5.out 0; have v1 := obj_cell HKF5.out 1; have v2 := obj_cell HKF5.out 2; have v3 := obj_cell HKF5.out 3; have v4 := obj_cell HKF5.out 4; have v5 := obj_cell HKF5.out 5; have v6 := obj_cell HKF5.out 6; clear hb5 kM5 kR5 p0 p1 p2)
              | (go_at_call 68; refine (HMAY.out _ ((cub_env HR5.out.r_cur).trans (HB5.out.mono (cub_env HR5.out.r_cur).size))).mono ?_; rintro e w6 ⟨rfl, hb6⟩; have hb56 := vbel HB5.out hb6; have HR6 := Lib.hid (rds_bel HR5.out hb56); have kF6 := (hb6.block _ (lt_of_block HKF5.out)).trans HKF5.out; have kM6 := (hb56.block _ (lt_of_block HKM5.out)).trans HKM5.out; have kR6 := (hb56.block _ (lt_of_block HKR5.out)).trans HKR5.out; have HKF6 := Lib.hid kF6; have HKM6 := Lib.hid kM6; have HKR6 := Lib.hid kR6; have p0 := obj_cell kM6 0; have p1 := obj_cell kM6 1; have p2 := obj_cell kM6 2; have t0 := obj_cell kF6 0; have t1 := obj_cell kF6 1; have t2 := obj_cell kF6 2; have t3 := obj_cell kF6 3; have t4 := obj_cell kF6 4; have t5 := obj_cell kF6 5; have t6 := obj_cell kF6 6; have y2 := obj_cell kR6 2; clear hb6 hb56 kF6 kM6 kR6 v0 v1 v2 v3 v4 v5 v6)
              | (go_at_call 40; refine (live_ok HR6.out HFR1.out (Below.refl _ _)).mono ?_; rintro e w9 ⟨rfl, rfl⟩))
            rw [Exit.noGoto_ret]
            go_ret
            have := msg_lost (K := K) (j := j + 1) (a := a) (n := n) (r := r) (g := g) (q := Q) HBB.out (endB_lost (rds_end (q := Q.2) (c := 8) HR6.out (by rw [HQ8.out]; decide) (fun _ => HQ8.out) (fun _ => HQ8.out.symm))) (by rw [HQ8.out]; decide)
            rw [HQ8.out] at this
            exact this
          | true =>
            by_cases h15 : fty = 15
            · have HC15 := Lib.hid h15
              obtain ⟨hw2, l15, hl15⟩ := vals_15 (num := (num : Int)) (n := rn) (t := rs) h15 HMB.out.symm
              have HS15 : Hid (stepD (intoN s j) m u ⟨(num : Int), (wire : Int), rn, rs⟩ = msgD (intoN s j) ⟨fname, fnum, fty, fref, frep, floose, fone⟩ sl u.rest rs) := Lib.hid (by
                unfold stepD
                dsimp only
                rw [HFLD.out]
                dsimp only
                rw [hl15]
                dsimp only
                rw [if_neg (fun e => e h15), HSLO.out])
              have HTX : Hid (st1.rd tText [] seg = (rs, st2)) := Lib.hid (by
                have h1 := HRDEF.out
                unfold readS at h1
                rw [if_neg (by omega), if_pos hw2] at h1
                have h2 := congrArg (fun z => z.1.2) h1
                have h3 := congrArg (fun z => z.2) h1
                dsimp only at h2 h3
                rw [h2, h3])
              have HKID := Lib.hid (HRF.out.2.2.2.2 h15)
              have HFEW : Hid (rs.length ≤ seg.length - st.at_) := Lib.hid (by
                have h1 := text_few HLEN.out HFR1.out
                rw [← HSG.out, HTX.out] at h1
                have h2 := HATB.out
                have h3 := HSN.out
                dsimp only at h1
                omega)
              obtain ⟨W, hW⟩ : ∃ z, z = witQ s j ⟨fname, fnum, fty, fref, frep, floose, fone⟩ (.mk sl u.rest) (rs, st2) := ⟨_, rfl⟩
              have HWQ := Lib.hid hW
              have HL15 : Hid (∀ (w8 : World) {w7 : World} {gc7 gc8 : Nat} {D7 D8 : Nat → Prop} {vs8 vr8 : Value} {E8 : Int → Nat → Prop} (h : RdS We K (j + 1) D7 w7 w8 p gc7 gc8 bs (st1.lift a r) g (.mk sl u.rest) D8 vs8 vr8 E8), Calls Tryz.prog 70 #[rdV A ne ca (some ⟨ge, oe, none⟩) nm ca2 p, .pointer (some ⟨g, 0, none⟩), fdV ⟨fname, fnum, fty, fref, frep, floose, fone⟩, .int .i64 (wire : Int)] w8 (WitTo We K (j + 1) D7 w7 p gc7 bs a r g st2 W)) := Lib.hid (fun w8 {w7} {gc7} {gc8} {D7} {D8} {vs8} {vr8} {E8} h => by
                have h1 := dlay15_any HM.out h HFR1.out HLEN.out HBS.out (by have := HR.out; omega) ⟨fname, fnum, fty, fref, frep, floose, fone⟩ (wire : Int) h15 (by have := HRF.out.2.2.1; show sl.length ≤ 800; omega) (by have := HRF.out.2.2.2.1; exact this) (fun v hv => by
                  obtain ⟨a1, a2, k, a3, a4, a5⟩ := HKID.out.1 v hv
                  refine ⟨a1, a2, k, a3, a4, ?_⟩
                  rw [← HSG.out, HTX.out]
                  have := HFEW.out
                  dsimp only
                  omega) HKID.out.2.1 HKID.out.2.2
                rw [← HSG.out, HTX.out, ← hW] at h1
                exact h1)
              have HWST : Hid (st2.fr ≠ [] → W = stepD (intoN s j) m u ⟨(num : Int), (wire : Int), rn, rs⟩) := Lib.hid (fun hb => by
                rw [HS15.out, HWQ.out]
                unfold witQ msgD
                dsimp only
                rw [if_neg hb]
                rfl)
              have HWBD : Hid (st2.fr = [] → W.2 = 8) := Lib.hid (fun hb => by
                rw [HWQ.out]
                unfold witQ
                rw [if_pos hb])
              unfold rdV fdV at HL15
              dsimp only at HL15
              (try rw [HG0.out, HG3.out, HG6.out] at HL15)
              obtain ⟨y, cw⟩ := W
              dsimp only at HWBD
              by_cases hcw : cw = 0
              · subst hcw
                have HL15 := Lib.hid (fun (w8 : World) {w7 : World} {gc7 gc8 : Nat} {D7 D8 : Nat → Prop} {vs8 vr8 : Value} {E8 : Int → Nat → Prop} (h : RdS We K (j + 1) D7 w7 w8 p gc7 gc8 bs (st1.lift a r) g (.mk sl u.rest) D8 vs8 vr8 E8) => (HL15.out w8 h).mono (fun e w9 hh => show e = .returned (.int .i64 0) ∧ ∃ gc' D' vs' vr' E', RdS We K (j + 1) D7 w7 w9 p gc7 gc' bs (st2.lift a r) g y D' vs' vr' E' from ⟨hh.1, hh.2.1 rfl⟩))
                clear hw2 hl15 hW h15
                go_wp2_with (first
                  | (go_at_call 36; refine HMO.out.mono ?_; rintro e w3 ⟨rfl, k, rfl⟩)
                  | (go_at_call 66; refine (HTAG.out _ (drawn_below _ k)).mono ?_; rintro e w4 ⟨rfl, gc4, hr4⟩; have HR4 := Lib.hid hr4; obtain ⟨kM4, kR4⟩ := HBOX.out w4 hr4.r_t; have p0 := obj_cell kM4 0; have p1 := obj_cell kM4 1; have p2 := obj_cell kM4 2; have HKM4 := Lib.hid kM4; have HKR4 := Lib.hid kR4; clear hr4 kM4 kR4 z2 z2d)
                  | (go_at_call 67; refine (HNUM.out w4 (cub_env HR4.out.r_cur)).mono ?_; rintro e w5 ⟨rfl, hb5⟩; have HR5 := Lib.hid (rds_bel HR4.out hb5); have kM5 := (hb5.block _ (lt_of_block HKM4.out)).trans HKM4.out; have kR5 := (hb5.block _ (lt_of_block HKR4.out)).trans HKR4.out; have HKM5 := Lib.hid kM5; have HKR5 := Lib.hid kR5; have HB5 := Lib.hid ((Below.refl _ w5).alloc (Nat.le_refl _) (.cells #[.string fn0, .int .i64 fnum, .int .i64 fty, .string fn3, .bool frep, .bool floose, .string fn6] 43)); have HKF5 := Lib.hid (heap_alloc_new w5 (.cells #[.string fn0, .int .i64 fnum, .int .i64 fty, .string fn3, .bool frep, .bool floose, .string fn6] 43)); have v0 := obj_cell HKF5.out 0; have v1 := obj_cell HKF5.out 1; have v2 := obj_cell HKF5.out 2; have v3 := obj_cell HKF5.out 3; have v4 := obj_cell HKF5.out 4; have v5 := obj_cell HKF5.out 5; have v6 := obj_cell HKF5.out 6; clear hb5 kM5 kR5 p0 p1 p2)
                  | (go_at_call 68; refine (HMAY.out _ ((cub_env HR5.out.r_cur).trans (HB5.out.mono (cub_env HR5.out.r_cur).size))).mono ?_; rintro e w6 ⟨rfl, hb6⟩; have hb56 := vbel HB5.out hb6; have HR6 := Lib.hid (rds_bel HR5.out hb56); have kF6 := (hb6.block _ (lt_of_block HKF5.out)).trans HKF5.out; have kM6 := (hb56.block _ (lt_of_block HKM5.out)).trans HKM5.out; have kR6 := (hb56.block _ (lt_of_block HKR5.out)).trans HKR5.out; have HKF6 := Lib.hid kF6; have HKM6 := Lib.hid kM6; have HKR6 := Lib.hid kR6; have p0 := obj_cell kM6 0; have p1 := obj_cell kM6 1; have p2 := obj_cell kM6 2; have t0 := obj_cell kF6 0; have t1 := obj_cell kF6 1; have t2 := obj_cell kF6 2; have t3 := obj_cell kF6 3; have t4 := obj_cell kF6 4; have t5 := obj_cell kF6 5; have t6 := obj_cell kF6 6; have y2 := obj_cell kR6 2; clear hb6 hb56 kF6 kM6 kR6 v0 v1 v2 v3 v4 v5 v6)
                  | (go_at_call 69; refine (HALO.out w6 gc4 HR6.out).mono ?_; rintro e w8 ⟨rfl, D8, vs8, vr8, E8, hr8⟩; have HR8 := Lib.hid hr8; have HRT8 := Lib.hid (rds_trans HR6.out hr8); obtain ⟨kM8, kR8⟩ := HBOX.out w8 (rds_trans HR6.out hr8).r_t; have kF8 := rds_box hr8 HKF6.out (fun hd => by have := (HR5.out.r_mt.o_lt _ hd).1; omega) (fun e => by have := cub_lt HR5.out.r_cur; omega) (fun e => by have := cub_lt HR5.out.r_cur; omega); have m0 := obj_cell kR8 0; have m1 := obj_cell kR8 1; have m2 := obj_cell kR8 2; have l0 := obj_cell kF8 0; have l1 := obj_cell kF8 1; have l2 := obj_cell kF8 2; have l3 := obj_cell kF8 3; have l4 := obj_cell kF8 4; have l5 := obj_cell kF8 5; have l6 := obj_cell kF8 6; clear hr8 kM8 kR8 kF8 p0 p1 p2 t0 t1 t2 t3 t4 t5 t6 y2)
                  | (go_at_call 70; refine (HL15.out w8 HR8.out).mono ?_; rintro e w9 ⟨rfl, gc9, D9, vs9, vr9, E9, hr9⟩; have HR9 := Lib.hid (rds_trans HR6.out hr9); clear hr9))
                have hatl := HRR.out.2.2
                rw [HSN.out] at hatl
                by_cases hbad : st2.fr = []
                · exact absurd (HWBD.out hbad) (by decide)
                · have hlt2 := HAT.out hbad
                  obtain ⟨acc2, hl2⟩ := HNEXT.out _ hbad (HWST.out hbad).symm
                  go_roundg (n + 1 - st2.at_)
                  case measure => omega
                  case rel => exact ⟨rfl, .inl ⟨st2, acc2, _, gc9, D9, vs9, vr9, E9, by omega, hl2, HR9.out⟩⟩
              · have HQC : Hid (Q.2 = cw) := Lib.hid (by
                  by_cases hbad : st2.fr = []
                  · rw [HFAIL.out hbad, HWBD.out hbad]
                  · have h1 := HWST.out hbad
                    have h2 := HSTOP.out hbad (by rw [← h1]; exact hcw)
                    rw [h2, ← h1])
                have HCN := Lib.hid hcw
                have ec : ((cw : Int) == 0) = false := beq_eq_false_iff_ne.mpr (by omega)
                have HL15 := Lib.hid (fun (w8 : World) {w7 : World} {gc7 gc8 : Nat} {D7 D8 : Nat → Prop} {vs8 vr8 : Value} {E8 : Int → Nat → Prop} (h : RdS We K (j + 1) D7 w7 w8 p gc7 gc8 bs (st1.lift a r) g (.mk sl u.rest) D8 vs8 vr8 E8) => (HL15.out w8 h).mono (fun e w9 hh => show e = .returned (.int .i64 (cw : Int)) ∧ Lost We K D7 w7 w9 p gc7 bs cw from ⟨hh.1, hh.2.2 hcw⟩))
                clear hw2 hl15 hW h15 hcw
                go_wp2_with (first
                  | (go_at_call 36; refine HMO.out.mono ?_; rintro e w3 ⟨rfl, k, rfl⟩)
                  | (go_at_call 66; refine (HTAG.out _ (drawn_below _ k)).mono ?_; rintro e w4 ⟨rfl, gc4, hr4⟩; have HR4 := Lib.hid hr4; obtain ⟨kM4, kR4⟩ := HBOX.out w4 hr4.r_t; have p0 := obj_cell kM4 0; have p1 := obj_cell kM4 1; have p2 := obj_cell kM4 2; have HKM4 := Lib.hid kM4; have HKR4 := Lib.hid kR4; clear hr4 kM4 kR4 z2 z2d)
                  | (go_at_call 67; refine (HNUM.out w4 (cub_env HR4.out.r_cur)).mono ?_; rintro e w5 ⟨rfl, hb5⟩; have HR5 := Lib.hid (rds_bel HR4.out hb5); have kM5 := (hb5.block _ (lt_of_block HKM4.out)).trans HKM4.out; have kR5 := (hb5.block _ (lt_of_block HKR4.out)).trans HKR4.out; have HKM5 := Lib.hid kM5; have HKR5 := Lib.hid kR5; have HB5 := Lib.hid ((Below.refl _ w5).alloc (Nat.le_refl _) (.cells #[.string fn0, .int .i64 fnum, .int .i64 fty, .string fn3, .bool frep, .bool floose, .string fn6] 43)); have HKF5 := Lib.hid (heap_alloc_new w5 (.cells #[.string fn0, .int .i64 fnum, .int .i64 fty, .string fn3, .bool frep, .bool floose, .string fn6] 43)); have v0 := obj_cell HKF5.out 0; have v1 := obj_cell HKF5.out 1; have v2 := obj_cell HKF5.out 2; have v3 := obj_cell HKF5.out 3; have v4 := obj_cell HKF5.out 4; have v5 := obj_cell HKF5.out 5; have v6 := obj_cell HKF5.out 6; clear hb5 kM5 kR5 p0 p1 p2)
                  | (go_at_call 68; refine (HMAY.out _ ((cub_env HR5.out.r_cur).trans (HB5.out.mono (cub_env HR5.out.r_cur).size))).mono ?_; rintro e w6 ⟨rfl, hb6⟩; have hb56 := vbel HB5.out hb6; have HR6 := Lib.hid (rds_bel HR5.out hb56); have kF6 := (hb6.block _ (lt_of_block HKF5.out)).trans HKF5.out; have kM6 := (hb56.block _ (lt_of_block HKM5.out)).trans HKM5.out; have kR6 := (hb56.block _ (lt_of_block HKR5.out)).trans HKR5.out; have HKF6 := Lib.hid kF6; have HKM6 := Lib.hid kM6; have HKR6 := Lib.hid kR6; have p0 := obj_cell kM6 0; have p1 := obj_cell kM6 1; have p2 := obj_cell kM6 2; have t0 := obj_cell kF6 0; have t1 := obj_cell kF6 1; have t2 := obj_cell kF6 2; have t3 := obj_cell kF6 3; have t4 := obj_cell kF6 4; have t5 := obj_cell kF6 5; have t6 := obj_cell kF6 6; have y2 := obj_cell kR6 2; clear hb6 hb56 kF6 kM6 kR6 v0 v1 v2 v3 v4 v5 v6)
                  | (go_at_call 69; refine (HALO.out w6 gc4 HR6.out).mono ?_; rintro e w8 ⟨rfl, D8, vs8, vr8, E8, hr8⟩; have HR8 := Lib.hid hr8; have HRT8 := Lib.hid (rds_trans HR6.out hr8); obtain ⟨kM8, kR8⟩ := HBOX.out w8 (rds_trans HR6.out hr8).r_t; have kF8 := rds_box hr8 HKF6.out (fun hd => by have := (HR5.out.r_mt.o_lt _ hd).1; omega) (fun e => by have := cub_lt HR5.out.r_cur; omega) (fun e => by have := cub_lt HR5.out.r_cur; omega); have m0 := obj_cell kR8 0; have m1 := obj_cell kR8 1; have m2 := obj_cell kR8 2; have l0 := obj_cell kF8 0; have l1 := obj_cell kF8 1; have l2 := obj_cell kF8 2; have l3 := obj_cell kF8 3; have l4 := obj_cell kF8 4; have l5 := obj_cell kF8 5; have l6 := obj_cell kF8 6; clear hr8 kM8 kR8 kF8 p0 p1 p2 t0 t1 t2 t3 t4 t5 t6 y2)
                  | (go_at_call 70; refine (HL15.out w8 HR8.out).mono ?_; rintro e w9 ⟨rfl, hl9⟩; have HL9 := Lib.hid (lost_trans HR6.out (fun b h => h) hl9); obtain ⟨kM9, kR9⟩ := HBOX.out w9 (by obtain ⟨_, _, _, _, h3, _⟩ := HL9.out; exact h3); have b2 := obj_cell kR9 2; obtain ⟨bb, HOKC, hbf, hbt⟩ := endB_ok (lost_end HL9.out HCN.out); have HBT := Lib.hid (And.intro hbf hbt); clear hl9 kM9 kR9 hbf hbt)
                  | (go_at_call 40; refine HOKC.mono ?_; rintro e w10 ⟨rfl, rfl⟩; cases bb))
                · rw [Exit.noGoto_ret]
                  go_ret
                  have h8 := HBT.out.1 (by first | trivial | rfl)
                  have := msg_lost (K := K) (j := j + 1) (a := a) (n := n) (r := r) (g := g) (q := Q) HBB.out (by rw [HQC.out]; exact HL9.out) (by rw [HQC.out]; exact HCN.out)
                  rw [HQC.out, h8] at this
                  exact this
                · rw [Exit.noGoto_ret]
                  go_ret
                  have := msg_lost (K := K) (j := j + 1) (a := a) (n := n) (r := r) (g := g) (q := Q) HBB.out (by rw [HQC.out]; exact HL9.out) (by rw [HQC.out]; exact HCN.out)
                  rw [HQC.out] at this
                  exact this
            · have HNE := Lib.hid h15
              have HMM : Hid (frep = false → (wire : Int) = wireT fty) := Lib.hid (fun hr => by
                have h1 := HMB.out
                unfold mayD at h1
                dsimp only at h1
                rw [hr, Bool.false_and, Bool.false_or] at h1
                exact of_decide_eq_true h1.symm)
              have HVE := Lib.hid (vals_eq (num := (num : Int)) HRF.out.1 h15 HMB.out.symm HRE1.out (types15 HRF.out.1))
              (try dsimp only at HVE)
              cases hv : valsQ ⟨fname, fnum, fty, fref, frep, floose, fone⟩ (wire : Int) rn rs with
              | none =>
                rw [hv] at HLAYA HVE
                dsimp only [layQ] at HLAYA
                have hs8 : (stepD (intoN s j) m u ⟨(num : Int), (wire : Int), rn, rs⟩) = (u, 8) := by
                  unfold stepD
                  dsimp only
                  rw [HFLD.out]
                  dsimp only
                  rw [HVE.out]
                have HQ8 : Hid (Q.2 = 8) := Lib.hid (by
                  by_cases hbad : st2.fr = []
                  · exact HFAIL.out hbad
                  · have := HSTOP.out hbad (by rw [hs8]; exact (by decide : (8 : Nat) ≠ 0))
                    rw [this, hs8])
                clear h15 hv hs8
                by_cases hbad : st2.fr = []
                · go_wp2_with (first
                    | (go_at_call 36; refine HMO.out.mono ?_; rintro e w3 ⟨rfl, k, rfl⟩)
                    | (go_at_call 66; refine (HTAG.out _ (drawn_below _ k)).mono ?_; rintro e w4 ⟨rfl, gc4, hr4⟩; have HR4 := Lib.hid hr4; obtain ⟨kM4, kR4⟩ := HBOX.out w4 hr4.r_t; have p0 := obj_cell kM4 0; have p1 := obj_cell kM4 1; have p2 := obj_cell kM4 2; have HKM4 := Lib.hid kM4; have HKR4 := Lib.hid kR4; clear hr4 kM4 kR4 z2 z2d)
                    | (go_at_call 67; refine (HNUM.out w4 (cub_env HR4.out.r_cur)).mono ?_; rintro e w5 ⟨rfl, hb5⟩; have HR5 := Lib.hid (rds_bel HR4.out hb5); have kM5 := (hb5.block _ (lt_of_block HKM4.out)).trans HKM4.out; have kR5 := (hb5.block _ (lt_of_block HKR4.out)).trans HKR4.out; have HKM5 := Lib.hid kM5; have HKR5 := Lib.hid kR5; have HB5 := Lib.hid ((Below.refl _ w5).alloc (Nat.le_refl _) (.cells #[.string fn0, .int .i64 fnum, .int .i64 fty, .string fn3, .bool frep, .bool floose, .string fn6] 43)); have HKF5 := Lib.hid (heap_alloc_new w5 (.cells #[.string fn0, .int .i64 fnum, .int .i64 fty, .string fn3, .bool frep, .bool floose, .string fn6] 43)); have v0 := obj_cell HKF5.out 0; have v1 := obj_cell HKF5.out 1; have v2 := obj_cell HKF5.out 2; have v3 := obj_cell HKF5.out 3; have v4 := obj_cell HKF5.out 4; have v5 := obj_cell HKF5.out 5; have v6 := obj_cell HKF5.out 6; clear hb5 kM5 kR5 p0 p1 p2)
                    | (go_at_call 68; refine (HMAY.out _ ((cub_env HR5.out.r_cur).trans (HB5.out.mono (cub_env HR5.out.r_cur).size))).mono ?_; rintro e w6 ⟨rfl, hb6⟩; have hb56 := vbel HB5.out hb6; have HR6 := Lib.hid (rds_bel HR5.out hb56); have kF6 := (hb6.block _ (lt_of_block HKF5.out)).trans HKF5.out; have kM6 := (hb56.block _ (lt_of_block HKM5.out)).trans HKM5.out; have kR6 := (hb56.block _ (lt_of_block HKR5.out)).trans HKR5.out; have HKF6 := Lib.hid kF6; have HKM6 := Lib.hid kM6; have HKR6 := Lib.hid kR6; have p0 := obj_cell kM6 0; have p1 := obj_cell kM6 1; have p2 := obj_cell kM6 2; have t0 := obj_cell kF6 0; have t1 := obj_cell kF6 1; have t2 := obj_cell kF6 2; have t3 := obj_cell kF6 3; have t4 := obj_cell kF6 4; have t5 := obj_cell kF6 5; have t6 := obj_cell kF6 6; have y2 := obj_cell kR6 2; clear hb6 hb56 kF6 kM6 kR6 v0 v1 v2 v3 v4 v5 v6)
                    | (go_at_call 69; refine (HALO.out w6 gc4 HR6.out).mono ?_; rintro e w8 ⟨rfl, D8, vs8, vr8, E8, hr8⟩; have HR8 := Lib.hid hr8; have HRT8 := Lib.hid (rds_trans HR6.out hr8); obtain ⟨kM8, kR8⟩ := HBOX.out w8 (rds_trans HR6.out hr8).r_t; have kF8 := rds_box hr8 HKF6.out (fun hd => by have := (HR5.out.r_mt.o_lt _ hd).1; omega) (fun e => by have := cub_lt HR5.out.r_cur; omega) (fun e => by have := cub_lt HR5.out.r_cur; omega); have m0 := obj_cell kR8 0; have m1 := obj_cell kR8 1; have m2 := obj_cell kR8 2; have l0 := obj_cell kF8 0; have l1 := obj_cell kF8 1; have l2 := obj_cell kF8 2; have l3 := obj_cell kF8 3; have l4 := obj_cell kF8 4; have l5 := obj_cell kF8 5; have l6 := obj_cell kF8 6; clear hr8 kM8 kR8 kF8 p0 p1 p2 t0 t1 t2 t3 t4 t5 t6 y2)
                    | (go_at_call 70; refine (HLAYA.out w8 HR8.out HNE.out HMM.out).mono ?_; rintro e w9 ⟨gc9, D9, vs9, vr9, E9, rfl, hr9⟩; have HR9 := Lib.hid (rds_trans HR6.out hr9); obtain ⟨kM9, kR9⟩ := HBOX.out w9 (rds_trans HR6.out hr9).r_t; have b2 := obj_cell kR9 2; clear hr9 kM9 kR9)
                    | (go_at_call 40; refine (dead_ok (rds_dead HR9.out (by rw [lift_none hbad]; rfl) HQ8.out)).mono ?_; rintro e w10 ⟨rfl, rfl⟩))
                  rw [Exit.noGoto_ret]
                  go_ret
                  have := msg_lost (K := K) (j := j + 1) (a := a) (n := n) (r := r) (g := g) (q := Q) HBB.out (rds_lost HR9.out (fun _ => HQ8.out)) (by rw [HQ8.out]; decide)
                  rw [HQ8.out] at this
                  exact this
                · go_wp2_with (first
                    | (go_at_call 36; refine HMO.out.mono ?_; rintro e w3 ⟨rfl, k, rfl⟩)
                    | (go_at_call 66; refine (HTAG.out _ (drawn_below _ k)).mono ?_; rintro e w4 ⟨rfl, gc4, hr4⟩; have HR4 := Lib.hid hr4; obtain ⟨kM4, kR4⟩ := HBOX.out w4 hr4.r_t; have p0 := obj_cell kM4 0; have p1 := obj_cell kM4 1; have p2 := obj_cell kM4 2; have HKM4 := Lib.hid kM4; have HKR4 := Lib.hid kR4; clear hr4 kM4 kR4 z2 z2d)
                    | (go_at_call 67; refine (HNUM.out w4 (cub_env HR4.out.r_cur)).mono ?_; rintro e w5 ⟨rfl, hb5⟩; have HR5 := Lib.hid (rds_bel HR4.out hb5); have kM5 := (hb5.block _ (lt_of_block HKM4.out)).trans HKM4.out; have kR5 := (hb5.block _ (lt_of_block HKR4.out)).trans HKR4.out; have HKM5 := Lib.hid kM5; have HKR5 := Lib.hid kR5; have HB5 := Lib.hid ((Below.refl _ w5).alloc (Nat.le_refl _) (.cells #[.string fn0, .int .i64 fnum, .int .i64 fty, .string fn3, .bool frep, .bool floose, .string fn6] 43)); have HKF5 := Lib.hid (heap_alloc_new w5 (.cells #[.string fn0, .int .i64 fnum, .int .i64 fty, .string fn3, .bool frep, .bool floose, .string fn6] 43)); have v0 := obj_cell HKF5.out 0; have v1 := obj_cell HKF5.out 1; have v2 := obj_cell HKF5.out 2; have v3 := obj_cell HKF5.out 3; have v4 := obj_cell HKF5.out 4; have v5 := obj_cell HKF5.out 5; have v6 := obj_cell HKF5.out 6; clear hb5 kM5 kR5 p0 p1 p2)
                    | (go_at_call 68; refine (HMAY.out _ ((cub_env HR5.out.r_cur).trans (HB5.out.mono (cub_env HR5.out.r_cur).size))).mono ?_; rintro e w6 ⟨rfl, hb6⟩; have hb56 := vbel HB5.out hb6; have HR6 := Lib.hid (rds_bel HR5.out hb56); have kF6 := (hb6.block _ (lt_of_block HKF5.out)).trans HKF5.out; have kM6 := (hb56.block _ (lt_of_block HKM5.out)).trans HKM5.out; have kR6 := (hb56.block _ (lt_of_block HKR5.out)).trans HKR5.out; have HKF6 := Lib.hid kF6; have HKM6 := Lib.hid kM6; have HKR6 := Lib.hid kR6; have p0 := obj_cell kM6 0; have p1 := obj_cell kM6 1; have p2 := obj_cell kM6 2; have t0 := obj_cell kF6 0; have t1 := obj_cell kF6 1; have t2 := obj_cell kF6 2; have t3 := obj_cell kF6 3; have t4 := obj_cell kF6 4; have t5 := obj_cell kF6 5; have t6 := obj_cell kF6 6; have y2 := obj_cell kR6 2; clear hb6 hb56 kF6 kM6 kR6 v0 v1 v2 v3 v4 v5 v6)
                    | (go_at_call 69; refine (HALO.out w6 gc4 HR6.out).mono ?_; rintro e w8 ⟨rfl, D8, vs8, vr8, E8, hr8⟩; have HR8 := Lib.hid hr8; have HRT8 := Lib.hid (rds_trans HR6.out hr8); obtain ⟨kM8, kR8⟩ := HBOX.out w8 (rds_trans HR6.out hr8).r_t; have kF8 := rds_box hr8 HKF6.out (fun hd => by have := (HR5.out.r_mt.o_lt _ hd).1; omega) (fun e => by have := cub_lt HR5.out.r_cur; omega) (fun e => by have := cub_lt HR5.out.r_cur; omega); have m0 := obj_cell kR8 0; have m1 := obj_cell kR8 1; have m2 := obj_cell kR8 2; have l0 := obj_cell kF8 0; have l1 := obj_cell kF8 1; have l2 := obj_cell kF8 2; have l3 := obj_cell kF8 3; have l4 := obj_cell kF8 4; have l5 := obj_cell kF8 5; have l6 := obj_cell kF8 6; clear hr8 kM8 kR8 kF8 p0 p1 p2 t0 t1 t2 t3 t4 t5 t6 y2)
                    | (go_at_call 70; refine (HLAYA.out w8 HR8.out HNE.out HMM.out).mono ?_; rintro e w9 ⟨gc9, D9, vs9, vr9, E9, rfl, hr9⟩; have HR9 := Lib.hid (rds_trans HR6.out hr9); obtain ⟨kM9, kR9⟩ := HBOX.out w9 (rds_trans HR6.out hr9).r_t; have b2 := obj_cell kR9 2; clear hr9 kM9 kR9)
                    | (go_at_call 40; refine (live_ok HR9.out (HAT.out hbad).2.1 (Below.refl _ _)).mono ?_; rintro e w10 ⟨rfl, rfl⟩))
                  rw [Exit.noGoto_ret]
                  go_ret
                  have := msg_lost (K := K) (j := j + 1) (a := a) (n := n) (r := r) (g := g) (q := Q) HBB.out (rds_lost HR9.out (fun _ => HQ8.out)) (by rw [HQ8.out]; decide)
                  rw [HQ8.out] at this
                  exact this
              | some l =>
                rw [hv] at HLAYA HVE
                dsimp only [layQ] at HLAYA
                have HSTEP : Hid (stepD (intoN s j) m u ⟨(num : Int), (wire : Int), rn, rs⟩ = (.mk (layP ⟨fname, fnum, fty, fref, frep, floose, fone⟩ l sl) u.rest, 0)) := Lib.hid (by
                  unfold stepD
                  dsimp only
                  rw [HFLD.out]
                  dsimp only
                  rw [HVE.out]
                  dsimp only
                  rw [if_pos h15, HSLO.out]
                  rfl)
                clear h15 hv
                go_wp2_with (first
                  | (go_at_call 36; refine HMO.out.mono ?_; rintro e w3 ⟨rfl, k, rfl⟩)
                  | (go_at_call 66; refine (HTAG.out _ (drawn_below _ k)).mono ?_; rintro e w4 ⟨rfl, gc4, hr4⟩; have HR4 := Lib.hid hr4; obtain ⟨kM4, kR4⟩ := HBOX.out w4 hr4.r_t; have p0 := obj_cell kM4 0; have p1 := obj_cell kM4 1; have p2 := obj_cell kM4 2; have HKM4 := Lib.hid kM4; have HKR4 := Lib.hid kR4; clear hr4 kM4 kR4 z2 z2d)
                  | (go_at_call 67; refine (HNUM.out w4 (cub_env HR4.out.r_cur)).mono ?_; rintro e w5 ⟨rfl, hb5⟩; have HR5 := Lib.hid (rds_bel HR4.out hb5); have kM5 := (hb5.block _ (lt_of_block HKM4.out)).trans HKM4.out; have kR5 := (hb5.block _ (lt_of_block HKR4.out)).trans HKR4.out; have HKM5 := Lib.hid kM5; have HKR5 := Lib.hid kR5; have HB5 := Lib.hid ((Below.refl _ w5).alloc (Nat.le_refl _) (.cells #[.string fn0, .int .i64 fnum, .int .i64 fty, .string fn3, .bool frep, .bool floose, .string fn6] 43)); have HKF5 := Lib.hid (heap_alloc_new w5 (.cells #[.string fn0, .int .i64 fnum, .int .i64 fty, .string fn3, .bool frep, .bool floose, .string fn6] 43)); have v0 := obj_cell HKF5.out 0; have v1 := obj_cell HKF5.out 1; have v2 := obj_cell HKF5.out 2; have v3 := obj_cell HKF5.out 3; have v4 := obj_cell HKF5.out 4; have v5 := obj_cell HKF5.out 5; have v6 := obj_cell HKF5.out 6; clear hb5 kM5 kR5 p0 p1 p2)
                  | (go_at_call 68; refine (HMAY.out _ ((cub_env HR5.out.r_cur).trans (HB5.out.mono (cub_env HR5.out.r_cur).size))).mono ?_; rintro e w6 ⟨rfl, hb6⟩; have hb56 := vbel HB5.out hb6; have HR6 := Lib.hid (rds_bel HR5.out hb56); have kF6 := (hb6.block _ (lt_of_block HKF5.out)).trans HKF5.out; have kM6 := (hb56.block _ (lt_of_block HKM5.out)).trans HKM5.out; have kR6 := (hb56.block _ (lt_of_block HKR5.out)).trans HKR5.out; have HKF6 := Lib.hid kF6; have HKM6 := Lib.hid kM6; have HKR6 := Lib.hid kR6; have p0 := obj_cell kM6 0; have p1 := obj_cell kM6 1; have p2 := obj_cell kM6 2; have t0 := obj_cell kF6 0; have t1 := obj_cell kF6 1; have t2 := obj_cell kF6 2; have t3 := obj_cell kF6 3; have t4 := obj_cell kF6 4; have t5 := obj_cell kF6 5; have t6 := obj_cell kF6 6; have y2 := obj_cell kR6 2; clear hb6 hb56 kF6 kM6 kR6 v0 v1 v2 v3 v4 v5 v6)
                  | (go_at_call 69; refine (HALO.out w6 gc4 HR6.out).mono ?_; rintro e w8 ⟨rfl, D8, vs8, vr8, E8, hr8⟩; have HR8 := Lib.hid hr8; have HRT8 := Lib.hid (rds_trans HR6.out hr8); obtain ⟨kM8, kR8⟩ := HBOX.out w8 (rds_trans HR6.out hr8).r_t; have kF8 := rds_box hr8 HKF6.out (fun hd => by have := (HR5.out.r_mt.o_lt _ hd).1; omega) (fun e => by have := cub_lt HR5.out.r_cur; omega) (fun e => by have := cub_lt HR5.out.r_cur; omega); have m0 := obj_cell kR8 0; have m1 := obj_cell kR8 1; have m2 := obj_cell kR8 2; have l0 := obj_cell kF8 0; have l1 := obj_cell kF8 1; have l2 := obj_cell kF8 2; have l3 := obj_cell kF8 3; have l4 := obj_cell kF8 4; have l5 := obj_cell kF8 5; have l6 := obj_cell kF8 6; clear hr8 kM8 kR8 kF8 p0 p1 p2 t0 t1 t2 t3 t4 t5 t6 y2)
                  | (go_at_call 70; refine (HLAYA.out w8 HR8.out HNE.out HMM.out).mono ?_; rintro e w9 ⟨gc9, D9, vs9, vr9, E9, rfl, hr9⟩; have HR9 := Lib.hid (rds_trans HR6.out hr9); obtain ⟨kM9, kR9⟩ := HBOX.out w9 (rds_trans HR6.out hr9).r_t; have b2 := obj_cell kR9 2; clear hr9 kM9 kR9))
                have hatl := HRR.out.2.2
                rw [HSN.out] at hatl
                by_cases hbad : st2.fr = []
                · go_roundg 0
                  case measure => omega
                  case rel => exact ⟨rfl, .inr (rds_dead HR9.out (by rw [lift_none hbad]; rfl) (HFAIL.out hbad))⟩
                · have hlt2 := HAT.out hbad
                  obtain ⟨acc2, hl2⟩ := HNEXT.out _ hbad HSTEP.out
                  go_roundg (n + 1 - st2.at_)
                  case measure => omega
                  case rel => exact ⟨rfl, .inl ⟨st2, acc2, _, gc9, D9, vs9, vr9, E9, by omega, hl2, HR9.out⟩⟩
    · have HDB := Lib.hid hdead
      have HMD := Lib.hid (dead_more hdead)
      obtain ⟨kM, kR⟩ := HBOX.out wr (by obtain ⟨_, _, _, _, _, h3, _⟩ := hdead; exact h3)
      have z2 := obj_cell kR 2
      have z2d : ∀ k, (wr.drewN k).cell? ⟨w.heap.size, 2, none⟩ = some (.pointer (some ⟨p, 0, none⟩)) := fun k => z2
      clear hdead kM kR
      go_wp2_with (first
        | (go_at_call 36; refine HMD.out.mono ?_; rintro e w4 ⟨rfl, k, rfl⟩)
        | (go_at_call 40; refine (dead_ok (dead_bel HDB.out (drawn_below _ k))).mono ?_; rintro e w5 ⟨rfl, rfl⟩))
      rw [Exit.noGoto_ret]
      go_ret
      have hq := HDB.out.d_q
      have := msg_lost (K := K) (j := j + 1) (a := a) (n := n) (r := r) (g := g) HBB.out (endB_lost (dead_end (c := 0) (dead_bel HDB.out (drawn_below _ k)))) (by omega)
      rw [hq] at this
      exact this
theorem pmsg_any (env : ScEnv We) (u8 : U8Env We) (hsc : ScAt SS We A ne ca A2 nm ca2 s) (hck : checkT s = 0) (hsm : ∀ m ∈ s.msgs, m.fields.length ≤ 200 ∧ m.barred.length ≤ 200) : ∀ j, PMsg s We A ne ca A2 nm ca2 j
  | 0 => pmsg_zero hsc
  | j + 1 => pmsg_succ env u8 hsc hck hsm (pmsg_any env u8 hsc hck hsm j)
end
end Go.Proofs.YtpfdnggacpehdaaGreatDoor

/- Layer 22: what was read is a tree. Conditions: those that each theorem names. -/
namespace Go.Proofs.YtpfdnggacpehdaaGreatDoor
open Go.RowKit
set_option linter.unusedVariables false
set_option maxRecDepth 100000

theorem lst_zip {α : Type} {k : Nat} {S : Nat → Prop} {RR : World → List Value → α × Nat → Prop} {R : World → List Value → α → Prop} {w : World} {A : Option Addr} {c : Nat} {l : List α} (h : Lst k S RR w A c l.zipIdx) (hR : ∀ cs x j, RR w cs (x, j) → R w cs x) : Lst k S R w A c l := by
  refine ⟨by have := h.l_le; simpa using this, h.l_max, h.l_nil, fun j x hx => ?_⟩
  obtain ⟨g, off, cs, e, hs, hl, hr, hc⟩ := h.l_at j (x, j) (by simp [hx])
  exact ⟨g, off, cs, e, hs, hl, hR cs x j hr, hc⟩
theorem mt_tr {K : Nat} {w : World} : ∀ (k : Nat) {D : Nat → Prop} {g : Nat} {x : Tr}, MT K (k + 1) D w g x → ∃ A na ca A2 nr cr, w.heap[g]? = some (.cells #[.slice A na ca, .slice A2 nr cr] 33 (0, 0)) ∧ TrAt D k w A na ca A2 nr cr x
  | k, D, g, x, ⟨vs, vr, E, h⟩ => by
    have hkid : ∀ F gk u, (∀ b, F b → D b) → MT K k F w gk u → ∃ A na ca A2 nr cr, w.heap[gk]? = some (.cells #[.slice A na ca, .slice A2 nr cr] 33 (0, 0)) ∧ trR D k w [.slice A na ca, .slice A2 nr cr] u := by
      intro F gk u hF hu
      match k, hu with
      | 0, hu => exact hu.elim
      | m + 1, hu =>
        obtain ⟨A, na, ca, A2, nr, cr, hb, ht⟩ := mt_tr m hu
        exact ⟨A, na, ca, A2, nr, cr, hb, A, na, ca, A2, nr, cr, rfl, trAt_keep ht hF (stay_refl _ _)⟩
    have hmk : ∀ (F : Nat → Prop) A n d (l : List Tr), (∀ b, F b → D b) → mkR (MT K k) F w (.slice A n d) l → n = l.length ∧ Lst 2 D (trR D k) w A d l := by
      intro F A n d l hF hm
      match l, hm with
      | [], hm =>
        cases hm
        exact ⟨rfl, Nat.le_refl _, Nat.zero_le _, fun _ => rfl, fun j x hx => by simp at hx⟩
      | [u], ⟨gk, e, hu⟩ =>
        cases e
        obtain ⟨A1, na, ca, A2, nr, cr, hb, ht⟩ := hkid F gk u hF hu
        have hDg : D gk := by
          match k, hu with
          | 0, hu => exact hu.elim
          | m + 1, hu => exact hF gk (mt_lt hu).1
        refine ⟨rfl, Nat.le_refl _, (by unfold maxLen; decide), (fun e => by cases e), fun j x hx => ?_⟩
        have hj : j = 0 := by have := (List.getElem?_eq_some_iff.mp hx).1; simp at this; exact this
        subst hj
        simp at hx
        subst hx
        refine ⟨gk, 0, _, rfl, hDg, rfl, ht, fun i v hv => ?_⟩
        rw [show 0 + 0 * 2 + i = i by omega, obj_cell hb]
        match i, hv with
        | 0, hv => simpa using hv
        | 1, hv => simpa using hv
        | i + 2, hv => simp at hv
      | _ :: _ :: _, hm => exact hm.elim
    have hval : ∀ c y, slC (MT K k) E K w c y → slR (trR D k) D w c y := by
      rintro c y ⟨A, n, d, e, F, hm⟩
      obtain ⟨A', c', e', hl⟩ := ownL_lst (RR := fun w => mvC (MT K k) F w) hm.v_row
      have hn : n = y.svals.length := by have := e'; simp at this; exact this.2.1
      have hA : A = A' ∧ d = c' := by have := e'; simp at this; exact ⟨this.1, this.2.2⟩
      obtain ⟨rfl, rfl⟩ := hA
      refine ⟨A, d, by rw [e, hn], lst_zip (hl D (fun b hb => (h.o_E _ b (hm.v_blk b hb).1).1)) ?_⟩
      rintro cs z j ⟨A1, n1, d1, e1, hk1⟩
      obtain ⟨en, hl1⟩ := hmk (F j) A1 n1 d1 z.vm (fun b hb => (h.o_E _ b (hm.v_sub j b hb)).1) hk1
      exact ⟨A1, d1, by rw [e1, en], hl1⟩
    obtain ⟨A, c, eA, hA⟩ := ownL_lst (RR := fun w => slC (MT K k) E K w) h.o_hd.h_row
    obtain ⟨B, c2, eB, hB⟩ := ownL_lst (RR := rwR) (w := w) (show OwnL K 98 4 (rwR w) w vr x.rest from h.o_rest)
    refine ⟨A, _, c, B, _, c2, by rw [h.o_hd.h_blk, eA, eB], lst_keep (hA D (fun b hb => (h.o_s b hb).1)) hval (fun _ h => h) (stay_refl _ _), hB D (fun b hb => (h.o_r b hb).1), rfl, rfl⟩
end Go.Proofs.YtpfdnggacpehdaaGreatDoor

/- The landed layer 22: Get. Conditions: those that each theorem names. -/
namespace Go.Proofs.YtpfdnggacpehdaaGreatDoor
open Go.RowKit
set_option linter.unusedVariables false
set_option maxRecDepth 100000

/-- What Get answers. -/
def GetTo (w : World) (s : Sc) (name bs : List UInt8) (e : Ending) (w' : World) : Prop :=
  ∃ A na ca A2 nr cr S, e = .returned (.tuple #[.agg #[.slice A na ca, .slice A2 nr cr], .int .i64 (getCD s name bs : Int)]) ∧ TrAt S 16 w' A na ca A2 nr cr (getTD s name bs) ∧ (∀ b, S b → w.heap.size ≤ b ∧ b < w'.heap.size) ∧ Below w.heap.size w w'
theorem trAt_none (S : Nat → Prop) (k : Nat) (w : World) : TrAt S k w none 0 0 none 0 0 default :=
  ⟨⟨Nat.le_refl _, Nat.zero_le _, fun _ => rfl, fun j x hx => by simp [show (default : Tr).slots = [] from rfl] at hx⟩, ⟨Nat.le_refl _, Nat.zero_le _, fun _ => rfl, fun j x hx => by simp [show (default : Tr).rest = [] from rfl] at hx⟩, rfl, rfl⟩
theorem get_bad {w w' : World} {s : Sc} {name bs : List UInt8} {c : Nat} (hc : getCD s name bs = c) (h0 : c ≠ 0) (hb : Below w.heap.size w w') : GetTo w s name bs (.returned (.tuple #[.agg #[.slice none 0 0, .slice none 0 0], .int .i64 (c : Int)])) w' :=
  ⟨none, 0, 0, none, 0, 0, fun _ => False, by rw [hc], by unfold getTD; rw [hc, if_neg h0]; exact trAt_none _ _ _, fun _ h => h.elim, hb⟩
/-- The reader's box, and its cursor. -/
structure RdrB (w wt wc : World) (A A2 : Option Addr) (ne ca nm ca2 : Nat) (bs : List UInt8) (b p gc K : Nat) : Prop where
  b_cur : CuB w K wc p gc bs ⟨0, [bs.length]⟩
  b_bel : Below wt.heap.size wt wc
  b_blk : wc.heap[b]? = some (.cells #[.slice A ne ca, .slice A2 nm ca2, .pointer (some ⟨p, 0, none⟩)] 73 (0, 0))
  b_K : wt.heap.size ≤ K
  b_lt : K ≤ wc.heap.size
theorem rdr_a {w wt w4 W : World} {A A2 : Option Addr} {ne ca nm ca2 : Nat} {bs : List UInt8} {p gc : Nat} (hw : Below w.heap.size w wt) (h0 : Below wt.heap.size wt W) (h4 : Below wt.heap.size wt w4) (hc : Cur W w4 p gc bs ⟨0, [bs.length]⟩) : RdrB w wt (w4.alloc (.cells #[.slice A ne ca, .slice A2 nm ca2, .pointer (some ⟨p, 0, none⟩)] 73)) A A2 ne ca nm ca2 bs w4.heap.size p gc W.heap.size := by
  have h1 : CuB w W.heap.size w4 p gc bs ⟨0, [bs.length]⟩ := ⟨W, rfl, vbel hw h0, hc⟩
  have hlt := cub_lt h1
  have ha : Below w4.heap.size w4 (w4.alloc (.cells #[.slice A ne ca, .slice A2 nm ca2, .pointer (some ⟨p, 0, none⟩)] 73)) := (Below.refl _ w4).alloc (Nat.le_refl _) _
  exact ⟨cub_bel h1 ha, vbel h4 ha, heap_alloc_new w4 _, h0.size, by have := ha.size; omega⟩
theorem rdr_b {w wt w4 W : World} {A A2 : Option Addr} {ne ca nm ca2 : Nat} {bs : List UInt8} {p gc : Nat} (hw : Below w.heap.size w wt) (h0 : Below wt.heap.size wt W) (h4 : Below wt.heap.size wt w4) (hc : Cur W w4 p gc bs ⟨0, [bs.length]⟩) (hk : wt.heap.size + 1 ≤ W.heap.size) (kb : w4.heap[wt.heap.size]? = some (.cells #[.slice none 0 0, .slice none 0 0, .pointer none] 73 (0, 0))) : RdrB w wt (((w4.setCell ⟨wt.heap.size, 0, none⟩ (.slice A ne ca)).setCell ⟨wt.heap.size, 1, none⟩ (.slice A2 nm ca2)).setCell ⟨wt.heap.size, 2, none⟩ (.pointer (some ⟨p, 0, none⟩))) A A2 ne ca nm ca2 bs wt.heap.size p gc W.heap.size := by
  have h1 : CuB w W.heap.size w4 p gc bs ⟨0, [bs.length]⟩ := ⟨W, rfl, vbel hw h0, hc⟩
  have hlt := cub_lt h1
  have ht : Touch (fun k => k = wt.heap.size) w4 (((w4.setCell ⟨wt.heap.size, 0, none⟩ (.slice A ne ca)).setCell ⟨wt.heap.size, 1, none⟩ (.slice A2 nm ca2)).setCell ⟨wt.heap.size, 2, none⟩ (.pointer (some ⟨p, 0, none⟩))) := by
    have t0 := Touch.refl (fun k => k = wt.heap.size) w4
    have t1 := t0.set (q := ⟨wt.heap.size, 0, none⟩) (.inl rfl) (.slice A ne ca)
    have t2 := t1.set (q := ⟨wt.heap.size, 1, none⟩) (.inl rfl) (.slice A2 nm ca2)
    exact t2.set (q := ⟨wt.heap.size, 2, none⟩) (.inl rfl) _
  refine ⟨cub_touch h1 ht (fun e => by omega) (fun e => by omega) (fun b hb => ⟨by have := hw.size; omega, .inr (fun j c e => ?_)⟩), ((h4.setCell (p := ⟨wt.heap.size, 0, none⟩) (Nat.le_refl _) _).setCell (p := ⟨wt.heap.size, 1, none⟩) (Nat.le_refl _) _).setCell (p := ⟨wt.heap.size, 2, none⟩) (Nat.le_refl _) _, (obj_set (obj_set (obj_set kb 0 _) 1 _) 2 _).trans rfl, h0.size, by have := ht.size; omega⟩
  subst hb
  rw [obj_cell kb] at e
  match j, e with
  | 0, e => simp at e
  | 1, e => simp at e
  | 2, e => simp at e
  | j + 3, e => simp at e
/-- What message left, told of the tree. -/
theorem get_msg {w wc w7 : World} {K g p gc n : Nat} {bs : List UInt8} {Q : Tr × Nat} {e : Ending} (h : MsgTo w K 16 (fun b => b = g) wc p gc bs 0 n [] g Q e w7) (hb : Below w.heap.size w wc) (hg : w.heap.size ≤ g) (hp : w.heap.size ≤ p) (hgc : w.heap.size ≤ gc) :
    e = .returned (.int .i64 (Q.2 : Int)) ∧ Hid (Below w.heap.size w w7 ∧ ∀ k, k < wc.heap.size → k ≠ g → k ≠ p → k ≠ gc → w7.heap[k]? = wc.heap[k]?) ∧ (Q.2 = 0 → ∃ A na ca A2 nr cr, w7.heap[g]? = some (.cells #[.slice A na ca, .slice A2 nr cr] 33 (0, 0)) ∧ Hid (∃ D', TrAt D' 16 w7 A na ca A2 nr cr Q.1 ∧ ∀ b, D' b → (b = g ∨ wc.heap.size ≤ b) ∧ b < w7.heap.size)) := by
  obtain ⟨h0, h1, h2⟩ := h
  have ht : Touch (fun b => b = g ∨ b = p ∨ b = gc) wc w7 := by
    by_cases hc : Q.2 = 0
    · obtain ⟨_, _, _, _, _, _, _, ht⟩ := h1 hc
      exact ht
    · obtain ⟨_, _, _, _, ht, _⟩ := h2 hc
      exact ht
  refine ⟨h0, Lib.hid ⟨hb.trans (ht.below hb.size (fun k hk => by rcases hk with rfl | rfl | rfl <;> assumption)), fun k hk n1 n2 n3 => ht.block k hk (fun e => by rcases e with e | e | e; exact n1 e; exact n2 e; exact n3 e)⟩, fun hc => ?_⟩
  obtain ⟨_, D', _, _, hm, hsub, _, _⟩ := h1 hc
  obtain ⟨A, na, ca, A2, nr, cr, hblk, htr⟩ := mt_tr 16 hm
  exact ⟨A, na, ca, A2, nr, cr, hblk, Lib.hid ⟨D', htr, fun b hb => ⟨hsub b hb, ((mt_lt hm).2 b hb).1⟩⟩⟩
theorem get_good {w w7 : World} {s : Sc} {name bs : List UInt8} {y : Tr} {A B : Option Addr} {na ca nr cr g m : Nat} (hc : getCD s name bs = 0) (hq : (y, 0) = intoN s 16 name default bs) (hb : Below w.heap.size w w7) (h : ∃ D', TrAt D' 16 w7 A na ca B nr cr y ∧ ∀ b, D' b → (b = g ∨ m ≤ b) ∧ b < w7.heap.size) (hg : w.heap.size + 1 < g) (hm : w.heap.size + 1 < m) :
    GetTo w s name bs (.returned (.tuple #[.agg #[.slice A na ca, .slice B nr cr], .int .i64 0])) ((w7.setCell ⟨w.heap.size + 1, 0, none⟩ (.slice A na ca)).setCell ⟨w.heap.size + 1, 1, none⟩ (.slice B nr cr)) := by
  obtain ⟨D', ht, hD⟩ := h
  have t0 := Touch.refl (fun k => k = w.heap.size + 1) w7
  have t1 := t0.set (q := ⟨w.heap.size + 1, 0, none⟩) (.inl rfl) (.slice A na ca)
  have t2 := t1.set (q := ⟨w.heap.size + 1, 1, none⟩) (.inl rfl) (.slice B nr cr)
  refine ⟨A, na, ca, B, nr, cr, D', by rw [hc]; rfl, ?_, fun b hb' => ?_, (hb.setCell (p := ⟨w.heap.size + 1, 0, none⟩) (by show w.heap.size ≤ w.heap.size + 1; omega) _).setCell (p := ⟨w.heap.size + 1, 1, none⟩) (by show w.heap.size ≤ w.heap.size + 1; omega) _⟩
  · unfold getTD
    rw [if_pos hc, ← hq]
    exact trAt_keep ht (fun _ h => h) (stay_touch t2 (fun k hk e => by have := hD k hk; omega))
  · have h1 := hD b hb'
    have h2 := t2.size
    exact ⟨by omega, by omega⟩
set_option maxHeartbeats 8000000 in
theorem decget_any {SS : Nat → Nat → Prop} {w : World} {A A2 : Option Addr} {ne ca nm ca2 : Nat} {s : Sc} (env : ScEnv w) (u8 : U8Env w) (hsc : ScAt SS w A ne ca A2 nm ca2 s) (hck : checkT s = 0) (hsm : ∀ m ∈ s.msgs, m.fields.length ≤ 200 ∧ m.barred.length ≤ 200) (name : List UInt8) {B : Option Addr} {cap : Nat} {bs : List UInt8} (hB : Bs w B cap bs) (hl : bs.length ≤ 1000000) :
    Calls Tryz.prog 10 #[.agg #[.slice A ne ca, .slice A2 nm ca2], .string (strOf name), .slice B bs.length cap] w (GetTo w s name bs) := by
  have HRES : Hid (Tryz.f10.results = #[.cell 6 33, .tmp 7]) := Lib.hid (by kernel_rfl)
  obtain ⟨w2, hw2⟩ : ∃ w2, w2 = (w.alloc (.cells #[.slice A ne ca, .slice A2 nm ca2] 25)).alloc (.cells #[.slice none 0 0, .slice none 0 0] 33) := ⟨_, rfl⟩
  have hbx := bx2_start w #[.slice A ne ca, .slice A2 nm ca2] #[.slice none 0 0, .slice none 0 0] 25 33
  rw [← hw2] at hbx
  have HF := Lib.hid (fxmessage_any w2 (scAt_bel hsc hbx.b2_bel) name)
  have HBX := Lib.hid hbx
  have HW2 := Lib.hid hw2
  have r0 := obj_cell hbx.b2_one 0
  have r1 := obj_cell hbx.b2_one 1
  rw [hw2] at r0 r1
  have HSC := Lib.hid hsc
  have HNIL := Lib.hid (show Bs w B cap bs from hB)
  have HL := Lib.hid hl
  have hbm := hB.le
  have hbM := hB.max
  unfold maxLen at hbM
  obtain ⟨mt, hmt⟩ : ∃ z, z = messageT s name := ⟨_, rfl⟩
  rw [← hmt] at HF
  by_cases hneg : mt < 0
  · have HQ : Hid (getCD s name bs = 5) := Lib.hid (by unfold getCD; rw [← hmt, if_pos hneg])
    have e0 : decide (mt < 0) = true := decide_eq_true hneg
    clear hsc hbx hw2 hB hl hmt hneg hck hsm env u8
    go_enter Tryz.func10, Tryz.ntmps10
    go_wp2_with (go_at_call 28; (with_reducible rw [← HW2.out]); refine HF.out.mono ?_; rintro e w3 ⟨rfl, hb⟩; replace HBX := Lib.hid (bx2_step HBX.out hb); have z0 := obj_free HBX.out.b2_two 0; have z1 := obj_free HBX.out.b2_two 1; have q0 := obj_cell HBX.out.b2_two 0; have q1 := obj_cell HBX.out.b2_two 1; clear hb r0 r1)
    have x0 := obj_set HBX.out.b2_two 0 (.slice none 0 0)
    have x1 := obj_set x0 1 (.slice none 0 0)
    have y0 := obj_cell x1 0
    have y1 := obj_cell x1 1
    refine bodyPost_ret (v := .tuple #[.agg #[.slice none 0 0, .slice none 0 0], .int .i64 5]) ?_ rfl (get_bad HQ.out (by decide) ((HBX.out.b2_bel.setCell (p := ⟨w.heap.size + 1, 0, none⟩) (by show w.heap.size ≤ w.heap.size + 1; omega) _).setCell (p := ⟨w.heap.size + 1, 1, none⟩) (by show w.heap.size ≤ w.heap.size + 1; omega) _))
    simp only [results, HRES.out]
    go_simp
  · have e0 : decide (mt < 0) = false := decide_eq_false hneg
    by_cases hlong : 65536 < bs.length
    · have HQ : Hid (getCD s name bs = 3) := Lib.hid (by unfold getCD; rw [← hmt, if_neg hneg, if_pos hlong])
      have e1 : decide ((65536 : Int) < (bs.length : Int)) = true := decide_eq_true (by omega)
      clear hsc hbx hw2 hB hl hmt hneg hck hsm env u8 hlong
      go_enter Tryz.func10, Tryz.ntmps10
      go_wp2_with (go_at_call 28; (with_reducible rw [← HW2.out]); refine HF.out.mono ?_; rintro e w3 ⟨rfl, hb⟩; replace HBX := Lib.hid (bx2_step HBX.out hb); have z0 := obj_free HBX.out.b2_two 0; have z1 := obj_free HBX.out.b2_two 1; have q0 := obj_cell HBX.out.b2_two 0; have q1 := obj_cell HBX.out.b2_two 1; clear hb r0 r1)
      have x0 := obj_set HBX.out.b2_two 0 (.slice none 0 0)
      have x1 := obj_set x0 1 (.slice none 0 0)
      have y0 := obj_cell x1 0
      have y1 := obj_cell x1 1
      refine bodyPost_ret (v := .tuple #[.agg #[.slice none 0 0, .slice none 0 0], .int .i64 3]) ?_ rfl (get_bad HQ.out (by decide) ((HBX.out.b2_bel.setCell (p := ⟨w.heap.size + 1, 0, none⟩) (by show w.heap.size ≤ w.heap.size + 1; omega) _).setCell (p := ⟨w.heap.size + 1, 1, none⟩) (by show w.heap.size ≤ w.heap.size + 1; omega) _))
      simp only [results, HRES.out]
      go_simp
    · have HQ : Hid (getCD s name bs = (intoN s 16 name default bs).2) := Lib.hid (by unfold getCD; rw [← hmt, if_neg hneg, if_neg hlong])
      have e1 : decide ((65536 : Int) < (bs.length : Int)) = false := decide_eq_false (by omega)
      have HMSG : Hid (∀ K w6 p gc g, CuB w K w6 p gc bs ⟨0, [bs.length]⟩ → MT K 17 (fun b => b = g) w6 g default → p ≠ g → gc ≠ g → w.heap.size ≤ g → Calls Tryz.prog 30 #[rdV A ne ca A2 nm ca2 p, .string (strOf name), .pointer (some ⟨g, 0, none⟩)] w6 (MsgTo w K 16 (fun b => b = g) w6 p gc bs 0 bs.length [] g (intoN s 16 name default bs))) := Lib.hid (fun K w6 p gc g hcu hmt6 hp hgc hg => by
        have h1 := pmsg_any env u8 hsc hck hsm 16 K w6 p gc bs (fun b => b = g) g name default 0 bs.length [] (by rw [lift_some rfl]; simpa using hcu) (by omega) (by omega) rfl hmt6 hp hgc hg (by show treeN s 17 name (.mk [] []) = true; rw [tree_empty, ← hmt]; exact decide_eq_true (by omega)) (by rw [wt_default]; omega)
        rw [show segOf bs 0 (0 + bs.length) = bs by unfold segOf; simp] at h1
        exact h1)
      have HBS : Hid (∀ w6, Below w.heap.size w w6 → Bs w6 B cap bs) := Lib.hid (fun w6 hb => hB.below hb (Nat.le_refl _))
      unfold rdV at HMSG
      obtain ⟨Q, hq⟩ : ∃ z, z = intoN s 16 name default bs := ⟨_, rfl⟩
      rw [← hq] at HQ HMSG
      have HQE := Lib.hid hq
      have HLS := Lib.hid (show bs.length ≤ 65536 by omega)
      clear hsc hbx hw2 hB hl hmt hneg hck hsm env u8 hlong hq
      go_enter Tryz.func10, Tryz.ntmps10
      go_upto_region 6 with (go_at_call 28; (with_reducible rw [← HW2.out]); refine HF.out.mono ?_; rintro e w3 ⟨rfl, hb⟩; replace HBX := Lib.hid (bx2_step HBX.out hb); have z0 := obj_free HBX.out.b2_two 0; have z1 := obj_free HBX.out.b2_two 1; have q0 := obj_cell HBX.out.b2_two 0; have q1 := obj_cell HBX.out.b2_two 1; clear hb r0 r1)
      obtain ⟨wt, hwt⟩ : ∃ wt, wt = w3.alloc (.cells #[.slice none 0 0, .slice none 0 0] 33) := ⟨_, rfl⟩
      rw [← hwt]
      have HT3 := Lib.hid (show Below w3.heap.size w3 wt by rw [hwt]; exact (Below.refl _ w3).alloc (Nat.le_refl _) _)
      have HTB := Lib.hid (show wt.heap[w3.heap.size]? = some (.cells #[.slice none 0 0, .slice none 0 0] 33 (0, 0)) by rw [hwt]; exact heap_alloc_new w3 _)
      have HBXT := Lib.hid (bx2_step HBX.out HT3.out)
      have HKB := Lib.hid (fun (u : World) (h : Below wt.heap.size wt u) => (h.block _ (lt_of_block HBXT.out.b2_one)).trans HBXT.out.b2_one)
      have HDD := Lib.hid (drewN_under wt 1)
      have HDA := Lib.hid (fun (o : Obj) => vbel (drewN_under wt 1) ((Below.refl _ (wt.drewN 1)).alloc (Nat.le_refl _) o))
      have hS0 : wt.drew.cell? ⟨w.heap.size, 0, none⟩ = some (.slice A ne ca) ∧ wt.drew.cell? ⟨w.heap.size, 1, none⟩ = some (.slice A2 nm ca2) := And.intro (obj_cell (HKB.out _ HDD.out) 0) (obj_cell (HKB.out _ HDD.out) 1)
      have HZB : Hid (∀ o, (wt.drew.alloc o).cell? ⟨w.heap.size, 0, none⟩ = some (.slice A ne ca) ∧ (wt.drew.alloc o).cell? ⟨w.heap.size, 1, none⟩ = some (.slice A2 nm ca2)) := Lib.hid (fun o => And.intro (obj_cell (HKB.out _ (HDA.out o)) 0) (obj_cell (HKB.out _ (HDA.out o)) 1))
      have HSET : Hid (∀ (u : World) (b : Nat) (v0 v1 v2 : Value), Below wt.heap.size wt u → wt.heap.size ≤ b → (((u.setCell ⟨b, 0, none⟩ v0).setCell ⟨b, 1, none⟩ v1).setCell ⟨b, 2, none⟩ v2).cell? ⟨w.heap.size, 0, none⟩ = some (.slice A ne ca) ∧ (((u.setCell ⟨b, 0, none⟩ v0).setCell ⟨b, 1, none⟩ v1).setCell ⟨b, 2, none⟩ v2).cell? ⟨w.heap.size, 1, none⟩ = some (.slice A2 nm ca2)) := Lib.hid (fun u b v0 v1 v2 hb hle => by
        have ht : Below wt.heap.size wt (((u.setCell ⟨b, 0, none⟩ v0).setCell ⟨b, 1, none⟩ v1).setCell ⟨b, 2, none⟩ v2) := ((hb.setCell (p := ⟨b, 0, none⟩) hle v0).setCell (p := ⟨b, 1, none⟩) hle v1).setCell (p := ⟨b, 2, none⟩) hle v2
        exact And.intro (obj_cell (HKB.out _ ht) 0) (obj_cell (HKB.out _ ht) 1))
      clear hwt z0 z1 q0 q1
      go_cut [9] (fun x9 wc => ∃ b p gc K, x9 = .pointer (some ⟨b, 0, none⟩) ∧ Hid (RdrB w wt wc A A2 ne ca nm ca2 bs b p gc K))
      case first =>
        go_region_held3 (fun u => u.cell? ⟨w.heap.size, 0, none⟩ = some (.slice A ne ca) ∧ u.cell? ⟨w.heap.size, 1, none⟩ = some (.slice A2 nm ca2))
          (first | exact hS0 | exact HZ.out | exact HZA.out _ | exact HZB.out _ | exact HSET.out _ _ _ _ _ HB4.out (Nat.le_refl _) | exact HSET.out _ _ _ _ _ (HB4.out.alloc HB4.out.size _) HB4.out.size | go_keep)
          (first
            | (go_at_call 29; refine (from_any _ _ _ bs _ rfl (HBS.out _ (vbel HBXT.out.b2_bel (by first | exact HDD.out | exact HDA.out _))) (by have := HLS.out; omega)).mono ?_; rintro e w4 ⟨W, p, g, rfl, hb0, hb1, hc1⟩; have HC1 := Lib.hid hc1; have HB0 := Lib.hid (vbel (by first | exact HDD.out | exact HDA.out _ : Below wt.heap.size wt _) hb0); have HB4 := Lib.hid (vbel (by first | exact HDD.out | exact HDA.out _ : Below wt.heap.size wt _) hb1); have HZ := Lib.hid (And.intro (obj_cell (HKB.out _ HB4.out) 0) (obj_cell (HKB.out _ HB4.out) 1)); have HZA := Lib.hid (fun o => And.intro (obj_cell (HKB.out _ (HB4.out.alloc HB4.out.size o)) 0) (obj_cell (HKB.out _ (HB4.out.alloc HB4.out.size o)) 1)); (try (have kb := (hb1.block wt.heap.size (by simp [World.drew])).trans (heap_alloc_new wt.drew (.cells #[.slice none 0 0, .slice none 0 0, .pointer none] 73)); have HKBX := Lib.hid kb; have HKS := Lib.hid (show wt.heap.size + 1 ≤ W.heap.size by have := hb0.size; simp [World.drew] at this; omega); have f0 := obj_free kb 0; have f1 := obj_free kb 1; have f2 := obj_free kb 2; have d0 := obj_cell kb 0; have d1 := obj_cell kb 1; have d2 := obj_cell kb 2; clear kb)); clear hb0 hb1 hc1))
        · go_wp2_with fail
          go_meet
          exact ⟨_, _, _, _, rfl, Lib.hid (rdr_a HBXT.out.b2_bel HB0.out HB4.out HC1.out)⟩
        · go_wp2_with fail
          go_meet
          exact ⟨_, _, _, _, rfl, Lib.hid (rdr_b HBXT.out.b2_bel HB0.out HB4.out HC1.out HKS.out HKBX.out)⟩
      case rest =>
        obtain ⟨b, p, gc, K, rfl, HR⟩ := hcut
        have k0 := obj_cell HR.out.b_blk 0
        have k1 := obj_cell HR.out.b_blk 1
        have k2 := obj_cell HR.out.b_blk 2
        have HG : Hid (wc.heap[w3.heap.size]? = some (.cells #[.slice none 0 0, .slice none 0 0] 33 (0, 0))) := Lib.hid ((HR.out.b_bel.block _ (lt_of_block HTB.out)).trans HTB.out)
        have HBC := Lib.hid (bx2_step HBXT.out HR.out.b_bel)
        have HLT : Hid (w.heap.size + 1 < w3.heap.size ∧ w3.heap.size < wt.heap.size ∧ wt.heap.size ≤ p ∧ wt.heap.size ≤ gc) := Lib.hid (by
          have h1 := lt_of_block HBX.out.b2_two
          have h2 := lt_of_block HTB.out
          have h3 := cub_lt HR.out.b_cur
          have h4 := HR.out.b_K
          exact ⟨h1, h2, by omega, by omega⟩)
        have HCALL := Lib.hid ((HMSG.out K wc p gc w3.heap.size HR.out.b_cur (mt_new 16 wc HG.out HR.out.b_lt) (by have := HLT.out; omega) (by have := HLT.out; omega) (by have := HLT.out; omega)).mono (fun e w7 h => get_msg h HBC.out.b2_bel (by have := HLT.out; omega) (by have := HLT.out; omega) (by have := HLT.out; omega)))
        obtain ⟨y, c⟩ := Q
        dsimp only at HQ HCALL
        by_cases hc : c = 0
        · subst hc
          have HCALL := Lib.hid (HCALL.out.mono (fun e w7 h => And.intro (show e = .returned (.int .i64 0) from h.1) (And.intro h.2.1 (h.2.2 rfl))))
          go_wp2_with (go_at_call 30; refine HCALL.out.mono ?_; rintro e w7 ⟨rfl, HB7, A1, na, ca1, B1, nr, cr, hblk, HTR⟩; have HBLK := Lib.hid hblk; have g0 := obj_cell hblk 0; have g1 := obj_cell hblk 1; have h6 := (HB7.out.2 (w.heap.size + 1) (by have := HLT.out; have := HR.out.b_bel.size; omega) (by have := HLT.out; omega) (by have := HLT.out; omega) (by have := HLT.out; omega)).trans HBC.out.b2_two; have H6 := Lib.hid h6; have z0 := obj_free h6 0; have z1 := obj_free h6 1; have q0 := obj_cell h6 0; have q1 := obj_cell h6 1; clear hblk h6 k0 k1 k2)
          have x0 := obj_set H6.out 0 (.slice A1 na ca1)
          have x1 := obj_set x0 1 (.slice B1 nr cr)
          have y0 := obj_cell x1 0
          have y1 := obj_cell x1 1
          refine bodyPost_ret (v := .tuple #[.agg #[.slice A1 na ca1, .slice B1 nr cr], .int .i64 0]) ?_ rfl (get_good HQ.out HQE.out HB7.out.1 HTR.out (by have := HLT.out; omega) (by have := HLT.out; have := HR.out.b_bel.size; omega))
          simp only [results, HRES.out]
          go_simp
        · have HCN := Lib.hid hc
          have ec : ((c : Int) == 0) = false := beq_eq_false_iff_ne.mpr (by omega)
          have HCALL := Lib.hid (HCALL.out.mono (fun e w7 h => And.intro (show e = .returned (.int .i64 (c : Int)) from h.1) h.2.1))
          clear hc
          go_wp2_with (go_at_call 30; refine HCALL.out.mono ?_; rintro e w7 ⟨rfl, HB7⟩; have h6 := (HB7.out.2 (w.heap.size + 1) (by have := HLT.out; have := HR.out.b_bel.size; omega) (by have := HLT.out; omega) (by have := HLT.out; omega) (by have := HLT.out; omega)).trans HBC.out.b2_two; have H6 := Lib.hid h6; have z0 := obj_free h6 0; have z1 := obj_free h6 1; have q0 := obj_cell h6 0; have q1 := obj_cell h6 1; clear h6 k0 k1 k2)
          have x0 := obj_set H6.out 0 (.slice none 0 0)
          have x1 := obj_set x0 1 (.slice none 0 0)
          have y0 := obj_cell x1 0
          have y1 := obj_cell x1 1
          refine bodyPost_ret (v := .tuple #[.agg #[.slice none 0 0, .slice none 0 0], .int .i64 (c : Int)]) ?_ rfl (get_bad HQ.out HCN.out ((HB7.out.1.setCell (p := ⟨w.heap.size + 1, 0, none⟩) (by show w.heap.size ≤ w.heap.size + 1; omega) _).setCell (p := ⟨w.heap.size + 1, 1, none⟩) (by show w.heap.size ≤ w.heap.size + 1; omega) _))
          simp only [results, HRES.out]
          go_simp
end Go.Proofs.YtpfdnggacpehdaaGreatDoor
