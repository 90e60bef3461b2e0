/- Several texts in one: RwF, RwG. What each proves, and its conditions, stands at its own head. -/
import Derived.Test.YtalbiieagcandaaPkR40
import Derived.Test.YtalbiieagcandaaPkR45
import Derived.Maps.OwnIn
/- The program's Get of fields. Conditions: those that each theorem names. -/
namespace Go.Proofs.Ytalbiieagcandaa
open Go.RowKit Go.Shelf
set_option linter.unusedVariables false
set_option maxRecDepth 100000
attribute [local go_sem] Oper.semAt_some

theorem fields_any (p : Nat) (w : World) : Calls Try.prog 28 #[.pointer (some ⟨p, 0, none⟩)] w fun e w' => e = .returned (.func (.func 43) #[] #[.pointer (some ⟨w.heap.size, 0, none⟩)]) ∧ w' = w.alloc (.cells #[.pointer (some ⟨p, 0, none⟩)] 53) := by
  go_enter Try.func28, Try.ntmps28
  go_wp2
  go_ret
  exact ⟨rfl, rfl⟩

section
variable {B D bl p b k : Nat} {W0 w0 W W' : World} {bs : List UInt8} {S S' T : Nat → Prop}
/-- Blocks that the iterator has no part in turned. -/
theorem Cur.away {g : Nat} {s : St} (h : Cur W0 W p g bs s) (ht : Touch T W W') (hS : ¬ T p ∧ ¬ T g) (hT : ∀ i, T i → W0.heap.size ≤ i) : Cur W0 W' p g bs s := by
  have hw := h.1.2.2.2.2.2.1
  exact h.keep ht.size (hw.trans (ht.below hw.size hT)) (ht.block p h.1.2.2.2.1 hS.1) (ht.block g h.1.2.2.2.2.1 hS.2)
theorem ItR.away (h : ItR B W0 p b bs k S W) (ht : Touch T W W') (hS : ∀ i, T i → ¬ S i) (hb : ¬ T b) (hT : ∀ i, T i → W0.heap.size ≤ i) : ItR B W0 p b bs k S W' := by
  obtain ⟨s, g, a1, a2, a3, a4, a5, a6⟩ := h
  exact ⟨s, g, a1, a2, a3.away ht ⟨fun h => hS _ h ((a5 p).2 (.inl rfl)), fun h => hS _ h ((a5 g).2 (.inr rfl))⟩ hT, (ht.cell (p := ⟨b, 0, none⟩) (lt_of_cell a4) hb).trans a4, a5, a6⟩
theorem FinR.away (h : FinR B W0 p bs S W) (ht : Touch T W W') (hS : ∀ i, T i → ¬ S i) (hT : ∀ i, T i → W0.heap.size ≤ i) : FinR B W0 p bs S W' := by
  obtain ⟨s, g, a3, a4, a5, a6⟩ := h
  exact ⟨s, g, a3.away ht ⟨fun h => hS _ h ((a5 p).2 (.inl rfl)), fun h => hS _ h ((a5 g).2 (.inr rfl))⟩ hT, a4, a5, a6⟩
theorem ItR.lt (h : ItR B W0 p b bs k S W) : ∀ i, S i → i < W.heap.size := by
  obtain ⟨s, g, _, _, hc, _, a5, _⟩ := h
  intro i hi
  rcases (a5 i).1 hi with h | h
  · rw [h]; exact hc.1.2.2.2.1
  · rw [h]; exact hc.1.2.2.2.2.1
theorem ItR.from (h : ItR B W0 p b bs k S W) : ∀ i, S i → B ≤ i := by
  obtain ⟨s, g, _, _, _, _, a5, _, _, a6, a7, _⟩ := h
  intro i hi
  rcases (a5 i).1 hi with h | h <;> omega

/-- The list that is made: its box, its row; both are none of the iterator's. -/
def ClR (w0 : World) (B D bl : Nat) (bs : List UInt8) (k : Nat) (S : Nat → Prop) (W : World) : Prop :=
  ∃ vo, W.heap[bl]? = some (.cells #[vo] 22 (0, 0)) ∧ W.ownsRow bl 28 4 vo k (rawRow (((getR bs).1.take k).map Prod.fst)) ∧ Below B w0 W ∧ ¬ S bl ∧ ∀ i, vo.ownBlock = some i → ¬ S i ∧ D + 1 < i
theorem ClR.touch (h : ClR w0 B D bl bs k S W) (hB : B ≤ W.heap.size) (hS : ∀ i, S i → B ≤ i) (ht : Touch S W W') (hn : Newer W S S') : ClR w0 B D bl bs k S' W' := by
  obtain ⟨vo, a1, a2, a3, a4, a5⟩ := h
  have hl := lt_of_block a1
  refine ⟨vo, (ht.block bl hl a4).trans a1, own_block a2 (fun i hi => ht.block i (a2.lt i hi).2 (a5 i hi).1), a3.trans (ht.below hB hS), fun h => ?_, fun i hi => ⟨fun h => ?_, (a5 i hi).2⟩⟩
  · rcases hn _ h with h | h
    · exact a4 h
    · omega
  · have := (a2.lt i hi).2
    rcases hn _ h with h | h
    · exact (a5 i hi).1 h
    · omega
theorem ClR.away (h : ClR w0 B D bl bs k S W) (ht : Touch T W W') (hB : B ≤ W.heap.size) (h1 : ¬ T bl) (h2 : ∀ i, T i → i ≤ D + 1) (h3 : ∀ i, T i → B ≤ i) : ClR w0 B D bl bs k S W' := by
  obtain ⟨vo, a1, a2, a3, a4, a5⟩ := h
  exact ⟨vo, (ht.block bl (lt_of_block a1) h1).trans a1, own_block a2 (fun i hi => ht.block i (a2.lt i hi).2 (fun h => by have := h2 i h; have := (a5 i hi).2; omega)), a3.trans (ht.below hB h3), a4, a5⟩
end
theorem touch_of_grown {W W' : World} {d : Nat} (h : W.grownBy W' (some d)) : Touch (fun i => i = d) W W' := (Touch.refl _ W).grown h (fun k e => by cases e; exact .inl rfl)
theorem rgAt_some {bs : List UInt8} {k : Nat} (h : k < (getR bs).1.length) : (getR bs).1[k]? = some (rgAt bs k) := by
  unfold rgAt
  rw [List.getElem?_eq_getElem h]
  rfl
theorem rawRow_take {bs : List UInt8} {k : Nat} (h : k < (getR bs).1.length) : rawRow (((getR bs).1.take (k + 1)).map Prod.fst) = rawRow (((getR bs).1.take k).map Prod.fst) ++ rawCells (rgAt bs k).1 := by
  rw [List.take_add_one, rgAt_some h]
  simp [rawRow]

/-- The slots in round k. -/
def getTmps (A : Option Addr) (n cap p bl : Nat) (bs : List UInt8) (k Bx : Nat) : Array Value :=
  #[Value.slice A n cap, undef, Value.slice none 0 0, Value.int IntKind.i64 0, Value.pointer (some { block := p, off := 0 }), Value.pointer (some { block := bl, off := 0 }),
    undef, Value.pointer (some { block := Bx, off := 0 }), Value.slice A n cap, Value.pointer (some { block := p, off := 0 }), Value.pointer (some { block := p, off := 0 }),
    Value.func (Fn.func 43) #[] #[Value.pointer (some { block := bl + 1, off := 0 })], Value.int .i64 ((rgAt bs k).2 : Int), rawV (rgAt bs k).1,
    undef, undef, undef, undef, undef, undef, undef, undef]

set_option maxHeartbeats 4000000 in
theorem get_raw (w : World) (A : Option Addr) (cap n : Nat) (bs : List UInt8) (hb : Bs w A cap bs) (hn : n = bs.length) (hl : bs.length ≤ 1000000) :
    Calls Try.prog 15 #[.slice A n cap] w (GetTo w bs) := by
  have HF := Lib.hid (from_any A n cap bs w hn hb (by omega))
  have HL := Lib.hid hl
  clear hb hn hl
  refine callsIn_wide.1 (callsIn_of_wp_marks (n := 9) Try.func15 rfl trivial ?_ rfl)
  simp only [Try.ntmps15, List.size_toArray, List.length_cons, List.length_nil, Nat.reduceAdd, Nat.reduceSub, Array.replicate_succ, Array.replicate_zero, List.push_toArray, List.append_toArray, List.nil_append, List.cons_append]
  refine wpIn_wide.2 ?_
  go_wp2_with (first
    | (go_at_call 27; refine HF.out.mono ?_; rintro e w1 ⟨W0, p, g, rfl, hbW, hb1, hc⟩; have HC := Lib.hid hc; have HB1 := Lib.hid hb1; have HBW := Lib.hid hbW; clear hc hb1 hbW)
    | (go_at_call 28; refine (fields_any _ _).mono ?_; rintro e w2 ⟨rfl, hw2⟩; have HW2 := Lib.hid hw2; clear hw2))
  obtain ⟨bl, hbl⟩ : ∃ bl, bl = w1.heap.size := ⟨_, rfl⟩
  have hs1 : (w1.alloc (.cells #[.slice none 0 0] 22)).heap.size = bl + 1 := by rw [World.size_alloc, hbl]
  have hs2 : w2.heap.size = bl + 2 := by rw [HW2.out, World.size_alloc, hs1]
  have hbel2 : Below w1.heap.size w1 w2 := by rw [HW2.out]; exact ((Below.refl _ _).alloc (Nat.le_refl _) _).alloc (by simp) _
  have hbox : w2.heap[bl + 1]? = some (.cells #[.pointer (some ⟨p, 0, none⟩)] 53 (0, 0)) := by rw [HW2.out, ← hs1]; exact heap_alloc_new _ _
  have hlst : w2.heap[bl]? = some (.cells #[.slice none 0 0] 22 (0, 0)) := by rw [HW2.out, hbl]; exact (Below.heap_alloc _ _ _ (by simp)).trans (heap_alloc_new w1 _)
  rw [← hbl]
  have hc := HC.out
  have hW0 : W0.heap.size ≤ bl := by rw [hbl]; exact hc.1.2.2.2.2.2.1.size
  have hp := hc.1.2.2.2.1
  have hg := hc.1.2.2.2.2.1
  rw [← hbl] at hp hg
  have hBW := HBW.out.size
  have hpW := hc.1.1
  have hgW := hc.1.2.1
  have hB2 : Below w.heap.size w w2 := HB1.out.trans (hbel2.mono HB1.out.size)
  have hit0 : ItR w.heap.size W0 p (bl + 1) bs 0 (two p g) w2 := ⟨_, g, half_start bs, Nat.zero_le _, hc.bel hbel2, obj_cell hbox 0, fun i => Iff.rfl, by omega, by omega, by omega, by omega, fun j x hj => absurd hj (Nat.not_lt_zero _)⟩
  have hcl0 : ClR w w.heap.size (bl + 2) bl bs 0 (two p g) w2 := ⟨.slice none 0 0, hlst, World.ownsRow_nil _ _ _ _, hB2, (fun h => by unfold two at h; omega), fun i hi => by cases hi⟩
  have HS2 := Lib.hid hs2
  have HIT0 := Lib.hid hit0
  have HCL0 := Lib.hid hcl0
  have HW0 := Lib.hid hW0
  have HBB := Lib.hid hBW
  have HTW : Hid (∀ i, two p g i → i < w2.heap.size) := fun i hi => by unfold two at hi; omega
  clear hbl hs1 hs2 hbel2 hbox hlst hc hW0 hp hg hBW hpW hgW hB2 hit0 hcl0 HW2
  refine wpIn_wide.1 (wpIn_rangeM (n := 9) (gf := 43) (lb := #[.pointer (some ⟨bl + 1, 0, none⟩)]) rfl (enters_of Try.func43 (by kernel_rfl) rfl)
    (fields_seq w.heap.size W0 p (bl + 1) bs (by have := HL.out; omega)) (fun _ => rfl)
    (fun k S W => ItR w.heap.size W0 p (bl + 1) bs k S W ∧ ClR w w.heap.size (bl + 2) bl bs k S W)
    (fun k S W => ItR w.heap.size W0 p (bl + 1) bs (k + 1) S W ∧ ClR w w.heap.size (bl + 2) bl bs k S W)
    (fun k S a' W => (ItR w.heap.size W0 p (bl + 1) bs (k + 1) S W ∧ ClR w w.heap.size (bl + 2) bl bs k S W) ∧ ∃ Bx, W.heap[Bx]? = some (.cells (rawCells (rgAt bs k).1).toArray 28 (0, 0)) ∧ bl + 3 < Bx ∧ a' = { tmps := getTmps A n cap p bl bs k Bx, defers := [] })
    (fun S W => FinR w.heap.size W0 p bs S W ∧ ClR w w.heap.size (bl + 2) bl bs (getR bs).1.length S W)
    ?hI ?hA ?hF ?hR ?hM ?hE ⟨HIT0.out, HCL0.out⟩ HTW.out ?hassign ?hbody ?hdone)
  case hI =>
    rintro k S W W' ⟨h1, h2⟩ hn hg
    have ht := touch_of_grown hg
    rw [HS2.out] at ht hn
    have hbw : w.heap.size ≤ W.heap.size := by obtain ⟨vo, _, _, hb, _⟩ := h2; exact hb.size
    have := HW0.out
    have := HBB.out
    exact ⟨h1.away ht (fun i hi h => by subst hi; exact hn h) (fun h => by have h : bl + 1 = bl + 2 + 1 := h; omega) (fun i hi => by subst hi; omega), h2.away ht hbw (fun h => by have h : bl = bl + 2 + 1 := h; omega) (fun i hi => by subst hi; omega) (fun i hi => by subst hi; omega)⟩
  case hA =>
    rintro k S a' W W' ⟨⟨h1, h2⟩, Bx, h3, h4, h5⟩ hn hg
    have ht := touch_of_grown hg
    rw [HS2.out] at ht hn
    have hbw : w.heap.size ≤ W.heap.size := by obtain ⟨vo, _, _, hb, _⟩ := h2; exact hb.size
    have := HW0.out
    have := HBB.out
    exact ⟨⟨h1.away ht (fun i hi h => by subst hi; exact hn h) (fun h => by have h : bl + 1 = bl + 2 + 1 := h; omega) (fun i hi => by subst hi; omega), h2.away ht hbw (fun h => by have h : bl = bl + 2 + 1 := h; omega) (fun i hi => by subst hi; omega) (fun i hi => by subst hi; omega)⟩,
      Bx, (ht.block Bx (lt_of_block h3) (fun h => by have h : Bx = bl + 2 + 1 := h; omega)).trans h3, h4, h5⟩
  case hF =>
    rintro S W W' ⟨h1, h2⟩ hn hg
    have ht := touch_of_grown hg
    rw [HS2.out] at ht hn
    have hbw : w.heap.size ≤ W.heap.size := by obtain ⟨vo, _, _, hb, _⟩ := h2; exact hb.size
    have := HW0.out
    have := HBB.out
    exact ⟨h1.away ht (fun i hi h => by subst hi; exact hn h) (fun i hi => by subst hi; omega), h2.away ht hbw (fun h => by have h : bl = bl + 2 + 1 := h; omega) (fun i hi => by subst hi; omega) (fun i hi => by subst hi; omega)⟩
  case hR => exact fun k S W h => h.1
  case hM =>
    rintro k S W1 S' W2 hk ⟨h1, h2⟩ ht hn hit
    have hbw : w.heap.size ≤ W1.heap.size := by obtain ⟨vo, _, _, hb, _⟩ := h2; exact hb.size
    exact ⟨hit, h2.touch hbw h1.from ht hn⟩
  case hE =>
    rintro S W1 S' W2 ⟨h1, h2⟩ ht hn hfin
    have hbw : w.heap.size ≤ W1.heap.size := by obtain ⟨vo, _, _, hb, _⟩ := h2; exact hb.size
    exact ⟨hfin, h2.touch hbw h1.from ht hn⟩
  case hassign =>
    rintro k S W hk ⟨h1, h2⟩ hlt m0 m1
    rw [HS2.out] at hlt m0 m1 ⊢
    have hbw : w.heap.size ≤ W.heap.size := by obtain ⟨vo, _, _, hb, _⟩ := h2; exact hb.size
    have H1 := Lib.hid h1
    have H2 := Lib.hid h2
    have HBW := Lib.hid hbw
    obtain ⟨x, hx⟩ : ∃ x, x = (rgAt bs k).1 := ⟨_, rfl⟩
    unfold rgVals
    rw [← hx]
    have HX := Lib.hid hx
    have M0 := Lib.hid m0
    have M1 := Lib.hid m1
    clear h1 h2 hx hbw m0 m1
    obtain ⟨num, wire, m1, st⟩ := x
    unfold rawV
    gi_wp2
    have ht : Touch (fun _ => False) W (W.alloc (.cells #[.int .i64 num, .int .i64 wire, .int .u64 (m1 : Int), .string (strOf st)] 28)) := (Touch.refl _ W).alloc _
    exact ⟨⟨⟨H1.out.away ht (fun _ h => h.elim) (fun h => h) (fun _ h => h.elim), H2.out.away ht HBW.out (fun h => h) (fun _ h => h.elim) (fun _ h => h.elim)⟩, W.heap.size, heap_alloc_new W _, by omega, by unfold getTmps; rw [← HX.out]; rfl⟩, Below.heap_alloc _ _ _ hlt, Below.heap_alloc _ _ _ (by omega), by simp⟩
  case hbody =>
    rintro k S a' W hk ⟨⟨h1, vo, c1, c2, c3, c4, c5⟩, Bx, hBx, hbx, rfl⟩ hlt m0 m1
    rw [HS2.out] at hlt m0 m1 ⊢
    have H1 := Lib.hid h1
    have C1 := Lib.hid c1
    have C2 := Lib.hid c2
    have C3 := Lib.hid c3
    have C4 := Lib.hid c4
    have C5 := Lib.hid c5
    have hrow := rawRow_take hk
    have hlk := HL.out
    have hkn : k ≤ 1000000 := by
      have h2 := (getR bs).1
      obtain ⟨s, g, a1, a2, _⟩ := h1
      have := a1.len
      rw [half_take a2] at this
      omega
    obtain ⟨x, hx⟩ : ∃ x, x = (rgAt bs k).1 := ⟨_, rfl⟩
    unfold getTmps
    rw [← hx] at hBx hrow ⊢
    have HROW := Lib.hid hrow
    have v0 := obj_cell c1 0
    have f0 := obj_free c1 0
    have ho := rawCells_one x
    have HO := Lib.hid ho
    clear h1 c1 c2 c3 c4 c5 hrow hlk hx ho
    obtain ⟨i0, hi, hz0, hz1, hz2⟩ := info_parts info_raw
    obtain ⟨num, wire, n1, st⟩ := x
    unfold rawV
    have x0 : W.cell? ⟨Bx, 0, none⟩ = some (.int .i64 num) := obj_cell hBx 0
    have x1 : W.cell? ⟨Bx, 1, none⟩ = some (.int .i64 wire) := obj_cell hBx 1
    have x2 : W.cell? ⟨Bx, 2, none⟩ = some (.int .u64 (n1 : Int)) := obj_cell hBx 2
    have x3 : W.cell? ⟨Bx, 3, none⟩ = some (.string (strOf st)) := obj_cell hBx 3
    have HBX := Lib.hid hBx
    have M0 := Lib.hid m0
    have M1 := Lib.hid m1
    clear hBx m0 m1
    gi_wp2_with (gi_at_builtin
                 refine wpListIn_append_own_at _ rfl _ _ 22 rfl bl 28 i0 _ 4 40 Try.underlying22 hi hz0 hz1 hz2 rfl (by decide) _ k _ rfl (own_below C2.out ((Below.refl _ W).alloc (Nat.le_refl _) _)) ⟨W.heap.size, 0, none⟩ 1 1 (rawCells ⟨num, wire, n1, st⟩) rfl rfl (news_row W _ _) HO.out (by unfold maxLen; omega) (by omega) (by have := lt_of_block C1.out; simp; omega) ?_
                 intro v3 w3 h3 g3 e3 n3
                 obtain ⟨A3, cap3, rfl, _⟩ := own_form h3
                 have hgn : ∀ i, i < W.heap.size → i ≤ bl + 3 → w3.heap[i]? = W.heap[i]? := fun i hi1 hi2 => (g3.block i (by simp; omega) (fun e => by have := (C5.out i e.symm).2; omega)).trans (Below.heap_alloc _ _ _ hi1)
                 have hb3 := (hgn bl (lt_of_block C1.out) (by omega)).trans C1.out
                 have q0 := obj_cell hb3 0
                 have q1 := obj_free hb3 0
                 have H3 := Lib.hid h3
                 have G3 := Lib.hid g3
                 have N3 := Lib.hid n3
                 have GN := Lib.hid hgn
                 have B3 := Lib.hid hb3
                 clear h3 g3 e3 n3 hgn hb3)
    obtain ⟨W3, hW3⟩ : ∃ W3, W3 = w3.setCell ⟨bl, 0, none⟩ (.slice A3 (k + 1) cap3) := ⟨_, rfl⟩
    rw [← hW3]
    have ht : Touch (fun i => i = bl ∨ vo.ownBlock = some i) W W3 := by
      rw [hW3]
      exact (((Touch.refl _ W).alloc _).grown G3.out (fun j e => .inl (.inr e))).set (q := ⟨bl, 0, none⟩) (.inl (.inl rfl)) _
    have hrow3 := own_block (w' := W3) H3.out (fun i hi => by
      rw [hW3]
      exact heap_setCell_other w3 ⟨bl, 0, none⟩ i _ (fun e => own_other H3.out B3.out (by decide) (by rw [hi, e])))
    rw [← HROW.out] at hrow3
    have hbw := C3.out.size
    have hw0 := HW0.out
    have hbb := HBB.out
    have hown : ∀ i, vo.ownBlock = some i → bl ≤ i ∧ bl + 3 < i := fun i hi => ⟨(C2.out.lt i hi).1, by have := (C5.out i hi).2; omega⟩
    have hnT : ∀ i, bl < i → i ≤ bl + 3 → ¬ (i = bl ∨ vo.ownBlock = some i) := fun i h1 h2 h => by
      rcases h with h | h
      · omega
      · have := hown i h; omega
    refine ⟨⟨H1.out.away ht (fun i hi => ?_) (hnT _ (by omega) (by omega)) (fun i hi => ?_), .slice A3 (k + 1) cap3, ?_, hrow3, C3.out.trans (ht.below hbw (fun i hi => ?_)), C4.out, fun i hi => ?_⟩, ht.block _ (by omega) (hnT _ (by omega) (by omega)), ht.block _ (by omega) (hnT _ (by omega) (by omega)), ht.size⟩
    · rcases hi with rfl | hi
      · exact C4.out
      · exact (C5.out i hi).1
    · rcases hi with rfl | hi
      · exact hw0
      · have := (hown i hi).1; omega
    · rw [hW3]; exact obj_set B3.out 0 _
    · rcases hi with rfl | hi
      · omega
      · have := (hown i hi).1; omega
    · rcases N3.out with e | e
      · exact C5.out i (e ▸ hi)
      · rw [e] at hi
        injection hi with hi
        rw [World.size_alloc] at hi
        exact ⟨fun h => by have := H1.out.lt i h; omega, by omega⟩
  case hdone =>
    rintro S W ⟨⟨s, g', hc, hok, _⟩, vo, c1, c2, c3, c4, c5⟩ hD
    rw [HS2.out] at hD ⊢
    have hD2 : (W.putObj (bl + 2) (.deferred none)).heap.size = W.heap.size := by simp
    have hbf : Below w.heap.size w (W.putObj (bl + 2) (.deferred none)) := by
      have ht := touch_of_grown (grownBy_putObj' W (bl + 2) (.deferred none))
      exact c3.trans (ht.below c3.size (fun i hi => by subst hi; have := HBB.out; have := HW0.out; omega))
    have hrw := own_block (w' := W.putObj (bl + 2) (.deferred none)) c2 (fun i hi => World.putObj_heap_other (by have := (c5 i hi).2; omega))
    rw [List.take_length] at hrw
    obtain ⟨hnl, A3, cap3, rfl, hraws⟩ := Raws.own hrw
    have v0 := obj_cell c1 0
    have HBF := Lib.hid hbf
    have HRW := Lib.hid hraws
    have HOKC := Lib.hid (ok_cur hc)
    have HD := Lib.hid hD
    have HOK := Lib.hid hok
    clear hc hok c1 c2 c3 c4 c5 hD hD2 hbf hrw hnl hraws
    cases hr : (getR bs).2 with
    | true =>
      rw [hr] at HOK
      go_wp2_with (go_at_call 29; refine HOKC.out.mono ?_; rw [HOK.out]; rintro e w3 ⟨rfl, rfl⟩)
      refine ⟨by simp, .inl ⟨_, _, rfl, run_takeDeferred (b := bl + 2) (ds := []) HD.out, ?_⟩⟩
      refine ⟨_, results_tmp2 rfl _ _ _, A3, _, cap3, 0, rfl, HBF.out, fun _ => ⟨rfl, by simp, HRW.out⟩, fun e => ?_⟩
      rw [hr] at e
      cases e
    | false =>
      rw [hr] at HOK
      go_wp2_with (go_at_call 29; refine HOKC.out.mono ?_; rw [HOK.out]; rintro e w3 ⟨rfl, rfl⟩)
      refine ⟨by simp, .inl ⟨_, _, rfl, run_takeDeferred (b := bl + 2) (ds := []) HD.out, ?_⟩⟩
      refine ⟨_, results_tmp2 rfl _ _ _, none, 0, 0, 8, rfl, HBF.out, fun e => ?_, fun _ => ⟨rfl, rfl⟩⟩
      rw [hr] at e
      cases e
end Go.Proofs.Ytalbiieagcandaa

/- What is asked of layer 7, from the code. Conditions: none. -/
namespace Go.Proofs.Ytalbiieagcandaa
open Go.RowKit
set_option linter.unusedVariables false

theorem raw_ok : RawOk where
  right := fun x w _ => (raw_right x w).mono fun e w' ⟨h1, h2⟩ => ⟨h1, h2 ▸ (Below.refl _ w).alloc (Nat.le_refl _) _⟩
  put := put_raw
  get := get_raw
  same := fun w A cap n l A' cap' n' m h h' hn hn' => (same_raw w h h' hn hn').mono fun e w' ⟨h1, k, h2⟩ => ⟨h1, h2 ▸ drawn_bel w k⟩
theorem rawputs_law (w : World) {A A' : Option Addr} {cap cap' : Nat} {l m : List Rw} (h : Raws w A cap l) (hx : ∀ x ∈ l, x.n < 18446744073709551616) (h' : Raws w A' cap' m) (hx' : ∀ x ∈ m, x.n < 18446744073709551616) :
    Calls Try.prog 3 #[.slice A l.length cap, .slice A' m.length cap'] w fun e w' => e = .returned (.bool true) ∧ Below w.heap.size w w' := rawputs_walk raw_ok w h hx h' hx'
theorem rawgets_law (w : World) (A : Option Addr) (cap : Nat) (bs : List UInt8) (hb : Bs w A cap bs) (hl : bs.length ≤ 140737488351232) :
    Calls Try.prog 4 #[.slice A bs.length cap] w fun e w' => e = .returned (.bool true) ∧ Below w.heap.size w w' := rawgets_walk raw_ok w A cap bs hb hl
end Go.Proofs.Ytalbiieagcandaa
