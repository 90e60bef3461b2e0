/- Several texts in one: TrLv, RtE, RtF. What each proves, and its conditions, stands at its own head. -/
import Derived.Test.YtakdkocobcicdaaPkTS17
import Derived.Test.YtakdkocobcicdaaPkTS9
import Derived.Test.YtakdkocobcicdaaPkTS13
import Derived.Test.YtakdkocobcicdaaPkTS15
import Derived.Deep.RegionLaw
/- A row of the call's own that grows, each thing with fresh lists of its own (no program's function here). Conditions: those that each theorem names. -/
namespace Go.Proofs.Ytakdkocobcicdaa
open Go.RowKit
set_option linter.unusedVariables false
set_option maxRecDepth 100000

/-- A reading that is kept where its blocks stay. -/
def FamK {α : Type} (F : (Nat → Prop) → World → List Value → α → Prop) : Prop := ∀ (S S' : Nat → Prop) (w w' : World), (∀ g, S g → S' g) → Stay S w w' → ∀ cs x, F S w cs x → F S' w' cs x
theorem fam_tr (k : Nat) : FamK (fun S => trR S k) := fun S S' w w' hS hk => trR_keep hS hk k
theorem fam_va (k : Nat) : FamK (fun S => vaR (trR S k) S) := fun S S' w w' hS hk => vaR_keep (trR_keep hS hk k) hS hk
theorem fam_sl (k : Nat) : FamK (fun S => slR (trR S k) S) := fun S S' w w' hS hk => slR_keep (trR_keep hS hk k) hS hk
theorem fam_rw : FamK (fun _ => rwR) := fun S S' w w' hS hk cs x h => h
/-- A block from b on, of cells that may all be written. -/
def New (b : Nat) (w : World) (g : Nat) : Prop := b ≤ g ∧ g < w.heap.size ∧ ∃ cs t, w.heap[g]? = some (.cells cs t (0, 0))
theorem new_bel {b : Nat} {w w' : World} {g : Nat} (h : New b w g) (hb : Below w.heap.size w w') : New b w' g := by
  obtain ⟨h1, h2, cs, t, h3⟩ := h
  exact ⟨h1, Nat.lt_of_lt_of_le h2 hb.size, cs, t, (hb.block g h2).trans h3⟩
theorem new_less {b c : Nat} {w : World} {g : Nat} (hc : c ≤ b) (h : New b w g) : New c w g := ⟨Nat.le_trans hc h.1, h.2⟩
theorem new_set {b : Nat} {w : World} {p : Addr} {u : Value} {g : Nat} (h : New b w g) (hp : g ≠ p.block) : New b (w.setCell p u) g := by
  obtain ⟨h1, h2, cs, t, h3⟩ := h
  exact ⟨h1, by simpa [World.setCell] using h2, cs, t, (Below.heap_setCell _ _ _ _ hp).trans h3⟩
theorem new_grown {b : Nat} {w w' : World} {r : Option Nat} {g : Nat} (h : New b w g) (hg : w.grownBy w' r) (hr : r ≠ some g) : New b w' g := by
  obtain ⟨h1, h2, cs, t, h3⟩ := h
  exact ⟨h1, Nat.lt_of_lt_of_le h2 hg.size, cs, t, (hg.block g h2 (fun e => hr e.symm)).trans h3⟩
/-- The blocks of what a row's things hold. -/
def Dom (b : Nat) (w : World) (v : Value) (g : Nat) : Prop := New b w g ∧ v.ownBlock ≠ some g
/-- The row, from b on; what lay below c is as it was. -/
structure LvAt {α : Type} (F : (Nat → Prop) → World → List Value → α → Prop) (c b : Nat) (t : TypeId) (k : Nat) (w0 wr : World) (v : Value) (l : List α) : Prop where
  v_bel : Below c w0 wr
  v_row : OwnL b t k (F (Dom b wr v) wr) wr v l
  v_b : b ≤ wr.heap.size
theorem ownL_new {α : Type} {base k : Nat} {t : TypeId} {R : List Value → α → Prop} {w : World} {v : Value} {l : List α} (h : OwnL base t k R w v l) : ∀ g, v.ownBlock = some g → New base w g := by
  obtain ⟨css, h1, h2, h3⟩ := h
  intro g hg
  have hb := h3.lt g hg
  obtain ⟨_, cs, hc⟩ := own_typed h3 hg
  exact ⟨hb.1, hb.2, cs, t, hc⟩
section
variable {α : Type} {F : (Nat → Prop) → World → List Value → α → Prop} {c b k : Nat} {t : TypeId} {w0 wr w2 : World} {v : Value} {l : List α}
theorem lv_start (F : (Nat → Prop) → World → List Value → α → Prop) {c b : Nat} (t : TypeId) (k : Nat) {w0 wr : World} (h : Below c w0 wr) (hb : b ≤ wr.heap.size) : LvAt F c b t k w0 wr (.slice none 0 0) ([] : List α) :=
  ⟨h, ownL_nil _ _ _ _ _, hb⟩
theorem lv_bel (hF : FamK F) (h : LvAt F c b t k w0 wr v l) (hb : Below wr.heap.size wr w2) (hc : c ≤ wr.heap.size) : LvAt F c b t k w0 w2 v l :=
  ⟨h.v_bel.trans (hb.mono hc), ownL_bel h.v_row (fun cs x hx => hF _ _ _ _ (fun g ⟨a, e⟩ => ⟨new_bel a hb, e⟩) (stay_bel hb) cs x hx) hb, Nat.le_trans h.v_b hb.size⟩
/-- A store into a box that lies between. -/
theorem lv_store (hF : FamK F) (h : LvAt F c b t k w0 wr v l) {q : Addr} (h1 : c ≤ q.block) (h2 : q.block < b) (u : Value) : LvAt F c b t k w0 (wr.setCell q u) v l := by
  have hz : (wr.setCell q u).heap.size = wr.heap.size := by simp [World.setCell]
  refine ⟨h.v_bel.setCell h1 u, ownL_keep h.v_row (fun cs x hx => hF _ _ _ _ (fun g ⟨a, e⟩ => ⟨new_set a (fun e' => by have := a.1; omega), e⟩) (fun p hp _ => World.cell?_of_block (Below.heap_setCell _ _ _ _ (fun e => ?_))) cs x hx) (fun g hg => Below.heap_setCell _ _ _ _ (fun e => ?_)), by rw [hz]; exact h.v_b⟩
  · have := hp.1.1
    omega
  · have := (ownL_blk h.v_row g hg).1
    omega
/-- What it reads as. -/
theorem lv_lst (hF : FamK F) (h : LvAt F c b t k w0 wr v l) : ∃ A ca, v = .slice A l.length ca ∧ ∀ S : Nat → Prop, (∀ g, New b wr g → S g) → Lst k S (F S) wr A ca l := by
  obtain ⟨A, ca, e, _, _⟩ := ownL_form h.v_row
  subst e
  refine ⟨A, ca, rfl, fun S hS => ?_⟩
  have h2 : OwnL b t k (F S wr) wr (.slice A l.length ca) l := ownL_keep h.v_row (fun cs x hx => hF _ _ _ _ (fun g ⟨a, e⟩ => hS g a) (stay_refl _ _) cs x hx) (fun _ _ => rfl)
  obtain ⟨A', c', e, hL⟩ := ownL_lst (RR := F S) h2
  cases e
  exact hL S (fun g hg => hS g (ownL_new h2 g hg))
/-- One thing more, whose lists are newer than the row was. -/
theorem lv_append {P : Program} {u0 u1 u2 : World} {T : TypeId} {bytes : Nat} {i : TypeInfo} {z : Value} {cs : List Value} {x : α} {a : Addr} (hF : FamK F) (ty : TypeId) (ht : P.underlying T = some (.slice t)) (hi : P.info? t = some i) (hz : i.zero = some z)
    (hsize : i.size = k) (hby : i.bytes = bytes) (hzs : z.cells.size = k) (hk : 0 < k) (h : LvAt F c b t k w0 u0 v l) (hc : c ≤ b) (h01 : Below u0.heap.size u0 u1) (h12 : Below u1.heap.size u1 u2) (hx : F (New u0.heap.size u1) u1 cs x) (hcs : cs.length = k) (h1 : ∀ u ∈ cs, u.oneCell' = true)
    (hnews : ∀ j z, cs[j]? = some z → u2.cell? (a.add j) = some z) (hb1 : l.length ≤ 100000) (hb2 : bytes ≤ 1000) :
    ∃ v' w', (Builtin.append_ #[T, T] ty #[v, .slice (some a) 1 1]).run P u2 = .ok v' w' ∧ (LvAt F c b t k w0 w' v' (l ++ [x]) ∧ u2.grownBy w' v.ownBlock ∧ (∃ A n c, v' = .slice A n c) ∧ (∀ q o, q < b → u2.heap[q]? = some o → w'.heap[q]? = some o)) := by
  have hlt : ∀ g, v.ownBlock = some g → g < u0.heap.size := fun g hg => (ownL_blk h.v_row g hg).2
  have h02 : Below u0.heap.size u0 u2 := h01.trans (h12.mono h01.size)
  have hrow : OwnL b t k (F (Dom b u2 v) u2) u2 v l := ownL_bel h.v_row (fun cs x hx => hF _ _ _ _ (fun g ⟨a, e⟩ => ⟨new_bel a h02, e⟩) (stay_bel h02) cs x hx) h02
  have hx2 : F (Dom b u2 v) u2 cs x := hF _ _ _ _ (fun g a => ⟨new_less h.v_b (new_bel a h12), fun e => by have := hlt g e; have := a.1; omega⟩) (stay_bel h12) cs x hx
  obtain ⟨v', w', hr, ho, hg, hm⟩ := ownL_append ty ht hi hz hsize hby hzs hk hrow hx2 hcs h1 hnews hb1 hb2 (Nat.le_trans h.v_b h02.size)
  have hbs := h.v_b
  have hs2 := h02.size
  refine ⟨v', w', hr, ⟨(h.v_bel.trans (h02.mono (by omega))).grown hg (by omega) (fun g hgg => by have := (ownL_blk h.v_row g hgg).1; omega), ownL_keep ho (fun cs x hx => hF _ _ _ _ (fun g ⟨a, e⟩ => ⟨new_grown a hg e, fun e' => ?_⟩) (fun p ⟨a, e⟩ hp => World.cell?_of_block (hg.block _ hp (fun e' => e e'.symm))) cs x hx) (fun _ _ => rfl), by have := hg.size; omega⟩, hg, ownL_slc ho, fun q o hq hqo => (hg.block q (by rcases Nat.lt_or_ge q u2.heap.size with h9 | h9; exact h9; rw [Array.getElem?_eq_none h9] at hqo; cases hqo) (fun e => by have := (ownL_blk h.v_row q e.symm).1; omega)).trans hqo⟩
  rcases hm with hm | ⟨g2, hg2, hlt2⟩
  · exact e (hm ▸ e')
  · rw [hg2] at e'
    injection e' with e'
    have := a.2.1
    omega
end
theorem lt_of_some {w : World} {q : Nat} {o : Obj} (h : w.heap[q]? = some o) : q < w.heap.size := by
  rcases Nat.lt_or_ge q w.heap.size with h9 | h9
  · exact h9
  · rw [Array.getElem?_eq_none h9] at h; cases h
end Go.Proofs.Ytakdkocobcicdaa

/- The document's layer 19: a copy of a tree. Conditions: those that each theorem names. -/
namespace Go.Proofs.Ytakdkocobcicdaa
open Go.RowKit
set_option linter.unusedVariables false
set_option maxRecDepth 100000

theorem row_new {w : World} {base k g : Nat} {t : TypeId} (h : w.heap[g]? = some (.cells #[] t (0, 0))) (hb : base ≤ g) : w.ownsRow base t k (.slice (some ⟨g, 0, none⟩) 0 0) 0 [] :=
  ⟨by simp, .inr ⟨g, 0, #[], rfl, hb, h, Nat.le_refl _, by decide, by simp, by simp⟩⟩
theorem raw_one (x : Rw) : ∀ u ∈ rawCells x, u.oneCell' = true := by
  intro u hu
  simp [rawCells] at hu
  rcases hu with rfl | rfl | rfl | rfl <;> rfl
/-- A copy: the same tree, in blocks that were not there. -/
def CopyTo (k : Nat) (w : World) (x : Tr) (e : Ending) (w' : World) : Prop := ∃ B nb cb B2 n2 c2, e = .returned (.agg #[.slice B nb cb, .slice B2 n2 c2]) ∧ TrAt (New w.heap.size w') k w' B nb cb B2 n2 c2 x ∧ Below w.heap.size w w'
def CopyOk (k : Nat) : Prop := ∀ (S : Nat → Prop) (w : World) (A : Option Addr) (na ca : Nat) (A2 : Option Addr) (nr cr : Nat) (x : Tr), TrAt S k w A na ca A2 nr cr x → FitN (k + 1) x →
  Calls Try.prog 20 #[.agg #[.slice A na ca, .slice A2 nr cr]] w (CopyTo k w x)
theorem copy_kid {k q : Nat} {w w' : World} {x : Tr} {B B2 : Option Addr} {nb cb n2 c2 : Nat} (hk : k = q + 1) (h : TrAt (New w.heap.size w') q w' B nb cb B2 n2 c2 x) : trR (New w.heap.size w') k w' [.slice B nb cb, .slice B2 n2 c2] x := by
  subst hk
  exact ⟨B, nb, cb, B2, n2, c2, rfl, h⟩
theorem stay_set2 {S : Nat → Prop} {w : World} {r j i : Nat} (u v : Value) (h : ∀ g, S g → g ≠ r) : Stay S w ((w.setCell ⟨r, j, none⟩ u).setCell ⟨r, i, none⟩ v) := fun p hp _ =>
  World.cell?_of_block ((Below.heap_setCell _ _ _ _ (fun e => h _ hp e)).trans (Below.heap_setCell _ _ _ _ (fun e => h _ hp e)))
theorem tr_split {α : Type} {l : List α} {i : Nat} {x : α} (h : l[i]? = some x) : l.take (i + 1) = l.take i ++ [x] := take_snoc' h

set_option maxHeartbeats 32000000 in
theorem rtcopy_step {k : Nat} (H : ∀ q, k = q + 1 → CopyOk q) : CopyOk k := by
  intro S w A na ca A2 nr cr x h hf
  obtain ⟨q1, q2, q3, q4⟩ := trAt_max h
  obtain ⟨f1, f2, f3, f4⟩ := hf
  rw [← h.t_ns] at f1
  rw [← h.t_nr] at f2
  obtain ⟨ir, hr1, hr2, hr3, hr4⟩ := info_ofs info_rws
  obtain ⟨it, t1, t2, t3, t4⟩ := info_ofs info_trs
  have HIT := Lib.hid (And.intro t1 (And.intro t2 (And.intro t3 t4)))
  clear t1 t2 t3 t4
  obtain ⟨iv, t1, t2, t3, t4⟩ := info_ofs info_val
  have HIV := Lib.hid (And.intro t1 (And.intro t2 (And.intro t3 t4)))
  clear t1 t2 t3 t4
  obtain ⟨is, t1, t2, t3, t4⟩ := info_ofs info_slt
  have HIS := Lib.hid (And.intro t1 (And.intro t2 (And.intro t3 t4)))
  clear t1 t2 t3 t4
  have HA := Lib.hid h
  have HCO := Lib.hid H
  have HF4 := Lib.hid f4
  have HBB := Lib.hid (bx2_start w #[.slice A na ca, .slice A2 nr cr] #[.slice none 0 0, .slice none 0 0] 25 25)
  have HRA : Hid (∀ u g, Below w.heap.size w u → w.heap.size + 1 + 1 ≤ g → u.heap[g]? = some (.cells #[] 65 (0, 0)) → ∃ v' w', (Builtin.append_ #[23, 23] 23 #[.slice (some ⟨g, 0, none⟩) 0 0, .slice A2 nr cr]).run Try.prog u = .ok v' w' ∧ (∃ A9 c9, v' = .slice A9 nr c9 ∧ Below (w.heap.size + 1 + 1) u w' ∧ ∀ z, Below w'.heap.size w' z → ∀ S : Nat → Prop, (∀ g, New (w.heap.size + 1 + 1) w' g → S g) → Lst 4 S rwR z A9 c9 x.rest)) := Lib.hid (fun u g hb hg hh => by
    have hgl := lt_of_some hh
    obtain ⟨v', w', hr, ho, hgr, hm⟩ := run_append_lst (P := Try.prog) (w := u) (k := 4) (bytes := 40) (base := w.heap.size + 1 + 1) (n := 0) (xs := []) (R := rwR) (l := x.rest) (f := rawCells) 23 Try.underlying23 hr1 hr2 hr3 hr4 rfl (by decide) (fun _ => rfl) raw_one (row_new hh hg) (lst_keep h.t_r (fun _ _ h => h) (fun _ h => h) (bel_keep hb)) (fun _ _ h => h) h.t_nr (by unfold maxLen; omega) (by omega) (by omega)
    rw [Nat.zero_add, List.nil_append] at ho
    obtain ⟨hn, A9, c9, hv, hl⟩ := lst_own_typed (k := 4) (f := rawCells) (R := rwR) (by decide) (fun _ => rfl) (fun _ _ => rfl) ho
    rw [← h.t_nr] at hv
    refine ⟨v', w', hr, A9, c9, hv, (Below.refl _ u).grown hgr (by omega) (fun k hk => by simp [Value.ownBlock] at hk; omega), fun z hz S hS => lst_keep hl (fun _ _ h => h) (fun g ⟨a, cs, b⟩ => hS g ⟨a, lt_of_some b, cs, _, b⟩) (bel_keep (T := fun g => w.heap.size + 1 + 1 ≤ g ∧ ∃ cs, w'.heap[g]? = some (.cells cs 65 (0, 0))) hz)⟩)
  have s0 := obj_cell (HBB.out).b2_one 0
  have s1 := obj_cell (HBB.out).b2_one 1
  clear h H f4 hr1 hr2 hr3 hr4
  go_enter Try.func20, Try.ntmps20
  go_wp2_with (first
    | (at_builtin; refine wpList_append_x rfl _ _ rfl rfl rfl (HRA.out _ (w.heap.size + 1 + 1) (bel_more HBB.out.b2_bel ((Below.refl _ _).alloc (Nat.le_refl _) _)) (Nat.le_refl _) (by rw [show w.heap.size + 1 + 1 = ((w.alloc (.cells #[.slice A na ca, .slice A2 nr cr] 25)).alloc (.cells #[.slice none 0 0, .slice none 0 0] 25)).heap.size by simp]; exact heap_alloc_new _ _)) ?_; rintro v1 w1 ⟨A9, c9, rfl, hb1, hl1⟩; have HW1 := Lib.hid hb1; have HRS := Lib.hid hl1; clear hb1 hl1))
  obtain ⟨W0, hW0⟩ : ∃ z, z = (((w.alloc (.cells #[.slice A na ca, .slice A2 nr cr] 25)).alloc (.cells #[.slice none 0 0, .slice none 0 0] 25)).alloc (.cells #[] 65)) := ⟨_, rfl⟩
  have HB0 : Hid (Bx2 w W0 (.cells #[.slice A na ca, .slice A2 nr cr] 25 (0, 0)) (.cells #[.slice none 0 0, .slice none 0 0] 25 (0, 0))) := Lib.hid (by rw [hW0]; exact bx2_step HBB.out ((Below.refl _ _).alloc (Nat.le_refl _) _))
  have hz0 : w.heap.size + 1 + 1 < W0.heap.size := by rw [hW0]; simp
  rw [← hW0] at HW1
  clear hW0 s0 s1 HBB
  obtain ⟨W1, hW1⟩ : ∃ z, z = w1.alloc (.cells #[.slice none 0 0, .slice A9 nr c9] 25) := ⟨_, rfl⟩
  rw [← hW1]
  have hsz : w1.heap.size + 1 = W1.heap.size := by rw [hW1]; simp
  have hz1 : W0.heap.size ≤ w1.heap.size := HW1.out.size
  have HO1 : Hid (W1.heap[w1.heap.size]? = some (.cells #[.slice none 0 0, .slice A9 nr c9] 25 (0, 0))) := Lib.hid (by rw [hW1]; exact heap_alloc_new _ _)
  have HX1 : Hid (Bx2 w W1 (.cells #[.slice A na ca, .slice A2 nr cr] 25 (0, 0)) (.cells #[.slice none 0 0, .slice none 0 0] 25 (0, 0))) := Lib.hid (by
    have hb := HB0.out
    have h1 : Below (w.heap.size + 1 + 1) W0 W1 := by rw [hW1]; exact HW1.out.alloc (by omega) _
    exact ⟨hb.b2_bel.trans (h1.mono (by omega)), (h1.block _ (by omega)).trans hb.b2_one, (h1.block _ (by omega)).trans hb.b2_two⟩)
  have HRS1 : Hid (∀ z, Below w1.heap.size W1 z → ∀ S : Nat → Prop, (∀ g, New (w.heap.size + 1 + 1) z g → S g) → Lst 4 S rwR z A9 c9 x.rest) := Lib.hid (fun z hz S hS => by
    have h9 : Below w1.heap.size w1 z := ((Below.refl _ w1).alloc (Nat.le_refl _) _).trans (by rw [← hW1]; exact hz)
    exact HRS.out z h9 S (fun g a => hS g (new_bel a h9)))
  have HLV := Lib.hid (lv_start (fun S => slR (trR S k) S) 32 2 (Below.refl w1.heap.size W1) (b := w1.heap.size + 1) (by omega))
  have HUP : Hid (∀ u, Below w1.heap.size W1 u → Below w.heap.size w u ∧ u.heap[w.heap.size]? = some (.cells #[.slice A na ca, .slice A2 nr cr] 25 (0, 0)) ∧ u.heap[w.heap.size + 1]? = some (.cells #[.slice none 0 0, .slice none 0 0] 25 (0, 0))) := Lib.hid (fun u hu => ⟨HX1.out.b2_bel.trans (hu.mono (by omega)), (hu.block _ (by omega)).trans HX1.out.b2_one, (hu.block _ (by omega)).trans HX1.out.b2_two⟩)
  clear hW1 HRS HW1 HB0
  go_loopg [4] na (fun gz x0 wr => ∃ (i : Nat) (v : Value), x0 = .int .i64 (i : Int) ∧ i + gz = na ∧ LvAt (fun S => slR (trR S k) S) w1.heap.size (w1.heap.size + 1) 32 2 W1 wr v (x.slots.take i) ∧ wr.heap[w1.heap.size]? = some (.cells #[v, .slice A9 nr c9] 25 (0, 0)))
  case atStart => exact ⟨0, _, rfl, by omega, HLV.out, HO1.out⟩
  case round =>
    obtain ⟨i, v, rfl, hi, hlv, hob⟩ := hrel
    have HL1 := Lib.hid hlv
    have HOB := Lib.hid hob
    clear hlv hob
    obtain ⟨g1, hg1⟩ : ∃ g1, g1 = gk := ⟨_, rfl⟩
    subst hg1
    obtain ⟨wa, hwa⟩ : ∃ wa, wa = wr := ⟨_, rfl⟩
    subst hwa
    have HU1 := Lib.hid (HUP.out wa HL1.out.v_bel)
    have r0 := obj_cell HU1.out.2.1 0
    have HOL := Lib.hid (lt_of_some HOB.out)
    by_cases hlti : i < na
    · have ti : decide ((i : Int) < (na : Int)) = true := decide_eq_true (by omega)
      obtain ⟨s, hs⟩ : ∃ s, x.slots[i]? = some s := ⟨_, List.getElem?_eq_getElem (by have := HA.out.t_ns; omega)⟩
      have HTS := Lib.hid (tr_split hs)
      obtain ⟨ga, oa, A1, c1, rfl, _, hc, hv⟩ := sl_at HA.out.t_s hs
      obtain ⟨y1, y2⟩ := HF4.out s (List.mem_of_getElem? hs)
      have z1 := hv.l_le
      have z2 := hv.l_max
      unfold maxLen at z2
      obtain ⟨sn, sv⟩ := s
      dsimp only at hc hv y1 y2 z1
      obtain ⟨nv, hnv⟩ : ∃ z, z = sv.length := ⟨_, rfl⟩
      rw [← hnv] at hc y1 z1
      have HNV := Lib.hid hnv
      have HC := Lib.hid hc
      have HVV := Lib.hid hv
      have HY2 := Lib.hid y2
      obtain ⟨a0, a1⟩ := hc _ (stay_bel HU1.out.1)
      clear hs hc hv hnv y2
      have HLX := Lib.hid (lv_start (fun S => vaR (trR S k) S) 45 3 ((Below.refl wa.heap.size (wa.alloc (.cells #[.int .i64 sn, .slice none 0 0] 32)))) (b := wa.heap.size + 1) (by simp))
      have HUW : Hid (∀ u, Below wa.heap.size (wa.alloc (.cells #[.int .i64 sn, .slice none 0 0] 32)) u → Below wa.heap.size wa u) := Lib.hid (fun u hu => ((Below.refl _ wa).alloc (Nat.le_refl _) _).trans hu)
      go_wp2
      clear a0 a1 r0
      go_loopg [6] nv (fun gz x0 wr => ∃ (j : Nat) (v2 : Value), x0 = .int .i64 (j : Int) ∧ j + gz = nv ∧ LvAt (fun S => vaR (trR S k) S) wa.heap.size (wa.heap.size + 1) 45 3 (wa.alloc (.cells #[.int .i64 sn, .slice none 0 0] 32)) wr v2 (sv.take j) ∧ wr.heap[wa.heap.size]? = some (.cells #[.int .i64 sn, v2] 32 (0, 0)))
      case atStart => exact ⟨0, _, rfl, by omega, HLX.out, heap_alloc_new _ _⟩
      case round =>
        obtain ⟨j, v2, rfl, hj, hlv, hob⟩ := hrel
        have HL2 := Lib.hid hlv
        have HXB := Lib.hid hob
        clear hlv hob
        obtain ⟨g2, hg2⟩ : ∃ g2, g2 = gk := ⟨_, rfl⟩
        subst hg2
        obtain ⟨wb, hwb⟩ : ∃ wb, wb = wr := ⟨_, rfl⟩
        subst hwb
        have HAB := Lib.hid (HUW.out wb HL2.out.v_bel)
        have HL1B := Lib.hid (lv_bel (fam_sl k) HL1.out HAB.out (Nat.le_of_lt HOL.out))
        have HU2 := Lib.hid (HUP.out wb HL1B.out.v_bel)
        have r0 := obj_cell HU2.out.2.1 0
        obtain ⟨a0, a1⟩ := HC.out _ (stay_bel HU2.out.1)
        have HXL := Lib.hid (lt_of_some HXB.out)
        by_cases hltj : j < nv
        · have tj : decide ((j : Int) < (nv : Int)) = true := decide_eq_true (by omega)
          obtain ⟨y, hy⟩ : ∃ y, sv[j]? = some y := ⟨_, List.getElem?_eq_getElem (by have := HNV.out; omega)⟩
          have HTV := Lib.hid (tr_split hy)
          obtain ⟨gb, ob, B1, d1, rfl, _, hcb, hk⟩ := va_at HVV.out hy
          obtain ⟨p1, p2, p3⟩ := HY2.out y (List.mem_of_getElem? hy)
          have z3 := hk.l_le
          have z4 := hk.l_max
          unfold maxLen at z4
          obtain ⟨yn, ys, ym⟩ := y
          dsimp only at hcb hk p1 p2 p3 z3
          obtain ⟨nm, hnm⟩ : ∃ z, z = ym.length := ⟨_, rfl⟩
          obtain ⟨st, hst⟩ : ∃ z, z = strOf ys := ⟨_, rfl⟩
          rw [← hnm, ← hst] at hcb
          rw [← hnm] at p2 z3
          have HNM := Lib.hid hnm
          have HST := Lib.hid hst
          have HK := Lib.hid hk
          have HP3 := Lib.hid p3
          obtain ⟨b0, b1, b2⟩ := hcb _ (stay_bel HU2.out.1)
          clear hy hcb hk hnm hst p3
          obtain ⟨U1, hU1⟩ : ∃ z, z = (wb.alloc (.cells #[.int .u64 (yn : Int), .string st, .slice B1 nm d1] 45)).alloc (.cells #[.int .u64 (yn : Int), .string st, .slice none 0 0] 45) := ⟨_, rfl⟩
          have HBV : Hid (Bx2 wb U1 (.cells #[.int .u64 (yn : Int), .string st, .slice B1 nm d1] 45 (0, 0)) (.cells #[.int .u64 (yn : Int), .string st, .slice none 0 0] 45 (0, 0))) := Lib.hid (by rw [hU1]; exact bx2_start _ _ _ _ _)
          have hzu : U1.heap.size = wb.heap.size + 1 + 1 := by rw [hU1]; simp
          have HLT := Lib.hid (lv_start (fun S => trR S k) 25 2 (Below.refl (wb.heap.size + 1) U1) (b := wb.heap.size + 1 + 1) (by omega))
          have HZU := Lib.hid hzu
          have m0 := obj_cell HBV.out.b2_one 0
          have m1 := obj_cell HBV.out.b2_one 1
          have n0 : ∀ o : Obj, (wb.alloc o).cell? ⟨w.heap.size, 0, none⟩ = some (.slice (some ⟨ga, oa, none⟩) na ca) := fun o => cell_under ((Below.refl _ wb).alloc (Nat.le_refl _) o) r0
          clear hzu
          have l0 : (wb.alloc (.cells #[.int .u64 (yn : Int), .string st, .slice B1 nm d1] 45)).cell? ⟨wb.heap.size, 0, none⟩ = some (.int .u64 (yn : Int)) := obj_cell (heap_alloc_new _ _) 0
          have l1 : (wb.alloc (.cells #[.int .u64 (yn : Int), .string st, .slice B1 nm d1] 45)).cell? ⟨wb.heap.size, 1, none⟩ = some (.string st) := obj_cell (heap_alloc_new _ _) 1
          go_wp2
          rw [← hU1]
          clear hU1 m0 m1 n0 l0 l1 a0 a1 r0 b0 b1 b2
          go_loopg [9] nm (fun gz x0 wr => ∃ (q : Nat) (v3 : Value), x0 = .int .i64 (q : Int) ∧ q + gz = nm ∧ LvAt (fun S => trR S k) (wb.heap.size + 1) (wb.heap.size + 1 + 1) 25 2 U1 wr v3 (ym.take q) ∧ wr.heap[wb.heap.size + 1]? = some (.cells #[.int .u64 (yn : Int), .string st, v3] 45 (0, 0)))
          case atStart => exact ⟨0, _, rfl, by omega, HLT.out, HBV.out.b2_two⟩
          case round =>
            obtain ⟨q, v3, rfl, hq, hlv, hob⟩ := hrel
            have HL3 := Lib.hid hlv
            have HWB := Lib.hid hob
            clear hlv hob
            obtain ⟨g3, hg3⟩ : ∃ g3, g3 = gk := ⟨_, rfl⟩
            subst hg3
            obtain ⟨wc, hwc⟩ : ∃ wc, wc = wr := ⟨_, rfl⟩
            subst hwc
            have HBC : Hid (Below wb.heap.size wb wc) := Lib.hid (HBV.out.b2_bel.trans (HL3.out.v_bel.mono (by omega)))
            have HVB : Hid (wc.heap[wb.heap.size]? = some (.cells #[.int .u64 (yn : Int), .string st, .slice B1 nm d1] 45 (0, 0))) := Lib.hid ((HL3.out.v_bel.block _ (by omega)).trans HBV.out.b2_one)
            have HL1C := Lib.hid (lv_bel (fam_sl k) HL1B.out HBC.out (by have := lt_of_some HOB.out; have := HAB.out.size; omega))
            have HU3 := Lib.hid (HUP.out wc HL1C.out.v_bel)
            have v2' := obj_cell HVB.out 2
            have HWL := Lib.hid (lt_of_some HWB.out)
            by_cases hltq : q < nm
            · have tq : decide ((q : Int) < (nm : Int)) = true := decide_eq_true (by omega)
              obtain ⟨t, ht⟩ : ∃ t, ym[q]? = some t := ⟨_, List.getElem?_eq_getElem (by have := HNM.out; omega)⟩
              have HTM := Lib.hid (tr_split ht)
              obtain ⟨kk, gc, oc, C1, e1, cc1, C2, e2, cc2, hkk, rfl, _, hcc, hty⟩ := kid_at HK.out ht
              have hft := HP3.out t (List.mem_of_getElem? ht)
              have HCALL : Hid (∀ u, Below w.heap.size w u → Calls Try.prog 20 #[.agg #[.slice C1 e1 cc1, .slice C2 e2 cc2]] u (CopyTo kk u t)) := Lib.hid (fun u hb => HCO.out kk hkk _ u _ _ _ _ _ _ t (trAt_bel hty hb) (by rw [← hkk]; exact hft))
              have HKK := Lib.hid hkk
              have HTL : Hid ((ym.take q).length ≤ 100000) := Lib.hid (by rw [List.length_take]; omega)
              obtain ⟨c0, c1'⟩ := hcc _ (stay_bel HU3.out.1)
              have x2 := obj_cell HWB.out 2
              have x2f := obj_free HWB.out 2
              have HD3 := Lib.hid (lv_bel (fam_tr k) HL3.out (drewN_under wc 1) (Nat.le_of_lt HWL.out))
              have HDW : Hid (wc.drew.heap[wb.heap.size + 1]? = some (.cells #[.int .u64 (yn : Int), .string st, v3] 45 (0, 0))) := Lib.hid HWB.out
              have HDU : Hid (Below w.heap.size w wc.drew) := Lib.hid (HU3.out.1.drew)
              clear ht hty hft hkk hcc
              go_wp2
              go_region_law (first
                | (refine step_append_run (by rfl) _ _ (by rfl) (by rfl) (by rfl) (lv_append (u0 := wc.drew) (u1 := wd) (a := ⟨wd.heap.size, 0, none⟩) (cs := [.slice D1 y1' z1', .slice D2 y2' z2']) (x := t) (bytes := 48) (i := it) (fam_tr k) _ Try.underlying43 HIT.out.1 HIT.out.2.1 HIT.out.2.2.1 HIT.out.2.2.2 rfl (by decide) HD3.out (Nat.le_succ _) HCB.out ((Below.refl _ wd).alloc (Nat.le_refl _) _) (copy_kid HKK.out HCT.out) rfl (by intro u hu; simp at hu; rcases hu with rfl | rfl <;> rfl) (fun j z hz => cells_new wd #[.slice D1 y1' z1', .slice D2 y2' z2'] 25 j z hz) HTL.out (by decide)) ?_; rintro v4 w4 ⟨hl4, -, ⟨A4, n4, c4, rfl⟩, hk4⟩; have HL4 := Lib.hid hl4; have hw4 := hk4 (wb.heap.size + 1) _ (Nat.lt_succ_self _) ((Below.heap_alloc _ _ _ HWD.out).trans ((HCB.out.block _ HWL.out).trans HDW.out)); have HW4 := Lib.hid hw4; have y0 := obj_free hw4 2; have y1 := obj_cell hw4 2; clear hl4 hk4 hw4)
                | (go_simp; go_at_call 20; refine (HCALL.out _ HDU.out).mono ?_; rintro e wd ⟨D1, y1', z1', D2, y2', z2', rfl, hct, hbd⟩; have HCT := Lib.hid hct; have HCB := Lib.hid hbd; have HWD : Hid (wb.heap.size + 1 < wd.heap.size) := Lib.hid (Nat.lt_of_lt_of_le HWL.out hbd.size); have o2 : wd.cell? ⟨wb.heap.size + 1, 2, none⟩ = some v3 := obj_cell ((hbd.block _ HWL.out).trans HDW.out) 2; have o3 : ∀ o : Obj, (wd.alloc o).cell? ⟨wb.heap.size + 1, 2, none⟩ = some v3 := fun o => cell_under ((Below.refl _ wd).alloc (Nat.le_refl _) o) o2; clear hct hbd))
              all_goals
                go_wp2
                go_roundg (g3 - 1)
                case measure => omega
                case rel => exact ⟨q + 1, _, by go_num, by omega, by rw [HTM.out]; exact lv_store (fam_tr k) HL4.out (q := ⟨wb.heap.size + 1, 2, none⟩) (Nat.le_refl _) (Nat.lt_succ_self _) _, obj_set HW4.out 2 _⟩
            · have tq : decide ((q : Int) < (nm : Int)) = false := decide_eq_false (by omega)
              have HYM : Hid (ym.take q = ym) := Lib.hid (List.take_of_length_le (by have := HNM.out; omega))
              obtain ⟨A3, c3, hv3, hl3⟩ := lv_lst (fam_tr k) HL3.out
              rw [HYM.out, ← HNM.out] at hv3
              subst hv3
              have HR3 : Hid (vaR (trR (New wb.heap.size wc) k) (New wb.heap.size wc) wc [.int .u64 (yn : Int), .string st, .slice A3 nm c3] (⟨yn, ys, ym⟩ : Va)) := Lib.hid ⟨A3, c3, by rw [HST.out, HNM.out], by have := hl3 (New wb.heap.size wc) (fun g a => new_less (by omega) a); rw [HYM.out] at this; exact this⟩
              have x0 := obj_cell HWB.out 0
              have x1 := obj_cell HWB.out 1
              have x2 := obj_cell HWB.out 2
              have HXC : Hid (wc.heap[wa.heap.size]? = some (.cells #[.int .i64 sn, v2] 32 (0, 0))) := Lib.hid ((HBC.out.block _ HXL.out).trans HXB.out)
              have u1 := obj_cell HXC.out 1
              have u1f := obj_free HXC.out 1
              have HJL : Hid ((sv.take j).length ≤ 100000) := Lib.hid (by rw [List.length_take]; omega)
              have HXS : Hid (wa.heap.size < wc.heap.size) := Lib.hid (lt_of_some HXC.out)
              clear hl3
              go_wp2_with (first
                | (at_builtin; refine wpList_append_x rfl _ _ rfl rfl rfl (lv_append (u0 := wb) (u1 := wc) (a := ⟨wc.heap.size, 0, none⟩) (cs := [.int .u64 (yn : Int), .string st, .slice A3 nm c3]) (x := (⟨yn, ys, ym⟩ : Va)) (bytes := 48) (i := iv) (fam_va k) _ Try.underlying30 HIV.out.1 HIV.out.2.1 HIV.out.2.2.1 HIV.out.2.2.2 rfl (by decide) HL2.out (Nat.le_succ _) HBC.out ((Below.refl _ wc).alloc (Nat.le_refl _) _) HR3.out rfl (by intro u hu; simp at hu; rcases hu with rfl | rfl | rfl <;> rfl) (fun j z hz => cells_new wc #[.int .u64 (yn : Int), .string st, .slice A3 nm c3] 45 j z hz) HJL.out (by decide)) ?_; rintro v4 w4 ⟨hl4, -, ⟨A4, n4, c4, rfl⟩, hk4⟩; have HL4 := Lib.hid hl4; have hw4 := hk4 wa.heap.size _ (Nat.lt_succ_self _) ((Below.heap_alloc _ _ _ HXS.out).trans HXC.out); have HW4 := Lib.hid hw4; have y0 := obj_free hw4 1; have y1 := obj_cell hw4 1; clear hl4 hk4 hw4))
              go_roundg (g2 - 1)
              case measure => omega
              case rel => exact ⟨j + 1, _, by go_num, by omega, by rw [HTV.out]; exact lv_store (fam_va k) HL4.out (q := ⟨wa.heap.size, 1, none⟩) (Nat.le_refl _) (Nat.lt_succ_self _) _, obj_set HW4.out 1 _⟩
        · have tj : decide ((j : Int) < (nv : Int)) = false := decide_eq_false (by omega)
          have HSV : Hid (sv.take j = sv) := Lib.hid (List.take_of_length_le (by have := HNV.out; omega))
          obtain ⟨A3, c3, hv3, hl3⟩ := lv_lst (fam_va k) HL2.out
          rw [HSV.out, ← HNV.out] at hv3
          subst hv3
          have HR3 : Hid (slR (trR (New wa.heap.size wb) k) (New wa.heap.size wb) wb [.int .i64 sn, .slice A3 nv c3] (⟨sn, sv⟩ : Slt)) := Lib.hid ⟨A3, c3, by rw [HNV.out], by have := hl3 (New wa.heap.size wb) (fun g a => new_less (by omega) a); rw [HSV.out] at this; exact this⟩
          have x0 := obj_cell HXB.out 0
          have x1 := obj_cell HXB.out 1
          have HXC : Hid (wb.heap[w1.heap.size]? = some (.cells #[v, .slice A9 nr c9] 25 (0, 0))) := Lib.hid ((HAB.out.block _ HOL.out).trans HOB.out)
          have u1 := obj_cell HXC.out 0
          have u1f := obj_free HXC.out 0
          have HJL : Hid ((x.slots.take i).length ≤ 100000) := Lib.hid (by rw [List.length_take]; omega)
          have HXS : Hid (w1.heap.size < wb.heap.size) := Lib.hid (lt_of_some HXC.out)
          clear hl3
          go_wp2_with (first
            | (at_builtin; refine wpList_append_x rfl _ _ rfl rfl rfl (lv_append (u0 := wa) (u1 := wb) (a := ⟨wb.heap.size, 0, none⟩) (cs := [.int .i64 sn, .slice A3 nv c3]) (x := (⟨sn, sv⟩ : Slt)) (bytes := 32) (i := is) (fam_sl k) _ Try.underlying22 HIS.out.1 HIS.out.2.1 HIS.out.2.2.1 HIS.out.2.2.2 rfl (by decide) HL1.out (Nat.le_succ _) HAB.out ((Below.refl _ wb).alloc (Nat.le_refl _) _) HR3.out rfl (by intro u hu; simp at hu; rcases hu with rfl | rfl <;> rfl) (fun j z hz => cells_new wb #[.int .i64 sn, .slice A3 nv c3] 32 j z hz) HJL.out (by decide)) ?_; rintro v4 w4 ⟨hl4, -, ⟨A4, n4, c4, rfl⟩, hk4⟩; have HL4 := Lib.hid hl4; have hw4 := hk4 w1.heap.size _ (Nat.lt_succ_self _) ((Below.heap_alloc _ _ _ HXS.out).trans HXC.out); have HW4 := Lib.hid hw4; have y0 := obj_free hw4 0; have y1 := obj_cell hw4 0; clear hl4 hk4 hw4))
          go_roundg (g1 - 1)
          case measure => omega
          case rel => exact ⟨i + 1, _, by go_num, by omega, by rw [HTS.out]; exact lv_store (fam_sl k) HL4.out (q := ⟨w1.heap.size, 0, none⟩) (Nat.le_refl _) (Nat.lt_succ_self _) _, obj_set HW4.out 0 _⟩
    · have ti : decide ((i : Int) < (na : Int)) = false := decide_eq_false (by omega)
      have HSL : Hid (x.slots.take i = x.slots) := Lib.hid (List.take_of_length_le (by have := HA.out.t_ns; omega))
      obtain ⟨A3, c3, hv3, hl3⟩ := lv_lst (fam_sl k) HL1.out
      rw [HSL.out, ← HA.out.t_ns] at hv3
      subst hv3
      have HL3 := Lib.hid hl3
      have HRS := Lib.hid (HRS1.out wa HL1.out.v_bel)
      have o0 := obj_cell HOB.out 0
      have o1 := obj_cell HOB.out 1
      have p0 := obj_free HU1.out.2.2 0
      have p1 := obj_free HU1.out.2.2 1
      have p2 := obj_cell HU1.out.2.2 0
      have p3 := obj_cell HU1.out.2.2 1
      have e0 := obj_set HU1.out.2.2 0 (.slice A3 na c3)
      have e1 := obj_set e0 1 (.slice A9 nr c9)
      have f0 := obj_cell e1 0
      have f1 := obj_cell e1 1
      clear hl3 e0 e1
      go_wp2
      refine bodyPost_ret (v := .agg #[.slice A3 na c3, .slice A9 nr c9]) ?_ rfl ⟨A3, na, c3, A9, nr, c9, rfl, ⟨?_, ?_, HA.out.t_ns, HA.out.t_nr⟩, ?_⟩
      · have hres : Try.f20.results = #[.cell 2 25] := by kernel_rfl
        simp only [results, hres]
        go_simp
      · have h1 := HL3.out (New (w1.heap.size + 1) wa) (fun g a => a)
        rw [HSL.out] at h1
        have hs : Stay (New (w1.heap.size + 1) wa) wa ((wa.setCell ⟨w.heap.size + 1, 0, none⟩ (.slice A3 na c3)).setCell ⟨w.heap.size + 1, 1, none⟩ (.slice A9 nr c9)) := stay_set2 _ _ (fun g hg => by have := hg.1; omega)
        have hS : ∀ g, New (w1.heap.size + 1) wa g → New w.heap.size ((wa.setCell ⟨w.heap.size + 1, 0, none⟩ (.slice A3 na c3)).setCell ⟨w.heap.size + 1, 1, none⟩ (.slice A9 nr c9)) g := fun g hg => new_less (by omega) (new_set (new_set hg (by have := hg.1; show g ≠ w.heap.size + 1; omega)) (by have := hg.1; show g ≠ w.heap.size + 1; omega))
        exact lst_keep h1 (slR_keep (trR_keep hS hs k) hS hs) hS hs
      · have h1 := HRS.out (New (w.heap.size + 1 + 1) wa) (fun g a => a)
        have hs : Stay (New (w.heap.size + 1 + 1) wa) wa ((wa.setCell ⟨w.heap.size + 1, 0, none⟩ (.slice A3 na c3)).setCell ⟨w.heap.size + 1, 1, none⟩ (.slice A9 nr c9)) := stay_set2 _ _ (fun g hg => by have := hg.1; omega)
        have hS : ∀ g, New (w.heap.size + 1 + 1) wa g → New w.heap.size ((wa.setCell ⟨w.heap.size + 1, 0, none⟩ (.slice A3 na c3)).setCell ⟨w.heap.size + 1, 1, none⟩ (.slice A9 nr c9)) g := fun g hg => new_less (by omega) (new_set (new_set hg (by have := hg.1; show g ≠ w.heap.size + 1; omega)) (by have := hg.1; show g ≠ w.heap.size + 1; omega))
        exact lst_keep h1 (fun _ _ h => h) hS hs
      · exact (HU1.out.1.setCell (p := ⟨w.heap.size + 1, 0, none⟩) (Nat.le_succ _) _).setCell (p := ⟨w.heap.size + 1, 1, none⟩) (Nat.le_succ _) _
theorem rtcopy_any : ∀ k, CopyOk k
  | 0 => rtcopy_step (fun q h => by cases h)
  | k + 1 => rtcopy_step (fun q h => by cases h; exact rtcopy_any k)
end Go.Proofs.Ytakdkocobcicdaa

/- The law's spoil: all numbers of a tree are written over, nothing else changes. Conditions: those that each theorem names. -/
namespace Go.Proofs.Ytakdkocobcicdaa
open Go.RowKit
set_option linter.unusedVariables false
set_option maxRecDepth 100000

/-- A value that may have turned into another whole number of its kind. -/
def Turn (v v' : Value) : Prop := v' = v ∨ ∃ (κ : IntKind) (a b : Int), v = .int κ a ∧ v' = .int κ b ∧ (κ = .u64 → 0 ≤ b)
theorem turn_trans {a b c : Value} (h : Turn a b) (k : Turn b c) : Turn a c := by
  rcases h with rfl | ⟨κ, x, y, rfl, rfl, hy⟩
  · exact k
  · rcases k with rfl | ⟨κ', x', y', e1, rfl, hy'⟩
    · exact .inr ⟨κ, x, y, rfl, rfl, hy⟩
    · injection e1 with e2 e3
      subst e2
      exact .inr ⟨κ, x, y', rfl, rfl, hy'⟩
theorem turn_slice {A : Option Addr} {n c : Nat} {v : Value} (h : Turn (.slice A n c) v) : v = .slice A n c := by
  rcases h with h | ⟨κ, a, b, e, _⟩
  · exact h
  · cases e
theorem turn_string {s : ByteArray} {v : Value} (h : Turn (.string s) v) : v = .string s := by
  rcases h with h | ⟨κ, a, b, e, _⟩
  · exact h
  · cases e
theorem turn_i64 {a : Int} {v : Value} (h : Turn (.int .i64 a) v) : ∃ b, v = .int .i64 b := by
  rcases h with h | ⟨κ, x, b, e, h, _⟩
  · exact ⟨a, h⟩
  · cases e; exact ⟨b, h⟩
theorem turn_u64 {a : Nat} {v : Value} (h : Turn (.int .u64 (a : Int)) v) : ∃ b : Nat, v = .int .u64 (b : Int) := by
  rcases h with h | ⟨κ, x, b, e, h, hb⟩
  · exact ⟨a, h⟩
  · cases e
    exact ⟨b.toNat, by rw [h]; congr 1; have := hb rfl; omega⟩
/-- In blocks of S whole numbers may have turned, all else that was there is as it was. -/
structure Spl (S : Nat → Prop) (w w' : World) : Prop where
  p_touch : Touch S w w'
  p_cell : ∀ p v, w.cell? p = some v → ∃ v', w'.cell? p = some v' ∧ Turn v v'
  p_fr : ∀ (g : Nat), (∃ cs t, w.heap[g]? = some (.cells cs t (0, 0))) → ∃ cs t, w'.heap[g]? = some (.cells cs t (0, 0))
theorem spl_trans {S : Nat → Prop} {a b c : World} (h : Spl S a b) (k : Spl S b c) : Spl S a c :=
  ⟨h.p_touch.trans k.p_touch (fun _ h => .inl h), fun p v hv => by
    obtain ⟨v1, h1, t1⟩ := h.p_cell p v hv
    obtain ⟨v2, h2, t2⟩ := k.p_cell p v1 h1
    exact ⟨v2, h2, turn_trans t1 t2⟩, fun g hg => k.p_fr g (h.p_fr g hg)⟩
theorem spl_bel {S : Nat → Prop} {w w' : World} (hb : Below w.heap.size w w') : Spl S w w' :=
  ⟨Touch.of_below S hb, fun p v h => ⟨v, cell_under hb h, .inl rfl⟩, fun g ⟨cs, t, h⟩ => ⟨cs, t, (hb.block g (lt_of_some h)).trans h⟩⟩
theorem spl_set {S : Nat → Prop} {w : World} {q : Addr} {κ : IntKind} {a b : Int} (hq : S q.block) (hp : q.spot = none) (hf : ∃ cs t, w.heap[q.block]? = some (.cells cs t (0, 0))) (hc : w.cell? q = some (.int κ a)) (hb : κ = .u64 → 0 ≤ b) : Spl S w (w.setCell q (.int κ b)) := by
  obtain ⟨g, o, pa⟩ := q
  dsimp only at hq hp hf
  subst hp
  obtain ⟨cs, t, hh⟩ := hf
  refine ⟨(Touch.refl S w).set (.inl hq) _, fun p v hv => ?_, fun k ⟨ds, u, hk⟩ => ?_⟩
  · by_cases e : p.block = g
    · obtain ⟨pg, po, pp⟩ := p
      dsimp only at e
      subst e
      have hs := obj_set hh o (.int κ b)
      cases pp with
      | none =>
        have h1 := obj_cell hh po
        have h2 := obj_cell hs po
        have h3 := obj_cell hh o
        rw [h1] at hv
        rw [h3] at hc
        rw [h2]
        by_cases eo : po = o
        · subst eo
          rw [hc] at hv
          injection hv with hv
          subst hv
          have hlt := (Array.getElem?_eq_some_iff.1 hc).1
          exact ⟨.int κ b, by simp [hlt], .inr ⟨κ, a, b, rfl, rfl, hb⟩⟩
        · exact ⟨v, by rw [Array.getElem?_setIfInBounds_ne (by omega)]; exact hv, .inl rfl⟩
      | some pp =>
        exact absurd hv (by simp [World.cell?, hh])
    · exact ⟨v, (World.cell?_of_block (Below.heap_setCell _ _ _ _ e)).trans hv, .inl rfl⟩
  · by_cases e : k = g
    · subst e
      exact ⟨_, _, obj_set hh o _⟩
    · exact ⟨ds, u, (Below.heap_setCell _ _ _ _ e).trans hk⟩
section
variable {S : Nat → Prop} {w w' : World} {p : Addr}
theorem spl_slice (h : Spl S w w') {A : Option Addr} {n c : Nat} (hc : w.cell? p = some (.slice A n c)) : w'.cell? p = some (.slice A n c) := by
  obtain ⟨v, h1, h2⟩ := h.p_cell p _ hc
  rw [turn_slice h2] at h1
  exact h1
theorem lst_spl {α : Type} [Inhabited α] {k : Nat} {R R' : World → List Value → α → Prop} {A : Option Addr} {c : Nat} {l : List α} (hk : 0 < k) (h : Lst k S R w A c l) (hs : Spl S w w')
    (hR : ∀ cs x, R w cs x → ∀ cs' : List Value, cs'.length = cs.length → (∀ (i : Nat) v, cs[i]? = some v → ∃ v', cs'[i]? = some v' ∧ Turn v v') → ∃ x', R' w' cs' x') : ∃ l' : List α, l'.length = l.length ∧ Lst k S R' w' A c l' := by
  have one : ∀ j, j < l.length → ∃ x' : α, ∃ g off cs', A = some ⟨g, off, none⟩ ∧ S g ∧ cs'.length = k ∧ R' w' cs' x' ∧ ∀ i u, cs'[i]? = some u → w'.cell? ⟨g, off + j * k + i, none⟩ = some u := by
    intro j hj
    obtain ⟨g, off, cs, e, hg, hl, hr, hc⟩ := h.l_at j _ (List.getElem?_eq_getElem hj)
    have step : ∀ i, i < k → ∃ v' : Value, w'.cell? ⟨g, off + j * k + i, none⟩ = some v' ∧ ∀ v, cs[i]? = some v → Turn v v' := by
      intro i hi
      have hv : cs[i]? = some cs[i] := List.getElem?_eq_getElem (by omega)
      obtain ⟨v', h1, h2⟩ := hs.p_cell _ _ (hc i _ hv)
      exact ⟨v', h1, fun v hv' => by rw [hv] at hv'; injection hv' with hv'; rw [← hv']; exact h2⟩
    obtain ⟨f, hf⟩ : ∃ f : Nat → Value, ∀ i, i < k → w'.cell? ⟨g, off + j * k + i, none⟩ = some (f i) ∧ ∀ v, cs[i]? = some v → Turn v (f i) := by
      haveI : Inhabited Value := ⟨.bool false⟩
      exact Deep.choose_lt step
    obtain ⟨x', hx'⟩ := hR cs _ hr ((List.range k).map f) (by simp [hl]) (fun i v hv => by
      have hi : i < k := by have := (List.getElem?_eq_some_iff.mp hv).1; omega
      exact ⟨f i, by simp [hi], (hf i hi).2 v hv⟩)
    exact ⟨x', g, off, _, e, hg, by simp, hx', fun i u hu => by
      have hi : i < k := by have := (List.getElem?_eq_some_iff.mp hu).1; simpa using this
      have : u = f i := by simp [hi] at hu; exact hu.symm
      rw [this]
      exact (hf i hi).1⟩
  obtain ⟨q, hq⟩ : ∃ f : Nat → α, ∀ j, j < l.length → ∃ g off cs', A = some ⟨g, off, none⟩ ∧ S g ∧ cs'.length = k ∧ R' w' cs' (f j) ∧ ∀ i u, cs'[i]? = some u → w'.cell? ⟨g, off + j * k + i, none⟩ = some u := Deep.choose_lt one
  refine ⟨(List.range l.length).map q, by simp, ⟨by simpa using h.l_le, h.l_max, h.l_nil, fun j x hx => ?_⟩⟩
  have hj : j < l.length := by have := (List.getElem?_eq_some_iff.mp hx).1; simpa using this
  have e : x = q j := by simp [hj] at hx; exact hx.symm
  subst e
  exact hq j hj
theorem spl_rw (cs : List Value) (x : Rw) (h : rwR w cs x) (cs' : List Value) (hl : cs'.length = cs.length) (ht : ∀ (i : Nat) v, cs[i]? = some v → ∃ v', cs'[i]? = some v' ∧ Turn v v') : ∃ x' : Rw, rwR w' cs' x' := by
  have e : cs = rawCells x := h
  subst e
  obtain ⟨v0, c0, u0⟩ := ht 0 _ rfl
  obtain ⟨v1, c1, u1⟩ := ht 1 _ rfl
  obtain ⟨v2, c2, u2⟩ := ht 2 _ rfl
  obtain ⟨v3, c3, u3⟩ := ht 3 _ rfl
  obtain ⟨b0, rfl⟩ := turn_i64 u0
  obtain ⟨b1, rfl⟩ := turn_i64 u1
  obtain ⟨b2, rfl⟩ := turn_u64 u2
  rw [turn_string u3] at c3
  match cs', hl with
  | [a0, a1, a2, a3], _ =>
    simp at c0 c1 c2 c3
    subst c0 c1 c2 c3
    exact ⟨⟨b0, b1, b2, x.s⟩, rfl⟩
theorem spl_tr (hs : Spl S w w') : ∀ (k : Nat) (cs : List Value) (x : Tr), trR S k w cs x → ∀ cs' : List Value, cs'.length = cs.length → (∀ (i : Nat) v, cs[i]? = some v → ∃ v', cs'[i]? = some v' ∧ Turn v v') → ∃ x' : Tr, trR S k w' cs' x'
  | 0, _, _, h, _, _, _ => h.elim
  | k + 1, cs, x, ⟨A, na, ca, A2, nr, cr, e, h⟩, cs', hl, ht => by
    subst e
    obtain ⟨v0, c0, u0⟩ := ht 0 _ rfl
    obtain ⟨v1, c1, u1⟩ := ht 1 _ rfl
    rw [turn_slice u0] at c0
    rw [turn_slice u1] at c1
    match cs', hl with
    | [a0, a1], _ =>
      simp at c0 c1
      subst c0 c1
      obtain ⟨l1, e1, h1⟩ := lst_spl (by decide) h.t_s hs (R' := slR (trR S k) S) (fun cs x ⟨B, cb, e, hv⟩ cs' hl ht => by
        subst e
        obtain ⟨v0, c0, u0⟩ := ht 0 _ rfl
        obtain ⟨v1, c1, u1⟩ := ht 1 _ rfl
        obtain ⟨b0, rfl⟩ := turn_i64 u0
        rw [turn_slice u1] at c1
        match cs', hl with
        | [a0, a1], _ =>
          simp at c0 c1
          subst c0 c1
          obtain ⟨l2, e2, h2⟩ := lst_spl (by decide) hv hs (R' := vaR (trR S k) S) (fun cs x ⟨B, cb, e, hk⟩ cs' hl ht => by
            subst e
            obtain ⟨v0, c0, u0⟩ := ht 0 _ rfl
            obtain ⟨v1, c1, u1⟩ := ht 1 _ rfl
            obtain ⟨v2, c2, u2⟩ := ht 2 _ rfl
            obtain ⟨b0, rfl⟩ := turn_u64 u0
            rw [turn_string u1] at c1
            rw [turn_slice u2] at c2
            match cs', hl with
            | [a0, a1, a2], _ =>
              simp at c0 c1 c2
              subst c0 c1 c2
              obtain ⟨l3, e3, h3⟩ := lst_spl (by decide) hk hs (R' := trR S k) (fun cs x hx cs' hl ht => spl_tr hs k cs x hx cs' hl ht)
              exact ⟨⟨b0, x.vs, l3⟩, B, cb, by dsimp only; rw [e3], h3⟩)
          exact ⟨⟨b0, l2⟩, B, cb, by dsimp only; rw [e2], h2⟩)
      obtain ⟨l4, e4, h4⟩ := lst_spl (by decide) h.t_r hs (R' := rwR) (fun cs x hx cs' hl ht => spl_rw cs x hx cs' hl ht)
      exact ⟨.mk l1 l4, A, na, ca, A2, nr, cr, rfl, h1, h4, by rw [h.t_ns]; exact e1.symm, by rw [h.t_nr]; exact e4.symm⟩
theorem spl_at (hs : Spl S w w') {k : Nat} {A A2 : Option Addr} {na ca nr cr : Nat} {x : Tr} (h : TrAt S k w A na ca A2 nr cr x) : ∃ x', TrAt S k w' A na ca A2 nr cr x' := by
  obtain ⟨x', A', na', ca', A2', nr', cr', e, h'⟩ := spl_tr hs (k + 1) [.slice A na ca, .slice A2 nr cr] x ⟨A, na, ca, A2, nr, cr, rfl, h⟩ [.slice A na ca, .slice A2 nr cr] rfl (fun i v hv => ⟨v, hv, .inl rfl⟩)
  cases e
  exact ⟨x', h'⟩
end

/-- The blocks of S may be written. -/
def Open (S : Nat → Prop) (w : World) : Prop := ∀ g, S g → ∃ cs t, w.heap[g]? = some (.cells cs t (0, 0))
structure SpAt (S : Nat → Prop) (w wr : World) (o : Obj) : Prop where
  s_spl : Spl S w wr
  s_box : wr.heap[w.heap.size]? = some o
section
variable {S : Nat → Prop} {w wr w2 : World} {o : Obj}
theorem open_lt (h : Open S w) {g : Nat} (hg : S g) : g < w.heap.size := by
  obtain ⟨cs, t, hh⟩ := h g hg
  exact lt_of_some hh
theorem open_spl (h : Open S w) (hs : Spl S w wr) : Open S wr := fun g hg => hs.p_fr g (h g hg)
theorem sp_set (hS : Open S w) (h : SpAt S w wr o) {κ : IntKind} {a : Int} {g off : Nat} (hg : S g) (hc : w.cell? ⟨g, off, none⟩ = some (.int κ a)) : wr.frozen? ⟨g, off, none⟩ = false ∧ (∃ v, wr.cell? ⟨g, off, none⟩ = some v) ∧ ∀ c : Int, (κ = .u64 → 0 ≤ c) → SpAt S w (wr.setCell ⟨g, off, none⟩ (.int κ c)) o := by
  obtain ⟨cs, t, hf⟩ := open_spl hS h.s_spl g hg
  obtain ⟨v, h1, h2⟩ := h.s_spl.p_cell _ _ hc
  have hb : ∃ b, v = .int κ b := by
    rcases h2 with h2 | ⟨κ', x, y, e, h2, _⟩
    · exact ⟨a, h2⟩
    · cases e; exact ⟨y, h2⟩
  obtain ⟨b, hb⟩ := hb
  subst hb
  refine ⟨obj_free hf off, ⟨_, h1⟩, fun c hc' => ⟨spl_trans h.s_spl (spl_set hg rfl ⟨cs, t, hf⟩ h1 hc'), (Below.heap_setCell _ _ _ _ (fun e => ?_)).trans h.s_box⟩⟩
  have := open_lt hS hg
  have e' : w.heap.size = g := e
  omega
theorem sp_call (hS : Open S w) (h : SpAt S w wr o) (hs : Spl S wr w2) : SpAt S w w2 o :=
  ⟨spl_trans h.s_spl hs, (hs.p_touch.block _ (lt_of_some h.s_box) (fun e => by have := open_lt hS e; omega)).trans h.s_box⟩
end
def SpoilOk (k : Nat) : Prop := ∀ (S : Nat → Prop) (w : World) (A : Option Addr) (na ca : Nat) (A2 : Option Addr) (nr cr : Nat) (x : Tr), TrAt S k w A na ca A2 nr cr x → Open S w →
  Calls Try.prog 22 #[.agg #[.slice A na ca, .slice A2 nr cr]] w fun e w' => e = .returned (.tuple #[]) ∧ Spl S w w'
set_option maxHeartbeats 16000000 in
theorem spoil_step {k : Nat} (H : ∀ q, k = q + 1 → SpoilOk q) : SpoilOk k := by
  intro S w A na ca A2 nr cr x h hS
  obtain ⟨q1, q2, q3, q4⟩ := trAt_max h
  have HA := Lib.hid h
  have HS := Lib.hid hS
  have HL := Lib.hid H
  have HBX := Lib.hid (bx_start w #[.slice A na ca, .slice A2 nr cr] 25)
  have HSP : Hid (SpAt S w (w.alloc (.cells #[.slice A na ca, .slice A2 nr cr] 25)) (.cells #[.slice A na ca, .slice A2 nr cr] 25 (0, 0))) := Lib.hid ⟨spl_bel HBX.out.b_bel, HBX.out.b_blk⟩
  have r1 := obj_cell (HBX.out).b_blk 1
  clear h hS H
  go_enter Try.func22, Try.ntmps22
  go_wp2
  clear r1
  go_loopg [2] nr (fun gz x0 wr => ∃ j : Nat, x0 = .int .i64 (j : Int) ∧ j + gz = nr ∧ SpAt S w wr (.cells #[.slice A na ca, .slice A2 nr cr] 25 (0, 0)))
  case atStart => exact ⟨0, rfl, by omega, HSP.out⟩
  case round =>
    obtain ⟨j, rfl, hj, hsp⟩ := hrel
    have HSP := Lib.hid hsp
    clear hsp
    obtain ⟨g0, hg0⟩ : ∃ g0, g0 = gk := ⟨_, rfl⟩
    subst hg0
    have r1 := obj_cell HSP.out.s_box 1
    by_cases hlt : j < nr
    · have tj : decide ((j : Int) < (nr : Int)) = true := decide_eq_true (by omega)
      obtain ⟨r, hr⟩ : ∃ r, x.rest[j]? = some r := ⟨_, List.getElem?_eq_getElem (by have := HA.out.t_nr; omega)⟩
      obtain ⟨g, off, rfl, hg, hc⟩ := rw_at HA.out.t_r hr
      obtain ⟨c0, -⟩ := hc w (stay_refl _ _)
      obtain ⟨e1, ⟨v0, e2⟩, e3⟩ := sp_set HS.out HSP.out hg c0
      have HN := Lib.hid (e3 (-7) (fun h => by cases h))
      clear hr hc c0 e3
      go_wp2
      go_roundg (g0 - 1)
      case measure => omega
      case rel => exact ⟨j + 1, by go_num, by omega, HN.out⟩
    · have tj : decide ((j : Int) < (nr : Int)) = false := decide_eq_false (by omega)
      go_wp2
      clear r1
      go_loopg [3] na (fun gz x0 wr => ∃ i : Nat, x0 = .int .i64 (i : Int) ∧ i + gz = na ∧ SpAt S w wr (.cells #[.slice A na ca, .slice A2 nr cr] 25 (0, 0)))
      case atStart => exact ⟨0, rfl, by omega, HSP.out⟩
      case round =>
        obtain ⟨i, rfl, hi, hsp⟩ := hrel
        have HSP := Lib.hid hsp
        clear hsp
        obtain ⟨g1, hg1⟩ : ∃ g1, g1 = gk := ⟨_, rfl⟩
        subst hg1
        have r0 := obj_cell HSP.out.s_box 0
        by_cases hlti : i < na
        · have ti : decide ((i : Int) < (na : Int)) = true := decide_eq_true (by omega)
          obtain ⟨s, hs⟩ : ∃ s, x.slots[i]? = some s := ⟨_, List.getElem?_eq_getElem (by have := HA.out.t_ns; omega)⟩
          obtain ⟨ga, oa, A1, c1, rfl, hga, hca, hv⟩ := sl_at HA.out.t_s hs
          obtain ⟨c0, c1'⟩ := hca w (stay_refl _ _)
          have z1 := hv.l_le
          have z2 := hv.l_max
          unfold maxLen at z2
          obtain ⟨nv, hnv⟩ : ∃ z, z = s.svals.length := ⟨_, rfl⟩
          rw [← hnv] at c1' z1
          have HNV := Lib.hid hnv
          have HVV := Lib.hid hv
          obtain ⟨e1, ⟨v0, e2⟩, e3⟩ := sp_set HS.out HSP.out hga c0
          have HN := Lib.hid (e3 (-7) (fun h => by cases h))
          have HC1 : Hid (∀ u, Spl S w u → u.cell? ⟨ga, oa + i * 2 + 1, none⟩ = some (.slice A1 nv c1)) := Lib.hid (fun u hu => spl_slice hu c1')
          clear hs hca hv hnv c0 c1' e3
          go_wp2
          clear e1 e2 r0
          go_loopg [4] nv (fun gz x0 wr => ∃ j : Nat, x0 = .int .i64 (j : Int) ∧ j + gz = nv ∧ SpAt S w wr (.cells #[.slice (some ⟨ga, oa, none⟩) na ca, .slice A2 nr cr] 25 (0, 0)))
          case atStart => exact ⟨0, rfl, by omega, HN.out⟩
          case round =>
            obtain ⟨j, rfl, hj, hsp⟩ := hrel
            have HSP := Lib.hid hsp
            clear hsp
            obtain ⟨g2, hg2⟩ : ∃ g2, g2 = gk := ⟨_, rfl⟩
            subst hg2
            have r0 := obj_cell HSP.out.s_box 0
            have a1 := HC1.out _ HSP.out.s_spl
            by_cases hltj : j < nv
            · have tj : decide ((j : Int) < (nv : Int)) = true := decide_eq_true (by omega)
              obtain ⟨v, hv⟩ : ∃ v, s.svals[j]? = some v := ⟨_, List.getElem?_eq_getElem (by have := HNV.out; omega)⟩
              obtain ⟨gb, ob, B1, d1, rfl, hgb, hcb, hk⟩ := va_at HVV.out hv
              obtain ⟨b0, b1, b2⟩ := hcb w (stay_refl _ _)
              have z3 := hk.l_le
              have z4 := hk.l_max
              unfold maxLen at z4
              obtain ⟨nm, hnm⟩ : ∃ z, z = v.vm.length := ⟨_, rfl⟩
              rw [← hnm] at b2 z3
              have HNM := Lib.hid hnm
              have HK := Lib.hid hk
              obtain ⟨e1, ⟨v0, e2⟩, e3⟩ := sp_set HS.out HSP.out hgb b0
              have HN := Lib.hid (e3 77 (fun _ => by decide))
              have HC2 : Hid (∀ u, Spl S w u → u.cell? ⟨gb, ob + j * 3 + 2, none⟩ = some (.slice B1 nm d1)) := Lib.hid (fun u hu => spl_slice hu b2)
              clear hv hcb hk hnm b0 b1 b2 e3
              go_wp2
              clear e1 e2 r0 a1
              go_loopg [5] nm (fun gz x0 wr => ∃ q : Nat, x0 = .int .i64 (q : Int) ∧ q + gz = nm ∧ SpAt S w wr (.cells #[.slice (some ⟨ga, oa, none⟩) na ca, .slice A2 nr cr] 25 (0, 0)))
              case atStart => exact ⟨0, rfl, by omega, HN.out⟩
              case round =>
                obtain ⟨q, rfl, hq, hsp⟩ := hrel
                have HSP := Lib.hid hsp
                clear hsp
                obtain ⟨g3, hg3⟩ : ∃ g3, g3 = gk := ⟨_, rfl⟩
                subst hg3
                have r0 := obj_cell HSP.out.s_box 0
                have a1 := HC1.out _ HSP.out.s_spl
                have b2 := HC2.out _ HSP.out.s_spl
                by_cases hltq : q < nm
                · have tq : decide ((q : Int) < (nm : Int)) = true := decide_eq_true (by omega)
                  obtain ⟨y, hy⟩ : ∃ y, v.vm[q]? = some y := ⟨_, List.getElem?_eq_getElem (by have := HNM.out; omega)⟩
                  obtain ⟨kk, gc, oc, C1, e1, cc1, C2, e2, cc2, hkk, rfl, _, hcc, hty⟩ := kid_at HK.out hy
                  obtain ⟨c0, c1'⟩ := hcc w (stay_refl _ _)
                  have d0 := spl_slice HSP.out.s_spl c0
                  have d1' := spl_slice HSP.out.s_spl c1'
                  have HCALL : Hid (Calls Try.prog 22 #[.agg #[.slice C1 e1 cc1, .slice C2 e2 cc2]] wr fun e w' => e = .returned (.tuple #[]) ∧ Spl S wr w') := Lib.hid (by
                    obtain ⟨y', hy'⟩ := spl_at HSP.out.s_spl hty
                    exact HL.out kk hkk S wr _ _ _ _ _ _ y' hy' (open_spl HS.out HSP.out.s_spl))
                  clear hy hcc hty hkk c0 c1'
                  go_wp2_with (go_at_call 22; refine HCALL.out.mono ?_; rintro e w2 ⟨rfl, hs9⟩; have HS9 := Lib.hid (sp_call HS.out HSP.out hs9); clear hs9)
                  go_roundg (g3 - 1)
                  case measure => omega
                  case rel => exact ⟨q + 1, by go_num, by omega, HS9.out⟩
                · have tq : decide ((q : Int) < (nm : Int)) = false := decide_eq_false (by omega)
                  go_wp2
                  go_roundg (g2 - 1)
                  case measure => omega
                  case rel => exact ⟨j + 1, by go_num, by omega, HSP.out⟩
            · have tj : decide ((j : Int) < (nv : Int)) = false := decide_eq_false (by omega)
              go_wp2
              go_roundg (g1 - 1)
              case measure => omega
              case rel => exact ⟨i + 1, by go_num, by omega, HSP.out⟩
        · have ti : decide ((i : Int) < (na : Int)) = false := decide_eq_false (by omega)
          go_wp2
          go_end0
          exact ⟨rfl, HSP.out.s_spl⟩
theorem spoil_any : ∀ k, SpoilOk k
  | 0 => spoil_step (fun q h => by cases h)
  | k + 1 => spoil_step (fun q h => by cases h; exact spoil_any k)
end Go.Proofs.Ytakdkocobcicdaa
