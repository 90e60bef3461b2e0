/- Several texts in one: SpA. What each proves, and its conditions, stands at its own head. -/
import Derived.Shelf.Strings.BuilderK
import Derived.Test.YtjogamffdbedkaaGreatDoorPkA11
import Derived.Test.YtjogamffdbedkaaGreatDoorPkA6
import Derived.Test.YtjogamffdbedkaaGreatDoorPkA19
/- What lines are written into: a strings.Builder that lies embedded in a block of the program's own type. Conditions: those that each theorem names. -/
namespace Go.Proofs.YtjogamffdbedkaaGreatDoor
open Go.RowKit
set_option linter.unusedVariables false
set_option maxRecDepth 100000

/-- The lines that lie in block b hold these bytes. -/
def Ln (B b : Nat) (bs : List UInt8) (w : World) : Prop := Lib.IsBuilderF 49 5 B b (cellsOf bs) w
/-- What a call leaves that writes to them. -/
structure LnTo (B b : Nat) (bs : List UInt8) (w w' : World) : Prop where
  n_ln : Ln B b bs w'
  n_bel : Below B w w'
  n_keep : Lib.OthersKept 5 (some b) w w'
theorem LnTo.after {B b : Nat} {x y : List UInt8} {u v w : World} (h : LnTo B b x u v) (k : LnTo B b y v w) : LnTo B b y u w := ⟨k.n_ln, h.n_bel.trans k.n_bel, h.n_keep.trans k.n_keep⟩
theorem ln_at {B b : Nat} {bs : List UInt8} {w : World} (h : Ln B b bs w) : ∃ p, (p = .pointer none ∨ p = .pointer (some ⟨b, 0, none⟩)) ∧ Lib.BuilderAtF 49 5 B b p (cellsOf bs) w := by
  rcases h with h | h
  · exact ⟨_, .inl rfl, h⟩
  · exact ⟨_, .inr rfl, h⟩
theorem ln_lt {B b : Nat} {bs : List UInt8} {w : World} (h : Ln B b bs w) : B ≤ b ∧ b < w.heap.size := by
  obtain ⟨p, _, h⟩ := ln_at h
  exact ⟨h.1, h.lt⟩
/-- A call that turns nothing of what is there leaves the lines as they are. -/
theorem ln_still {B b : Nat} {bs : List UInt8} {w w' : World} (h : Ln B b bs w) (hb : Below w.heap.size w w') : Ln B b bs w' := by
  have one : ∀ p, Lib.BuilderAtF 49 5 B b p (cellsOf bs) w → Lib.BuilderAtF 49 5 B b p (cellsOf bs) w' := by
    intro p h
    have hlt := h.lt
    obtain ⟨hB, v, hbk, hown, hne⟩ := h
    refine ⟨hB, v, (hb.block b hlt).trans hbk, ⟨hown.1, ?_⟩, hne⟩
    rcases hown.2 with hn | ⟨g, cap, cur, fz, hv, hbg, hg, rest⟩
    · exact .inl hn
    · have hgl : g < w.heap.size := (Array.getElem?_eq_some_iff.1 hg).1
      exact .inr ⟨g, cap, cur, fz, hv, hbg, (hb.block g hgl).trans hg, rest⟩
  exact h.elim (fun x => .inl (one _ x)) (fun x => .inr (one _ x))
theorem kept_still {w w' : World} (b : Nat) (hb : Below w.heap.size w w') : Lib.OthersKept 5 (some b) w w' :=
  fun k o h _ _ => (hb.block k (Array.getElem?_eq_some_iff.1 h).1).trans h
theorem lnto_still {B b : Nat} {bs : List UInt8} {w w' : World} (h : Ln B b bs w) (hBw : B ≤ w.heap.size) (hb : Below w.heap.size w w') : LnTo B b bs w w' := ⟨ln_still h hb, hb.mono hBw, kept_still b hb⟩
theorem lnto_refl {B b : Nat} {bs : List UInt8} {w : World} (h : Ln B b bs w) : LnTo B b bs w w := ⟨h, Below.refl _ _, Lib.OthersKept.refl _ _ _⟩
/-- What a block of the call's own that is no row of bytes reads behind such a call. -/
theorem kept_block {b k : Nat} {w w' : World} {c : Array Value} {t : TypeId} {fz : Nat × Nat} (h : Lib.OthersKept 5 (some b) w w') (hk : w.heap[k]? = some (.cells c t fz)) (hkb : k ≠ b) (ht : t ≠ 5) : w'.heap[k]? = some (.cells c t fz) :=
  h k _ hk (fun e => hkb (Option.some.inj e)) (fun c' fz' e => by injection e with _ e2 _; exact ht e2)

theorem lines_lies : liesAt Tryz.prog Tryz.prog.depth 49 (2 / Tryz.prog.cellsOf 49) 0 47 1 = true := by kernel_rfl
theorem lines_ne : (49 : TypeId) ≠ 5 := by decide

set_option maxHeartbeats 1000000 in
theorem lncheck_any (B b : Nat) (bs : List UInt8) (w : World) (h : Ln B b bs w) :
    Calls Tryz.prog 95 #[.pointer (some ⟨b, 0, none⟩)] w fun e w' => e = .returned (.tuple #[]) ∧ Lib.BuilderAtF 49 5 B b (.pointer (some ⟨b, 0, none⟩)) (cellsOf bs) w' ∧ Below B w w' ∧ Lib.OthersKept 5 (some b) w w' := by
  obtain ⟨j, hj, hjs⟩ := Option.map_eq_some_iff.1 sbw_extra.sizeBuilder
  have hp : Tryz.prog.underlying 44 = some (.pointer 47) := Tryz.underlying44
  have hu : Tryz.prog.underlying 118 = some .unsafePointer := Tryz.underlying118
  obtain ⟨p, hpp, hA⟩ := ln_at h
  have h0 := hA.cell0
  rcases hpp with rfl | rfl
  · have hsh := hA.shape
    have hfz := hA.frozen0
    have HB := Lib.hid hA
    clear hA h
    go_enter Tryz.func95, Tryz.ntmps95
    go_wp2
    rw [Lib.run_to_unsafe w ⟨b, 0, none⟩ hp hu hj (by rw [hjs]; decide) hsh (Nat.zero_lt_succ 1)]
    simp only [Result.andThen]
    rw [Oper.upon_value]
    go_wp2
    rw [run_callFunc_extern Tryz.func131 (by kernel_rfl) (by kernel_rfl) (by kernel_rfl) (e := Extern.AbiNoEscape.same) (by kernel_rfl)]
    rw [Lib.run_noEscape]
    simp only [Result.andThen]
    rw [Oper.upon_value]
    go_wp2
    rw [Lib.run_from_unsafe w ⟨b, 0, none⟩ hu hp hj hsh lines_lies]
    simp only [Result.andThen]
    rw [Oper.upon_value]
    go_wp2
    go_end0
    exact ⟨rfl, HB.out.used _, (Below.refl B w).setCell (p := ⟨b, 0, none⟩) HB.out.1 _, (Lib.OthersKept.refl _ _ w).setCell ⟨b, 0, none⟩ rfl _⟩
  · have hne := Lib.run_neq_ptr_same (P := Tryz.prog) w ⟨b, 0, none⟩ hp hj
    have HB := Lib.hid hA
    clear hA h
    go_enter Tryz.func95, Tryz.ntmps95
    go_wp2
    go_end0
    exact ⟨rfl, HB.out, Below.refl B w, Lib.OthersKept.refl _ _ _⟩

set_option maxHeartbeats 2000000 in
theorem lntext_any (B b : Nat) (bs t : List UInt8) (s : ByteArray) (hs : s = strOf t) (w : World) (h : Ln B b bs w) (hl : bs.length + t.length ≤ 140737488355328) (hBw : B ≤ w.heap.size) :
    Calls Tryz.prog 57 #[.pointer (some ⟨b, 0, none⟩), .string s] w fun e w' => e = .returned (.tuple #[.int .i64 (s.size : Int), .nilIface]) ∧ LnTo B b (bs ++ t) w w' := by
  have HL := Lib.hid (show (cellsOf bs).length + s.size ≤ 140737488355328 by rw [hs, str_size, cellsOf_length]; exact hl)
  have HC := Lib.hid (lncheck_any B b bs w h)
  have HT := Lib.hid (show cellsOf bs ++ Lib.strCells s = cellsOf (bs ++ t) by rw [hs, strCells_strOf, cellsOf_append])
  clear hl hs h
  obtain ⟨cs, hcs⟩ : ∃ cs, cs = cellsOf bs := ⟨_, rfl⟩
  rw [← hcs] at HL HC HT
  clear hcs
  obtain ⟨i0, hi, hz0, hz1, hz2⟩ := info_parts sbw_extra.infoByte
  go_enter Tryz.func57, Tryz.ntmps57
  go_wp2_with (go_at_call 95; refine HC.out.mono ?_)
  rintro e w1 ⟨rfl, h1, hb1, hk1⟩
  have hw1 := hb1.size
  have hlt := h1.lt
  obtain ⟨hB, v, hbk, hown, hne⟩ := h1
  have r0 := Lib.cell_of_heap hbk 0
  have r1 := Lib.cell_of_heap hbk 1
  simp only [List.getElem?_toArray, List.getElem?_cons_zero, List.getElem?_cons_succ] at r0 r1
  go_wp2_with (at_builtin; refine Lib.wpList_append_own_stringF _ rfl _ _ 45 9 rfl B 5 i0 Tryz.underlying45 Tryz.underlying9 hi hz0 hz1 hz2 _ _ _ rfl hown s rfl (by have := HL.out; unfold maxLen; omega) (by have := HL.out; omega) (by omega) ?_)
  intro v2 w2 hown2 hgrow _
  have hk2 := hk1.grown hgrow (Lib.ownsRowF_kind hown)
  have hb2 : w2.heap[b]? = some (.cells #[.pointer (some ⟨b, 0, none⟩), v] 49 (0, 0)) := (hgrow.block b hlt (fun e => hne e.symm)).trans hbk
  have r2 := Lib.cell_of_heap hb2 1
  have f2 := Lib.frozen_of_heap hb2 1
  simp only [List.getElem?_toArray, List.getElem?_cons_zero, List.getElem?_cons_succ] at r2
  have HA := Lib.hid (Lib.BuilderAtF.put (T := 49) (e := 5) (bs' := cs ++ Lib.strCells s) hB hb2 (by rw [List.length_append, Lib.strCells_length]; exact hown2) lines_ne)
  have HF := Lib.hid ((hb1.grown hgrow (by omega) (fun k hk => (hown.lt k hk).1)).setCell (p := ⟨b, 1, none⟩) hB v2)
  have HK := Lib.hid (hk2.setCell ⟨b, 1, none⟩ rfl v2)
  rw [HT.out] at HA
  have hform : ∃ ao n c, v2 = .slice ao n c := by
    rcases hown2.2 with ⟨hv, _⟩ | ⟨g, c, _, _, hv, _⟩
    · exact ⟨_, _, _, hv⟩
    · exact ⟨_, _, _, hv⟩
  obtain ⟨ao, n2, c2, rfl⟩ := hform
  clear hk2 hk1 hb1 hgrow hown hown2 hne hb2 hbk
  go_wp2
  go_ret2
  exact ⟨rfl, .inr HA.out, HF.out, HK.out⟩
end Go.Proofs.YtjogamffdbedkaaGreatDoor
