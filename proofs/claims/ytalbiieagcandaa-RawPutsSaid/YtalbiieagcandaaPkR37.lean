/- Several texts in one: RrE. What each proves, and its conditions, stands at its own head. -/
import Derived.Test.YtalbiieagcandaaPkR20
import Derived.Test.YtalbiieagcandaaPkR36
import Derived.Test.YtalbiieagcandaaPkR3
/- All fields of bytes, read by the document's cursor. Conditions: those that each theorem names. -/
namespace Go.Proofs.Ytalbiieagcandaa
open Go.RowKit
set_option linter.unusedVariables false
set_option maxRecDepth 100000

theorem info_raw : (Try.prog.info? 28).map (fun i => (i.zero, i.size, i.bytes)) = some (some (.agg #[.int .i64 0, .int .i64 0, .int .u64 0, .string ⟨#[]⟩]), 4, 40) := by kernel_rfl
theorem info_int' : (Try.prog.info? 3).map (fun i => (i.zero, i.size, i.bytes)) = some (some (.int .i64 0), 1, 8) := by kernel_rfl

theorem rawCells_one (x : Rw) : ∀ u ∈ rawCells x, u.oneCell' = true := by
  intro u hu
  simp [rawCells] at hu
  rcases hu with rfl | rfl | rfl | rfl <;> rfl
theorem rawRow_snoc (l : List Rw) (x : Rw) : rawRow (l ++ [x]) = rawRow l ++ rawCells x := by simp [rawRow]
theorem ints_snoc (l : List Nat) (k : Nat) : ints (l ++ [k]) = ints l ++ [.int .i64 (k : Int)] := by rw [ints_append]; rfl
theorem news_row (w : World) (cs : List Value) (t : TypeId) : ∀ j u, cs[j]? = some u → (w.alloc (.cells cs.toArray t)).cell? ((⟨w.heap.size, 0, none⟩ : Addr).add j) = some u := fun j u hu => World.news_of_block (heap_alloc_new w _) j u hu

/-- The cursor, and the two lists, in memory. -/
structure GetAt (w0 wr : World) (p g : Nat) (bs : List UInt8) (s : St) (acc : List (Rw × Nat)) (vo va : Value) : Prop where
  ref : Ref w0 wr p g bs s
  out : wr.ownsRow w0.heap.size 28 4 vo acc.length (rawRow (acc.map Prod.fst))
  at_ : wr.ownsRow w0.heap.size 3 1 va acc.length (ints (acc.map Prod.snd))
  ne : va.ownBlock ≠ some g
section
variable {w0 wr : World} {p g : Nat} {bs : List UInt8} {s : St} {acc : List (Rw × Nat)} {vo va : Value}
theorem GetAt.p_out (h : GetAt w0 wr p g bs s acc vo va) (hfr : s.fr ≠ []) : vo.ownBlock ≠ some p ∧ va.ownBlock ≠ some p ∧ vo.ownBlock ≠ some g := by
  obtain ⟨l, r, hlr⟩ : ∃ l r, s.fr = l :: r := by cases hf : s.fr with | nil => exact absurd hf hfr | cons l r => exact ⟨l, r, rfl⟩
  obtain ⟨A, cap, c, _, hp, hst⟩ := ref_some h.ref hlr
  obtain ⟨cur, h1, _⟩ := hst.row
  exact ⟨own_other h.out hp (by decide), own_other h.at_ hp (by decide), own_other h.out h1 (by decide)⟩
/-- Behind one field. -/
theorem GetAt.one (h : GetAt w0 wr p g bs s acc vo va) (hfr : s.fr ≠ []) {w2 : World} {s2 : St} {v : Value} {e : Ending} (hr : RefTo w0 wr p g bs s2 v e w2) : e = .returned v ∧ ∃ g2, GetAt w0 w2 p g2 bs s2 acc vo va := by
  obtain ⟨he, g2, hg2, hr2, ho⟩ := hr
  obtain ⟨n1, n2, n3⟩ := h.p_out hfr
  refine ⟨he, g2, hr2, own_block h.out (fun k hk => ho.block k (h.out.lt k hk).2 (fun e => n1 (e ▸ hk)) (fun e => n3 (e ▸ hk))), own_block h.at_ (fun k hk => ho.block k (h.at_.lt k hk).2 (fun e => n2 (e ▸ hk)) (fun e => h.ne (e ▸ hk))), ?_⟩
  intro hk
  have := h.at_.lt _ hk
  rcases hg2 with rfl | hg
  · exact h.ne hk
  · omega
end
theorem grown_keep {w w' : World} {v : Value} (hg : w.grownBy w' v.ownBlock) {k : Nat} (hk : k < w.heap.size) (hv : v.ownBlock ≠ some k) : w'.heap[k]? = w.heap[k]? := hg.block k hk (fun e => hv e.symm)
/-- The other list, behind the first append. -/
theorem GetAt.at3 {w0 w2 a1 a2 a3 : World} {p g : Nat} {bs : List UInt8} {s : St} {acc : List (Rw × Nat)} {vo va : Value} {o1 o2 : Obj}
    (h : GetAt w0 w2 p g bs s acc vo va) (hfr : s.fr ≠ []) (e1 : a1 = w2.alloc o1) (e2 : a2 = a1.alloc o2) (g3 : a2.grownBy a3 vo.ownBlock) : a3.ownsRow w0.heap.size 3 1 va acc.length (ints (acc.map Prod.snd)) := by
  have s1 : a1.heap.size = w2.heap.size + 1 := by rw [e1]; simp
  have s2 : a2.heap.size = a1.heap.size + 1 := by rw [e2]; simp
  have b12 : Below w2.heap.size w2 a2 := by rw [e2, e1]; exact ((Below.refl _ w2).alloc (Nat.le_refl _) o1).alloc (by simp) o2
  exact own_block h.at_ (fun k hk => by
    have hkl := (h.at_.lt k hk).2
    rw [grown_keep g3 (by omega) (own_own h.out h.at_ (by decide) hk), b12.block k hkl])
/-- Behind both appends. -/
theorem GetAt.more {w0 w2 a1 a2 a3 a4 a5 : World} {p g : Nat} {bs : List UInt8} {s : St} {acc : List (Rw × Nat)} {vo va vo2 va2 : Value} {x : Rw} {at0 : Nat} {o1 o2 o4 : Obj}
    (h : GetAt w0 w2 p g bs s acc vo va) (hfr : s.fr ≠ []) (e1 : a1 = w2.alloc o1) (e2 : a2 = a1.alloc o2)
    (h3 : a3.ownsRow w0.heap.size 28 4 vo2 (acc.length + 1) (rawRow (acc.map Prod.fst) ++ rawCells x)) (g3 : a2.grownBy a3 vo.ownBlock) (m3 : Moved a2 vo vo2)
    (e4 : a4 = a3.alloc o4) (h5 : a5.ownsRow w0.heap.size 3 1 va2 (acc.length + 1) (ints (acc.map Prod.snd) ++ [.int .i64 (at0 : Int)])) (g5 : a4.grownBy a5 va.ownBlock) (m5 : Moved a4 va va2) :
    GetAt w0 a5 p g bs s (acc ++ [(x, at0)]) vo2 va2 := by
  obtain ⟨n1, n2, n3⟩ := h.p_out hfr
  have s1 : a1.heap.size = w2.heap.size + 1 := by rw [e1]; simp
  have s2 : a2.heap.size = a1.heap.size + 1 := by rw [e2]; simp
  have s4 : a4.heap.size = a3.heap.size + 1 := by rw [e4]; simp
  have z3 := g3.size
  have z5 := g5.size
  have hp := h.ref.1.2.2.2.1
  have hg := h.ref.1.2.2.2.2.1
  have hW := h.ref.1.2.2.2.2.2.1.size
  have b12 : Below w2.heap.size w2 a2 := by rw [e2, e1]; exact ((Below.refl _ w2).alloc (Nat.le_refl _) o1).alloc (by simp) o2
  have k2 : ∀ k, k < w2.heap.size → a2.heap[k]? = w2.heap[k]? := fun k hk => b12.block k hk
  have k4 : ∀ k, k < a3.heap.size → a4.heap[k]? = a3.heap[k]? := fun k hk => by rw [e4]; exact Below.heap_alloc _ _ _ hk
  have stay : ∀ k, k < w2.heap.size → vo.ownBlock ≠ some k → va.ownBlock ≠ some k → a5.heap[k]? = w2.heap[k]? := fun k hk i1 i2 => by
    rw [grown_keep g5 (by omega) i2, k4 k (by omega), grown_keep g3 (by omega) i1, k2 k hk]
  have va3 : a3.ownsRow w0.heap.size 3 1 va acc.length (ints (acc.map Prod.snd)) := own_block h.at_ (fun k hk => by
    have hkl := (h.at_.lt k hk).2
    rw [grown_keep g3 (by omega) (own_own h.out h.at_ (by decide) hk), k2 k hkl])
  have hbel : Below w0.heap.size w0 a5 := by
    have q2 := h.ref.1.2.2.2.2.2.1.trans (b12.mono hW)
    have q3 := q2.grown g3 (by omega) (fun k hk => (h.out.lt k hk).1)
    have q4 : Below w0.heap.size w0 a4 := by rw [e4]; exact q3.alloc (by omega) o4
    exact q4.grown g5 (by omega) (fun k hk => (h.at_.lt k hk).1)
  have nvg : va2.ownBlock ≠ some g := by
    rcases m5 with e | ⟨k, e, hk⟩
    · rw [e]; exact h.ne
    · rw [e]; intro e'; injection e' with e'; omega
  refine ⟨h.ref.keep (by omega) hbel (stay p hp n1 n2) (stay g hg n3 h.ne), ?_, ?_, nvg⟩
  · rw [List.length_append, List.map_append, rawRow_append]
    have e : rawRow (List.map Prod.fst [(x, at0)]) = rawCells x := by simp [rawRow]
    rw [e]
    exact own_block h3 (fun k hk => by
      have hkl := (h3.lt k hk).2
      rw [grown_keep g5 (by omega) (own_own va3 h3 (by decide) hk), k4 k hkl])
  · rw [List.length_append, List.map_append, ints_append]
    exact h5

/-- What the document's Get answers. -/
def GetsTo (w : World) (bs : List UInt8) (e : Ending) (w' : World) : Prop :=
  ∃ A cap A' cap', e = .returned (.tuple #[.slice A (getR bs).1.length cap, .slice A' (getR bs).1.length cap', .bool (getR bs).2]) ∧ Raws w' A cap ((getR bs).1.map Prod.fst) ∧ Sl w' A' cap' (ints ((getR bs).1.map Prod.snd)) ∧ Below w.heap.size w w'
theorem gets_end {w w' : World} {bs : List UInt8} {p g : Nat} {s : St} {acc : List (Rw × Nat)} {vo va : Value} {ok : Bool} (h : GetAt w w' p g bs s acc vo va) (he : getR bs = (acc, ok)) : GetsTo w bs (.returned (.tuple #[vo, va, .bool ok])) w' := by
  have ho := h.out
  rw [show acc.length = (acc.map Prod.fst).length by simp] at ho
  obtain ⟨_, A, cap, rfl, hR⟩ := Raws.own ho
  obtain ⟨hn, A', cap', hv, hS⟩ := Sl.own h.at_
  subst hv
  refine ⟨A, cap, A', cap', ?_, by rw [he]; exact hR, by rw [he]; exact hS, h.ref.1.2.2.2.2.2.1⟩
  rw [he, show acc.length = (ints (acc.map Prod.snd)).length from hn]
  simp only [List.length_map]
  rw [← hn]

def sliceLen : Value → Nat
  | .slice _ n _ => n
  | _ => 0
theorem GetAt.bel {w0 wr w' : World} {p g : Nat} {bs : List UInt8} {s : St} {acc : List (Rw × Nat)} {vo va : Value} (h : GetAt w0 wr p g bs s acc vo va) (hb : Below wr.heap.size wr w') : GetAt w0 w' p g bs s acc vo va :=
  ⟨h.ref.bel hb, own_below h.out hb, own_below h.at_ hb, h.ne⟩
theorem GetAt.len {w0 wr : World} {p g : Nat} {bs : List UInt8} {s : St} {acc : List (Rw × Nat)} {vo va : Value} (h : GetAt w0 wr p g bs s acc vo va) : sliceLen vo = acc.length := by
  obtain ⟨A, cap, e, _⟩ := own_form h.out
  rw [e]; rfl
theorem gets_start {w w1 : World} {p g : Nat} {bs : List UInt8} (h : Ref w w1 p g bs ⟨0, [bs.length]⟩) (o1 o2 : Obj) (e1 : o1 = .cells #[] 28 (0, 0)) (e2 : o2 = .cells #[] 3 (0, 0)) :
    GetAt w ((w1.alloc o1).alloc o2) p g bs ⟨0, [bs.length]⟩ [] (.slice (some ⟨w1.heap.size, 0, none⟩) 0 0) (.slice (some ⟨w1.heap.size + 1, 0, none⟩) 0 0) := by
  have hW := h.1.2.2.2.2.2.1.size
  have hg := h.1.2.2.2.2.1
  have hb : Below w1.heap.size w1 ((w1.alloc o1).alloc o2) := ((Below.refl _ w1).alloc (Nat.le_refl _) o1).alloc (by simp) o2
  have hs : (w1.alloc o1).heap.size = w1.heap.size + 1 := by simp
  refine ⟨h.bel hb, ⟨rfl, .inr ⟨w1.heap.size, 0, #[], rfl, hW, ?_, Nat.le_refl _, by decide, rfl, rfl⟩⟩, ⟨rfl, .inr ⟨w1.heap.size + 1, 0, #[], rfl, by omega, ?_, Nat.le_refl _, by decide, rfl, rfl⟩⟩, fun e => by simp [Value.ownBlock] at e; omega⟩
  · rw [Below.heap_alloc _ _ _ (by omega), heap_alloc_new, e1]
  · rw [← hs, heap_alloc_new, e2]

set_option maxHeartbeats 1000000 in
theorem rget_raw (w : World) {A : Option Addr} {cap n : Nat} {bs : List UInt8} (hb : Bs w A cap bs) (hn : n = bs.length) (hl : bs.length ≤ 1000000) :
    Calls Try.prog 18 #[.slice A n cap] w (GetsTo w bs) := by
  obtain ⟨i0, hi, hz0, hz1, hz2⟩ := info_parts info_raw
  obtain ⟨i1, hi1, hy0, hy1, hy2⟩ := info_parts info_int'
  have HF := Lib.hid (rfrom_any A n cap bs w hn hb)
  have HB := Lib.hid hb
  have HL := Lib.hid hl
  clear hb hn hl
  go_enter Try.func18, Try.ntmps18
  go_wp2_with (go_at_call 31; refine HF.out.mono ?_; rintro e w1 ⟨p, g, rfl, hb1, hp1, hg1, hq⟩; have HR1 := Lib.hid (hq w (Nat.le_refl _) (Below.refl _ _) HB.out); have HB1 := Lib.hid hb1; clear hq hb1)
  go_loopw [6, 7, 8, 9] (fun x6 x7 x8 x9 wr => ∃ s acc g vo va, vo = x6 ∧ va = x7 ∧ Half bs s acc ∧ GetAt w wr p g bs s acc vo va) (fun x6 _ _ _ _ => bs.length + 1 - sliceLen x6)
  case atStart => exact ⟨_, _, _, _, _, rfl, rfl, half_start bs, gets_start HR1.out _ _ rfl rfl⟩
  case round =>
    obtain ⟨s, acc, g, vo, va, rfl, rfl, hhalf, hat⟩ := hrel
    have hfr := hhalf.fr
    have HAT := Lib.hid hat
    have HH := Lib.hid hhalf
    have HM := Lib.hid (rmore_ref hat.ref)
    cases hm : s.more with
    | false =>
      rw [hm] at HM
      have HD := Lib.hid (hhalf.done hm)
      clear hfr hhalf hat hm
      go_wp2_with (go_at_call 32; refine HM.out.mono ?_; rintro e w2 ⟨rfl, m, rfl⟩)
      go_ret3
      exact gets_end (HAT.out.bel (drawn_bel _ _)) HD.out
    | true =>
      rw [hm] at HM
      have hne : s.fr ≠ [] := by rw [hfr]; simp
      obtain ⟨Ar, capr, cr, _, hpo, _⟩ := ref_some hat.ref hfr
      have p1 := obj_cell hpo 1
      have p1d : ∀ m, (wr.drewN m).cell? ⟨p, 1, none⟩ = some (.int .i64 (s.at_ : Int)) := fun m => p1
      have hlen := HL.out
      obtain ⟨at0, hat0⟩ : ∃ at0, at0 = s.at_ := ⟨_, rfl⟩
      obtain ⟨x, hx⟩ : ∃ x, x = (oneS bs s).1 := ⟨_, rfl⟩
      obtain ⟨s2, hs2⟩ : ∃ s2, s2 = (oneS bs s).2 := ⟨_, rfl⟩
      have HO : Hid (∀ w', Below wr.heap.size wr w' → Calls Try.prog 33 #[.pointer (some ⟨p, 0, none⟩)] w' fun e w2 => e = .returned (.agg #[.int .i64 x.num, .int .i64 x.wire, .int .u64 (x.n : Int), .string (strOf x.s)]) ∧ ∃ g2, GetAt w w2 p g2 bs s2 acc vo va) :=
        Lib.hid (fun w' hb => (rone_ref (hat.bel hb).ref (by omega)).mono fun e w2 hto => by rw [hx, hs2]; exact (hat.bel hb).one hne hto)
      rw [← hat0] at p1 p1d
      by_cases hbad : s2.fr = []
      · have HD := Lib.hid (hhalf.fail hm (by rw [← hs2]; exact hbad))
        have HBAD := Lib.hid hbad
        clear hfr hhalf hat hm hne hpo hlen hat0 hx hs2 hbad
        obtain ⟨num, wire, m1, st⟩ := x
        go_wp2_with (first
          | (go_at_call 32; refine HM.out.mono ?_; rintro e w2 ⟨rfl, m, rfl⟩)
          | (go_at_call 33
             refine (HO.out _ (drawn_bel _ _)).mono ?_
             rintro e w2 ⟨rfl, g2, ha2⟩
             obtain ⟨A2, c2, _, hp2⟩ := ref_none ha2.ref HBAD.out
             have p3 := obj_cell hp2 3
             have p3a : ∀ o, (w2.alloc o).cell? ⟨p, 3, none⟩ = some (.bool true) := fun o => (World.cell?_alloc_lt _ o ⟨p, 3, none⟩ ha2.ref.1.2.2.2.1).trans p3
             have HA2 := Lib.hid ha2
             clear ha2 hp2))
        go_ret3
        exact gets_end (HA2.out.bel ((Below.refl _ _).alloc (Nat.le_refl _) _)) HD.out
      · have HS := Lib.hid (hhalf.step hm (by rw [← hs2]; exact hbad))
        have HNB := Lib.hid hbad
        have hacc := hhalf.len
        have HLN := Lib.hid hat.len
        rw [← hx, ← hs2, ← hat0] at HS
        have HNEWS : Hid (∀ w2 : World, ∀ o, ∀ j u, (rawCells x)[j]? = some u → ((w2.alloc o).alloc (.cells #[.int .i64 x.num, .int .i64 x.wire, .int .u64 (x.n : Int), .string (strOf x.s)] 28)).cell? ((⟨w2.heap.size + 1, 0, none⟩ : Addr).add j) = some u) := Lib.hid (fun w2 o j u hu => by
          have := news_row (w2.alloc o) (rawCells x) 28 j u hu
          rw [World.size_alloc] at this
          exact this)
        clear hfr hhalf hat hm hne hpo hat0 hx hs2 hbad
        go_wp2_with (first
          | (go_at_call 32; refine HM.out.mono ?_; rintro e w2 ⟨rfl, m, rfl⟩)
          | (go_at_call 33
             refine (HO.out _ (drawn_bel _ _)).mono ?_
             rintro e w2 ⟨rfl, g2, ha2⟩
             obtain ⟨l2, r2, hlr⟩ : ∃ l r, s2.fr = l :: r := by cases hf : s2.fr with | nil => exact absurd hf HNB.out | cons l r => exact ⟨l, r, rfl⟩
             obtain ⟨A2, c2, _, _, hp2, _⟩ := ref_some ha2.ref hlr
             have p3 := obj_cell hp2 3
             have p3a : ∀ o, (w2.alloc o).cell? ⟨p, 3, none⟩ = some (.bool false) := fun o => (World.cell?_alloc_lt _ o ⟨p, 3, none⟩ ha2.ref.1.2.2.2.1).trans p3
             have HA2 := Lib.hid ha2
             have HTK := Lib.hid ha2.out
             have HSZ2 := Lib.hid ha2.ref.1.2.2.2.2.2.1.size
             clear ha2 hp2 hlr)
          | (at_builtin
             have hb12 := ((Below.refl _ w2).alloc (Nat.le_refl _) (.cells #[.int .i64 x.num, .int .i64 x.wire, .int .u64 (x.n : Int), .string (strOf x.s)] 28)).alloc (by simp) (.cells #[.int .i64 x.num, .int .i64 x.wire, .int .u64 (x.n : Int), .string (strOf x.s)] 28)
             refine wpList_append2 rfl _ _ 22 rfl w.heap.size 28 i0 _ 4 40 Try.underlying22 hi hz0 hz1 hz2 rfl (by decide) _ acc.length (rawRow (acc.map Prod.fst)) rfl (own_below HTK.out hb12) ⟨w2.heap.size + 1, 0, none⟩ 1 1 (rawCells x) rfl rfl (HNEWS.out w2 _) (rawCells_one x) (by unfold maxLen; omega) (by omega) (by have := HSZ2.out; simp; omega) ?_
             intro v3 w3 h3 g3 m3
             have H3 := Lib.hid h3
             have G3 := Lib.hid g3
             have M3 := Lib.hid m3
             clear HTK hb12 h3 g3 m3)
          | (at_builtin
             have hs3 := Nat.le_trans (Nat.le_trans HSZ2.out (by simp; omega : w2.heap.size ≤ ((w2.alloc (.cells #[.int .i64 x.num, .int .i64 x.wire, .int .u64 (x.n : Int), .string (strOf x.s)] 28)).alloc (.cells #[.int .i64 x.num, .int .i64 x.wire, .int .u64 (x.n : Int), .string (strOf x.s)] 28)).heap.size)) G3.out.size
             have hva3 : (w3.alloc (.cells #[.int .i64 (at0 : Int)] 3)).ownsRow w.heap.size 3 1 va acc.length (ints (acc.map Prod.snd)) := own_below (GetAt.at3 HA2.out HNB.out rfl rfl G3.out) ((Below.refl _ w3).alloc (Nat.le_refl _) _)
             refine wpList_append2 rfl _ _ 39 rfl w.heap.size 3 i1 _ 1 8 Try.underlying39 hi1 hy0 hy1 hy2 rfl (by decide) _ acc.length (ints (acc.map Prod.snd)) rfl hva3 ⟨w3.heap.size, 0, none⟩ 1 1 [.int .i64 (at0 : Int)] rfl rfl (news_row w3 _ _) (by intro u hu; simp at hu; subst hu; rfl) (by unfold maxLen; omega) (by omega) (by simp; omega) ?_
             intro v5 w5 h5 g5 m5
             have H5 := Lib.hid h5
             have G5 := Lib.hid g5
             have M5 := Lib.hid m5
             clear hs3 hva3 h5 g5 m5))
        go_roundw
        case rel => exact ⟨s2, _, g2, v3, v5, rfl, rfl, HS.out, GetAt.more HA2.out HNB.out rfl rfl H3.out G3.out M3.out rfl H5.out G5.out M5.out⟩
        case measure =>
          have l1 := HLN.out
          obtain ⟨A3, cap3, e3, _⟩ := own_form H3.out
          rw [e3]
          show bs.length + 1 - (acc.length + 1) < bs.length + 1 - sliceLen vo
          omega
end Go.Proofs.Ytalbiieagcandaa
