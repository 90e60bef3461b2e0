/- A cursor and the document's side by side: what one step answers, and where both are then. -/
import Derived.Test.YtclfoiodbjaanaaCurH
import Derived.Test.YtclfoiodbjaanaaRefG
namespace Go.Proofs.Ytclfoiodbjaanaa
open Go.RowKit
set_option linter.unusedVariables false
set_option maxRecDepth 100000

/-- A cursor and the document's, each with memory of its own, from block B on. -/
structure Pair (B : Nat) (W V w : World) (p g q f : Nat) (bs : List UInt8) (s t : St) : Prop where
  c : Cur W w p g bs s
  r : Ref V w q f bs t
  d : p ≠ q ∧ p ≠ f ∧ g ≠ q ∧ g ≠ f
  wr : W.heap.size ≤ q ∧ W.heap.size ≤ f ∧ V.heap.size ≤ p ∧ V.heap.size ≤ g
  b : B ≤ p ∧ B ≤ g ∧ B ≤ q ∧ B ≤ f
theorem Pair.left {B : Nat} {W V w w' : World} {p g q f : Nat} {bs : List UInt8} {s s' t : St} {v : Value} {e : Ending} (h : Pair B W V w p g q f bs s t) (hc : CurTo W w p g bs s' v e w') :
    e = .returned v ∧ ∃ g', Pair B W V w' p g' q f bs s' t ∧ Below B w w' := by
  obtain ⟨he, g', hg', hc', ho⟩ := hc
  obtain ⟨hc, hr, ⟨d1, d2, d3, d4⟩, ⟨w1, w2, w3, w4⟩, ⟨b1, b2, b3, b4⟩⟩ := h
  have l1 := hc.1.2.2.2.1
  have l2 := hr.1.2.2.2.1
  have l3 := hr.1.2.2.2.2.1
  refine ⟨he, g', ⟨hc', hr.other ho w3 w4 d1.symm d3.symm d2.symm d4.symm, ⟨d1, d2, ?_, ?_⟩, ⟨w1, w2, w3, ?_⟩, ⟨b1, ?_, b3, b4⟩⟩, below_only (Below.refl B w) ho b1 b2 (by omega)⟩
  all_goals
    rcases hg' with rfl | hg'
    · assumption
    · omega
theorem Pair.right {B : Nat} {W V w w' : World} {p g q f : Nat} {bs : List UInt8} {s t t' : St} {v : Value} {e : Ending} (h : Pair B W V w p g q f bs s t) (hr : RefTo V w q f bs t' v e w') :
    e = .returned v ∧ ∃ f', Pair B W V w' p g q f' bs s t' ∧ Below B w w' := by
  obtain ⟨he, f', hf', hr', ho⟩ := hr
  obtain ⟨hc, hr, ⟨d1, d2, d3, d4⟩, ⟨w1, w2, w3, w4⟩, ⟨b1, b2, b3, b4⟩⟩ := h
  have l1 := hc.1.2.2.2.1
  have l2 := hr.1.2.2.2.1
  have l3 := hc.1.2.2.2.2.1
  refine ⟨he, f', ⟨hc.other ho w1 w2 d1 d2 d3 d4, hr', ⟨d1, ?_, d3, ?_⟩, ⟨w1, ?_, w3, w4⟩, ⟨b1, b2, b3, ?_⟩⟩, below_only (Below.refl B w) ho b3 b4 (by omega)⟩
  all_goals
    rcases hf' with rfl | hf'
    · assumption
    · omega
theorem Pair.drawn {B : Nat} {W V w : World} {p g q f : Nat} {bs : List UInt8} {s t : St} (h : Pair B W V w p g q f bs s t) (n : Nat) : Pair B W V (w.drewN n) p g q f bs s t ∧ Below B w (w.drewN n) :=
  ⟨⟨h.c.bel (drawn_below w n), h.r.bel (drawn_below w n), h.d, h.wr, h.b⟩, (drawn_below w n).mono (by have := h.b.1; have := h.c.1.2.2.2.1; omega)⟩

/-- The state behind one step. -/
def St.step (k : Nat) (bs : List UInt8) (s : St) : St :=
  match k with
  | 0 => (s.rd tVar 0 bs).2
  | 1 => (s.rd (tFix 4) 0 bs).2
  | 2 => (s.rd (tFix 8) 0 bs).2
  | 3 => (s.rd tText [] bs).2
  | 4 => (s.rd tTag (0, 0) bs).2
  | 5 => s.opens bs
  | 6 => s.shuts.2
  | _ => s
/-- What one step leaves. -/
def Steps (B : Nat) (W V w : World) (p q : Nat) (bs : List UInt8) (s t s' t' : St) (e : Ending) (w' : World) : Prop :=
  ∃ b, e = .returned (.bool b) ∧ (s = t → b = true) ∧ ∃ g' f', Pair B W V w' p g' q f' bs s' t' ∧ Below B w w'
theorem fix4_lt (bs : List UInt8) (s : St) : (s.rd (tFix 4) 0 bs).1 < 4294967296 := by
  unfold St.rd
  split
  · exact (by decide : (0 : Nat) < 4294967296)
  · split
    · exact (by decide : (0 : Nat) < 4294967296)
    · exact getN_lt 4 _
theorem step0_any {B : Nat} {W V w : World} {p g q f : Nat} {bs : List UInt8} {s t : St} (h : Pair B W V w p g q f bs s t) (hlen : bs.length < 1099511627776) :
    Calls Try.prog 9 #[.pointer (some ⟨p, 0, none⟩), .pointer (some ⟨q, 0, none⟩), .int .u8 0] w (Steps B W V w p q bs s t (s.step 0 bs) (t.step 0 bs)) := by
  have hC := Lib.hid (varint_cur h.c)
  have hR := Lib.hid (fun (w : World) f (hr : Ref V w q f bs t) => rvarint_ref hr)
  have H := Lib.hid h
  obtain ⟨x, hx⟩ : ∃ x, x = (s.rd tVar 0 bs).1 := ⟨_, rfl⟩
  obtain ⟨y, hy⟩ : ∃ y, y = (t.rd tVar 0 bs).1 := ⟨_, rfl⟩
  have hxy : Hid (s = t → x = y) := by intro e; rw [hx, hy, e]
  rw [← hx] at hC
  rw [← hy] at hR
  clear hx hy
  clear h
  go_enter Try.func9, Try.ntmps9
  go_wp2_with (first
    | (go_at_call 15; refine hC.out.mono ?_; rintro e w1 hto; obtain ⟨rfl, g1, hp1, hb1⟩ := H.out.left hto; have HP1 := Lib.hid hp1; clear hp1 hto)
    | (go_at_call 21; refine (hR.out _ _ HP1.out.r).mono ?_; rintro e w2 hto; obtain ⟨rfl, f2, hp2, hb2⟩ := HP1.out.right hto; have HP2 := Lib.hid hp2; clear hp2 hto))
  go_ret
  exact ⟨_, rfl, fun e => by rw [hxy.out e]; simp, g1, f2, HP2.out, hb1.trans hb2⟩
theorem step1_any {B : Nat} {W V w : World} {p g q f : Nat} {bs : List UInt8} {s t : St} (h : Pair B W V w p g q f bs s t) (hlen : bs.length < 1099511627776) :
    Calls Try.prog 9 #[.pointer (some ⟨p, 0, none⟩), .pointer (some ⟨q, 0, none⟩), .int .u8 1] w (Steps B W V w p q bs s t (s.step 1 bs) (t.step 1 bs)) := by
  have hC := Lib.hid (four_cur h.c)
  have hR := Lib.hid (fun (w : World) f (hr : Ref V w q f bs t) => rfixed_ref 4 (by decide) (by decide) hr)
  have H := Lib.hid h
  have hx4 := fix4_lt bs s
  have hxw : IntKind.u64.wrap (((s.rd (tFix 4) 0 bs).1 : Nat) : Int) = (((s.rd (tFix 4) 0 bs).1 : Nat) : Int) := IntWalk.u64_in _ (by omega)
  obtain ⟨x, hx⟩ : ∃ x, x = (s.rd (tFix 4) 0 bs).1 := ⟨_, rfl⟩
  obtain ⟨y, hy⟩ : ∃ y, y = (t.rd (tFix 4) 0 bs).1 := ⟨_, rfl⟩
  have hxy : Hid (s = t → x = y) := by intro e; rw [hx, hy, e]
  rw [← hx] at hC hxw
  rw [← hy] at hR
  clear hx hy hx4
  clear h
  go_enter Try.func9, Try.ntmps9
  go_wp2_with (first
    | (go_at_call 22; refine hC.out.mono ?_; rintro e w1 hto; obtain ⟨rfl, g1, hp1, hb1⟩ := H.out.left hto; have HP1 := Lib.hid hp1; clear hp1 hto)
    | (go_at_call 23; refine (hR.out _ _ HP1.out.r).mono ?_; rintro e w2 hto; obtain ⟨rfl, f2, hp2, hb2⟩ := HP1.out.right hto; have HP2 := Lib.hid hp2; clear hp2 hto))
  go_ret
  exact ⟨_, rfl, fun e => by rw [hxy.out e]; simp, g1, f2, HP2.out, hb1.trans hb2⟩
theorem step2_any {B : Nat} {W V w : World} {p g q f : Nat} {bs : List UInt8} {s t : St} (h : Pair B W V w p g q f bs s t) (hlen : bs.length < 1099511627776) :
    Calls Try.prog 9 #[.pointer (some ⟨p, 0, none⟩), .pointer (some ⟨q, 0, none⟩), .int .u8 2] w (Steps B W V w p q bs s t (s.step 2 bs) (t.step 2 bs)) := by
  have hC := Lib.hid (eight_cur h.c)
  have hR := Lib.hid (fun (w : World) f (hr : Ref V w q f bs t) => rfixed_ref 8 (by decide) (by decide) hr)
  have H := Lib.hid h
  obtain ⟨x, hx⟩ : ∃ x, x = (s.rd (tFix 8) 0 bs).1 := ⟨_, rfl⟩
  obtain ⟨y, hy⟩ : ∃ y, y = (t.rd (tFix 8) 0 bs).1 := ⟨_, rfl⟩
  have hxy : Hid (s = t → x = y) := by intro e; rw [hx, hy, e]
  rw [← hx] at hC
  rw [← hy] at hR
  clear hx hy
  clear h
  go_enter Try.func9, Try.ntmps9
  go_wp2_with (first
    | (go_at_call 24; refine hC.out.mono ?_; rintro e w1 hto; obtain ⟨rfl, g1, hp1, hb1⟩ := H.out.left hto; have HP1 := Lib.hid hp1; clear hp1 hto)
    | (go_at_call 23; refine (hR.out _ _ HP1.out.r).mono ?_; rintro e w2 hto; obtain ⟨rfl, f2, hp2, hb2⟩ := HP1.out.right hto; have HP2 := Lib.hid hp2; clear hp2 hto))
  go_ret
  exact ⟨_, rfl, fun e => by rw [hxy.out e]; simp, g1, f2, HP2.out, hb1.trans hb2⟩
theorem step3_any {B : Nat} {W V w : World} {p g q f : Nat} {bs : List UInt8} {s t : St} (h : Pair B W V w p g q f bs s t) (hlen : bs.length < 1099511627776) :
    Calls Try.prog 9 #[.pointer (some ⟨p, 0, none⟩), .pointer (some ⟨q, 0, none⟩), .int .u8 3] w (Steps B W V w p q bs s t (s.step 3 bs) (t.step 3 bs)) := by
  have hC := Lib.hid (text_cur h.c)
  have hR := Lib.hid (fun (w : World) f (hr : Ref V w q f bs t) => text_ref hr (by omega))
  have H := Lib.hid h
  obtain ⟨x, hx⟩ : ∃ x, x = (s.rd tText [] bs).1 := ⟨_, rfl⟩
  obtain ⟨y, hy⟩ : ∃ y, y = (t.rd tText [] bs).1 := ⟨_, rfl⟩
  have hxy : Hid (s = t → x = y) := by intro e; rw [hx, hy, e]
  rw [← hx] at hC
  rw [← hy] at hR
  clear hx hy
  clear h
  go_enter Try.func9, Try.ntmps9
  go_wp2_with (first
    | (go_at_call 16; refine hC.out.mono ?_; rintro e w1 hto; obtain ⟨rfl, g1, hp1, hb1⟩ := H.out.left hto; have HP1 := Lib.hid hp1; clear hp1 hto)
    | (go_at_call 25; refine (hR.out _ _ HP1.out.r).mono ?_; rintro e w2 hto; obtain ⟨rfl, f2, hp2, hb2⟩ := HP1.out.right hto; have HP2 := Lib.hid hp2; clear hp2 hto))
  go_ret
  exact ⟨_, rfl, fun e => by rw [hxy.out e]; simp, g1, f2, HP2.out, hb1.trans hb2⟩
theorem step4_any {B : Nat} {W V w : World} {p g q f : Nat} {bs : List UInt8} {s t : St} (h : Pair B W V w p g q f bs s t) (hlen : bs.length < 1099511627776) :
    Calls Try.prog 9 #[.pointer (some ⟨p, 0, none⟩), .pointer (some ⟨q, 0, none⟩), .int .u8 4] w (Steps B W V w p q bs s t (s.step 4 bs) (t.step 4 bs)) := by
  have hC := Lib.hid (tag_cur h.c)
  have hR := Lib.hid (fun (w : World) f (hr : Ref V w q f bs t) => rtag_ref hr)
  have H := Lib.hid h
  obtain ⟨x, hx⟩ : ∃ x, x = (s.rd tTag (0, 0) bs).1 := ⟨_, rfl⟩
  obtain ⟨y, hy⟩ : ∃ y, y = (t.rd tTag (0, 0) bs).1 := ⟨_, rfl⟩
  have hxy : Hid (s = t → x = y) := by intro e; rw [hx, hy, e]
  rw [← hx] at hC
  rw [← hy] at hR
  clear hx hy
  clear h
  go_enter Try.func9, Try.ntmps9
  go_wp2_with (first
    | (go_at_call 26; refine hC.out.mono ?_; rintro e w1 hto; obtain ⟨rfl, g1, hp1, hb1⟩ := H.out.left hto; have HP1 := Lib.hid hp1; clear hp1 hto)
    | (go_at_call 27; refine (hR.out _ _ HP1.out.r).mono ?_; rintro e w2 hto; obtain ⟨rfl, f2, hp2, hb2⟩ := HP1.out.right hto; have HP2 := Lib.hid hp2; clear hp2 hto))
  all_goals
    go_ret
    exact ⟨_, rfl, fun e => by first | (rw [hxy.out e]; simp; done) | (exfalso; rename_i hx; rw [hxy.out e] at hx; simp at hx; done) | (have e2 := hxy.out e; subst e2; simp_all), g1, f2, HP2.out, hb1.trans hb2⟩
theorem step5_any {B : Nat} {W V w : World} {p g q f : Nat} {bs : List UInt8} {s t : St} (h : Pair B W V w p g q f bs s t) (hlen : bs.length < 1099511627776) :
    Calls Try.prog 9 #[.pointer (some ⟨p, 0, none⟩), .pointer (some ⟨q, 0, none⟩), .int .u8 5] w (Steps B W V w p q bs s t (s.step 5 bs) (t.step 5 bs)) := by
  have hC := Lib.hid (open_cur h.c hlen)
  have hR := Lib.hid (fun (w : World) f (hr : Ref V w q f bs t) => ropen_ref hr hlen)
  have H := Lib.hid h
  obtain ⟨x, hx⟩ : ∃ x, x = (s.opens bs).oks := ⟨_, rfl⟩
  obtain ⟨y, hy⟩ : ∃ y, y = (t.opens bs).oks := ⟨_, rfl⟩
  have hxy : Hid (s = t → x = y) := by intro e; rw [hx, hy, e]
  rw [← hx] at hC
  rw [← hy] at hR
  clear hx hy
  clear h
  go_enter Try.func9, Try.ntmps9
  go_wp2_with (first
    | (go_at_call 17; refine hC.out.mono ?_; rintro e w1 hto; obtain ⟨rfl, g1, hp1, hb1⟩ := H.out.left hto; have HP1 := Lib.hid hp1; clear hp1 hto)
    | (go_at_call 28; refine (hR.out _ _ HP1.out.r).mono ?_; rintro e w2 hto; obtain ⟨rfl, f2, hp2, hb2⟩ := HP1.out.right hto; have HP2 := Lib.hid hp2; clear hp2 hto))
  go_ret
  exact ⟨_, rfl, fun e => by rw [hxy.out e]; simp, g1, f2, HP2.out, hb1.trans hb2⟩
theorem step6_any {B : Nat} {W V w : World} {p g q f : Nat} {bs : List UInt8} {s t : St} (h : Pair B W V w p g q f bs s t) (hlen : bs.length < 1099511627776) :
    Calls Try.prog 9 #[.pointer (some ⟨p, 0, none⟩), .pointer (some ⟨q, 0, none⟩), .int .u8 6] w (Steps B W V w p q bs s t (s.step 6 bs) (t.step 6 bs)) := by
  have hC := Lib.hid (close_cur h.c)
  have hR := Lib.hid (fun (w : World) f (hr : Ref V w q f bs t) => rclose_ref hr)
  have H := Lib.hid h
  obtain ⟨x, hx⟩ : ∃ x, x = (s.shuts).1 := ⟨_, rfl⟩
  obtain ⟨y, hy⟩ : ∃ y, y = (t.shuts).1 := ⟨_, rfl⟩
  have hxy : Hid (s = t → x = y) := by intro e; rw [hx, hy, e]
  rw [← hx] at hC
  rw [← hy] at hR
  clear hx hy
  clear h
  go_enter Try.func9, Try.ntmps9
  go_wp2_with (first
    | (go_at_call 18; refine hC.out.mono ?_; rintro e w1 hto; obtain ⟨rfl, g1, hp1, hb1⟩ := H.out.left hto; have HP1 := Lib.hid hp1; clear hp1 hto)
    | (go_at_call 29; refine (hR.out _ _ HP1.out.r).mono ?_; rintro e w2 hto; obtain ⟨rfl, f2, hp2, hb2⟩ := HP1.out.right hto; have HP2 := Lib.hid hp2; clear hp2 hto))
  go_ret
  exact ⟨_, rfl, fun e => by rw [hxy.out e]; simp, g1, f2, HP2.out, hb1.trans hb2⟩
theorem step7_any {B : Nat} {W V w : World} {p g q f : Nat} {bs : List UInt8} {s t : St} (k : Nat) (hk : 7 ≤ k) (h : Pair B W V w p g q f bs s t) (hlen : bs.length < 1099511627776) :
    Calls Try.prog 9 #[.pointer (some ⟨p, 0, none⟩), .pointer (some ⟨q, 0, none⟩), .int .u8 (k : Int)] w (Steps B W V w p q bs s t s t) := by
  have hC := Lib.hid (more_cur h.c)
  have hR := Lib.hid (fun (w : World) (hr : Ref V w q f bs t) => rmore_ref hr)
  have H := Lib.hid h
  obtain ⟨x, hx⟩ : ∃ x, x = s.more := ⟨_, rfl⟩
  obtain ⟨y, hy⟩ : ∃ y, y = t.more := ⟨_, rfl⟩
  have hxy : Hid (s = t → x = y) := by intro e; rw [hx, hy, e]
  rw [← hx] at hC
  rw [← hy] at hR
  have n0 : ((k : Int) == 0) = false := by simp; omega
  have n1 : ((k : Int) == 1) = false := by simp; omega
  have n2 : ((k : Int) == 2) = false := by simp; omega
  have n3 : ((k : Int) == 3) = false := by simp; omega
  have n4 : ((k : Int) == 4) = false := by simp; omega
  have n5 : ((k : Int) == 5) = false := by simp; omega
  have n6 : ((k : Int) == 6) = false := by simp; omega
  clear hx hy h hk
  go_enter Try.func9, Try.ntmps9
  go_wp2_with (first
    | (go_at_call 14; refine hC.out.mono ?_; rintro e w1 ⟨rfl, n, rfl⟩; have HP1 := Lib.hid (H.out.drawn n))
    | (go_at_call 30; refine (hR.out _ HP1.out.1.r).mono ?_; rintro e w2 ⟨rfl, n2, hw2⟩; have hp2 := HP1.out.1.drawn n2; rw [← hw2] at hp2; have HP2 := Lib.hid hp2; clear hw2 hp2))
  all_goals
    go_ret
    exact ⟨_, rfl, fun e => by first | (rw [hxy.out e]; simp; done) | (have e2 := hxy.out e; subst e2; simp_all), g, f, HP2.out.1, HP1.out.2.trans HP2.out.2⟩

theorem read_any {B : Nat} {W V w : World} {p g q f : Nat} {bs : List UInt8} {s t : St} (k : Nat) (h : Pair B W V w p g q f bs s t) (hlen : bs.length < 1099511627776) :
    Calls Try.prog 9 #[.pointer (some ⟨p, 0, none⟩), .pointer (some ⟨q, 0, none⟩), .int .u8 (k : Int)] w (Steps B W V w p q bs s t (s.step k bs) (t.step k bs)) := by
  match k with
  | 0 => exact step0_any h hlen
  | 1 => exact step1_any h hlen
  | 2 => exact step2_any h hlen
  | 3 => exact step3_any h hlen
  | 4 => exact step4_any h hlen
  | 5 => exact step5_any h hlen
  | 6 => exact step6_any h hlen
  | k + 7 => exact step7_any (k + 7) (by omega) h hlen
end Go.Proofs.Ytclfoiodbjaanaa
