/- Several texts in one: CurD, CurE. What each proves, and its conditions, stands at its own head. -/
import Derived.Test.YtalbiieagcandaaPkR28
import Derived.Test.YtalbiieagcandaaPkR22
/- A cursor in memory and its state; what Varint, Fixed4, Fixed8, Text, Tag read. -/
namespace Go.Proofs.Ytalbiieagcandaa
open Go.RowKit
set_option linter.unusedVariables false
set_option maxRecDepth 100000

/-- The cursor at block p is in state s; its frames' list lies in block g; its bytes lay in the world W, of which nothing has turned. -/
def Cur (W w : World) (p g : Nat) (bs : List UInt8) (s : St) : Prop :=
  (W.heap.size ≤ p ∧ W.heap.size ≤ g ∧ p ≠ g ∧ p < w.heap.size ∧ g < w.heap.size ∧ Below W.heap.size W w ∧ Right bs s) ∧
  ((s.fr = [] ∧ w.heap[p]? = some (.cells zeroC 73 (0, 0))) ∨
   ∃ l r A cap c, s.fr = l :: r ∧ Bs W A cap bs ∧ w.heap[p]? = some (.cells #[.slice A bs.length cap, .int .i64 (s.at_ : Int), .slice (some ⟨g, 0, none⟩) (r.length + 1) c] 73 (0, 0)) ∧ Stk w g c (l :: r).reverse)

/-- What a call of the cursor's answers, and what it leaves. -/
def CurTo (W w : World) (p g : Nat) (bs : List UInt8) (s : St) (v : Value) (e : Ending) (w' : World) : Prop :=
  e = .returned v ∧ ∃ g', (g' = g ∨ g' ≥ w.heap.size) ∧ Cur W w' p g' bs s ∧ Only p g w w'

/-- Nothing of the cursor's turned. -/
theorem Cur.keep {W w w' : World} {p g : Nat} {bs : List UInt8} {s : St} (h : Cur W w p g bs s) (hs : w.heap.size ≤ w'.heap.size) (hb : Below W.heap.size W w') (hp : w'.heap[p]? = w.heap[p]?) (hg : w'.heap[g]? = w.heap[g]?) : Cur W w' p g bs s := by
  obtain ⟨⟨h1, h2, h3, h4, h5, h6, h7⟩, h8⟩ := h
  refine ⟨⟨h1, h2, h3, by omega, by omega, hb, h7⟩, ?_⟩
  rcases h8 with ⟨a, b⟩ | ⟨l, r, A, cap, c, a, b, d, e⟩
  · exact .inl ⟨a, hp.trans b⟩
  · exact .inr ⟨l, r, A, cap, c, a, b, hp.trans d, e.keep hg⟩
theorem Cur.bel {W w w' : World} {p g : Nat} {bs : List UInt8} {s : St} (h : Cur W w p g bs s) (hb : Below w.heap.size w w') : Cur W w' p g bs s :=
  h.keep hb.size (h.1.2.2.2.2.2.1.trans (hb.mono (by have := h.1.1; have := h.1.2.2.2.1; omega))) (hb.block p h.1.2.2.2.1) (hb.block g h.1.2.2.2.2.1)
/-- Another's blocks turned. -/
theorem Cur.other {W w w' : World} {p g p' g' : Nat} {bs : List UInt8} {s : St} (h : Cur W w p g bs s) (ho : Only p' g' w w') (h1 : W.heap.size ≤ p') (h2 : W.heap.size ≤ g') (d1 : p ≠ p') (d2 : p ≠ g') (d3 : g ≠ p') (d4 : g ≠ g') : Cur W w' p g bs s :=
  h.keep ho.size (below_only h.1.2.2.2.2.2.1 ho h1 h2 (by have := h.1.1; have := h.1.2.2.2.1; omega)) (ho.block p h.1.2.2.2.1 d1 d2) (ho.block g h.1.2.2.2.2.1 d3 d4)

/-- Behind a read. -/
theorem cur_read0 {α : Type} {take : List UInt8 → α × Nat} {z : α} {v0 v1 : Value} {W w w' : World} {p g c l : Nat} {r : List Nat} {bs : List UInt8} {s : St} {A : Option Addr} {cap : Nat} {Q : World → Prop} {e : Ending}
    (h : Cur W w p g bs s) (ht : ∀ b, (take b).2 ≤ b.length) (hfr : s.fr = l :: r) (hb : Bs W A cap bs) (hs : Stk w g c (l :: r).reverse)
    (hQ : ∀ w1, Q w1 → Below W.heap.size W w1 ∧ w.heap.size ≤ w1.heap.size ∧ w1.heap[g]? = w.heap[g]?)
    (hr : ReadEnd p v0 v1 (.slice A bs.length cap) (.slice (some ⟨g, 0, none⟩) (r.length + 1) c) s.at_ (take (segOf bs s.at_ l)).2 Q e w') :
    ∃ w1, Q w1 ∧ Only p p w1 w' ∧ Cur W w' p g bs (s.rd take z bs).2 ∧ (((take (segOf bs s.at_ l)).2 = 0 ∧ e = .returned v0 ∧ (s.rd take z bs).1 = z) ∨ ((take (segOf bs s.at_ l)).2 ≠ 0 ∧ e = .returned v1 ∧ (s.rd take z bs).1 = (take (segOf bs s.at_ l)).1)) := by
  have hR := right_rd (take := take) (z := z) h.1.2.2.2.2.2.2 ht
  obtain ⟨⟨h1, h2, h3, h4, h5, h6, h7⟩, _⟩ := h
  obtain ⟨w1, q, ho, hn, hsm⟩ := hr
  obtain ⟨hw1, hsz, hg1⟩ := hQ w1 q
  have hw' : Below W.heap.size W w' := below_only hw1 ho h1 h1 (by omega)
  have hsz' := ho.size
  have hgk : w'.heap[g]? = w.heap[g]? := (ho.block g (by omega) (fun e => h3 e.symm) (fun e => h3 e.symm)).trans hg1
  refine ⟨w1, q, ho, ?_⟩
  unfold St.rd at hR ⊢
  rw [hfr] at hR ⊢
  dsimp only at hR ⊢
  by_cases hz : (take (segOf bs s.at_ l)).2 = 0
  · obtain ⟨he, hp⟩ := hn hz
    rw [if_pos hz] at hR ⊢
    exact ⟨⟨⟨h1, h2, h3, by omega, by omega, hw', hR⟩, .inl ⟨rfl, hp⟩⟩, .inl ⟨hz, he, rfl⟩⟩
  · obtain ⟨he, hp⟩ := hsm hz
    rw [if_neg hz] at hR ⊢
    exact ⟨⟨⟨h1, h2, h3, by omega, by omega, hw', hR⟩, .inr ⟨l, r, A, cap, c, rfl, hb, hp, hs.keep hgk⟩⟩, .inr ⟨hz, he, rfl⟩⟩
theorem cur_read {α : Type} {take : List UInt8 → α × Nat} {z : α} {enc : α → Value} {W w w' : World} {p g c l : Nat} {r : List Nat} {bs : List UInt8} {s : St} {A : Option Addr} {cap : Nat} {Q : World → Prop} {e : Ending}
    (h : Cur W w p g bs s) (ht : ∀ b, (take b).2 ≤ b.length) (hfr : s.fr = l :: r) (hb : Bs W A cap bs) (hs : Stk w g c (l :: r).reverse)
    (hQ : ∀ w1, Q w1 → Below w.heap.size w w1)
    (hr : ReadEnd p (enc z) (enc (take (segOf bs s.at_ l)).1) (.slice A bs.length cap) (.slice (some ⟨g, 0, none⟩) (r.length + 1) c) s.at_ (take (segOf bs s.at_ l)).2 Q e w') :
    CurTo W w p g bs (s.rd take z bs).2 (enc (s.rd take z bs).1) e w' := by
  obtain ⟨w1, q, ho, hc, he⟩ := cur_read0 (z := z) h ht hfr hb hs (fun w1 q => ⟨h.1.2.2.2.2.2.1.trans ((hQ w1 q).mono (by have := h.1.1; have := h.1.2.2.2.1; omega)), (hQ w1 q).size, (hQ w1 q).block g h.1.2.2.2.2.1⟩) hr
  refine ⟨?_, g, .inl rfl, hc, (Only.of_below (hQ w1 q)).trans ⟨ho.os, ho.tape, ho.output, ho.size, fun k hk a _ => ho.block k hk a a⟩⟩
  rcases he with ⟨_, he, h1⟩ | ⟨_, he, h1⟩
  · rw [he, h1]
  · rw [he, h1]
/-- The bytes that a read is handed. -/
theorem cur_seg {W w : World} {p g l : Nat} {r : List Nat} {bs : List UInt8} {s : St} {A : Option Addr} {cap : Nat} (h : Cur W w p g bs s) (hfr : s.fr = l :: r) (hb : Bs W A cap bs) (w1 : World) (hw : Below w.heap.size w w1) :
    l - s.at_ = (segOf bs s.at_ l).length ∧ Bs w1 (if cap = s.at_ then A else A.map (·.add s.at_)) (cap - s.at_) (segOf bs s.at_ l) ∧ s.at_ ≤ l ∧ l ≤ bs.length ∧ bs.length ≤ cap ∧ cap ≤ 9223372036854775807 := by
  obtain ⟨⟨h1, h2, h3, h4, h5, h6, h7⟩, _⟩ := h
  unfold Right at h7
  rw [hfr] at h7
  obtain ⟨r1, r2, r3, r4⟩ := h7
  have hm := hb.max
  unfold maxLen at hm
  refine ⟨(segOf_length r2).symm, ?_, r1, r2, hb.le, by omega⟩
  have hb1 : Bs w1 A cap bs := hb.below (h6.trans (hw.mono (by omega))) (Nat.le_refl _)
  exact (hb1.take l).cut s.at_ (by simp; omega)
theorem drawn_below (w : World) (n : Nat) : Below w.heap.size w (w.drewN n) := ⟨rfl, rfl, rfl, Nat.le_refl _, fun _ _ => rfl⟩

/-- A cursor that failed reads nothing. -/
theorem cur_still {W w : World} {p g : Nat} {bs : List UInt8} {s : St} {v : Value} {e : Ending} (h : Cur W w p g bs s) (he : e = .returned v) : CurTo W w p g bs s v e w := ⟨he, g, .inl rfl, h, Only.refl _ _ _⟩

theorem rd_uint64 {W w : World} {p g : Nat} {bs : List UInt8} {s : St} (h : Cur W w p g bs s) (take : List UInt8 → Nat × Nat) (ht : ∀ b, (take b).2 ≤ b.length) (k : Nat) (hk : Enters Try.prog k)
    (hT : ∀ (A : Option Addr) (n cap : Nat) (b : List UInt8) (w : World), n = b.length → Bs w A cap b → Calls Try.prog k #[.slice A n cap] w fun e w' => e = .returned (.tuple #[(.int .u64 (((take b).1 : Nat) : Int)), .int .i64 ((take b).2 : Int)]) ∧ Below w.heap.size w w') :
    Calls Try.prog 77 #[.pointer (some ⟨p, 0, none⟩), .func (.func k) #[] #[]] w (CurTo W w p g bs (s.rd take 0 bs).2 (.int .u64 (((s.rd take 0 bs).1 : Nat) : Int))) := by
  rcases h.2 with ⟨a, b⟩ | ⟨l, r, A, cap, c, hfr, hb, hp, hst⟩
  · refine (read_uint64_none p _ _ _ _ _ w b).mono ?_
    rintro e w' ⟨rfl, rfl⟩
    have e1 : s.rd take 0 bs = (0, s) := by unfold St.rd; rw [a]
    rw [e1]
    exact cur_still h rfl
  · have hseg := fun w1 hw => cur_seg h hfr hb w1 hw
    obtain ⟨l1, _, l2, l3, l4, l5⟩ := hseg w (Below.refl _ _)
    have hm := ht (segOf bs s.at_ l)
    rw [← l1] at hm
    refine (read_uint64_some p A bs.length cap s.at_ g c l r w hp hst l2 l3 l4 l5 k #[] hk (.int .u64 (((take (segOf bs s.at_ l)).1 : Nat) : Int)) (take (segOf bs s.at_ l)).2 (by omega) (fun w1 => Below w.heap.size w w1) (fun n => ?_) (fun w1 hw => ⟨hw.block p h.1.2.2.2.1, hw.block g h.1.2.2.2.2.1⟩)).mono ?_
    · refine (hT _ _ _ _ _ l1 (hseg _ (drawn_below w n)).2.1).mono ?_
      rintro e w' ⟨rfl, hw⟩
      exact ⟨rfl, (drawn_below w n).trans hw⟩
    · intro e w' he
      exact cur_read (enc := fun n : Nat => Value.int .u64 (n : Int)) (z := 0) h ht hfr hb hst (fun _ hw => hw) he
theorem rd_uint32 {W w : World} {p g : Nat} {bs : List UInt8} {s : St} (h : Cur W w p g bs s) (take : List UInt8 → Nat × Nat) (ht : ∀ b, (take b).2 ≤ b.length) (k : Nat) (hk : Enters Try.prog k)
    (hT : ∀ (A : Option Addr) (n cap : Nat) (b : List UInt8) (w : World), n = b.length → Bs w A cap b → Calls Try.prog k #[.slice A n cap] w fun e w' => e = .returned (.tuple #[(.int .u32 (((take b).1 : Nat) : Int)), .int .i64 ((take b).2 : Int)]) ∧ Below w.heap.size w w') :
    Calls Try.prog 87 #[.pointer (some ⟨p, 0, none⟩), .func (.func k) #[] #[]] w (CurTo W w p g bs (s.rd take 0 bs).2 (.int .u32 (((s.rd take 0 bs).1 : Nat) : Int))) := by
  rcases h.2 with ⟨a, b⟩ | ⟨l, r, A, cap, c, hfr, hb, hp, hst⟩
  · refine (read_uint32_none p _ _ _ _ _ w b).mono ?_
    rintro e w' ⟨rfl, rfl⟩
    have e1 : s.rd take 0 bs = (0, s) := by unfold St.rd; rw [a]
    rw [e1]
    exact cur_still h rfl
  · have hseg := fun w1 hw => cur_seg h hfr hb w1 hw
    obtain ⟨l1, _, l2, l3, l4, l5⟩ := hseg w (Below.refl _ _)
    have hm := ht (segOf bs s.at_ l)
    rw [← l1] at hm
    refine (read_uint32_some p A bs.length cap s.at_ g c l r w hp hst l2 l3 l4 l5 k #[] hk (.int .u32 (((take (segOf bs s.at_ l)).1 : Nat) : Int)) (take (segOf bs s.at_ l)).2 (by omega) (fun w1 => Below w.heap.size w w1) (fun n => ?_) (fun w1 hw => ⟨hw.block p h.1.2.2.2.1, hw.block g h.1.2.2.2.2.1⟩)).mono ?_
    · refine (hT _ _ _ _ _ l1 (hseg _ (drawn_below w n)).2.1).mono ?_
      rintro e w' ⟨rfl, hw⟩
      exact ⟨rfl, (drawn_below w n).trans hw⟩
    · intro e w' he
      exact cur_read (enc := fun n : Nat => Value.int .u32 (n : Int)) (z := 0) h ht hfr hb hst (fun _ hw => hw) he
theorem rd_string {W w : World} {p g : Nat} {bs : List UInt8} {s : St} (h : Cur W w p g bs s) (take : List UInt8 → List UInt8 × Nat) (ht : ∀ b, (take b).2 ≤ b.length) (k : Nat) (hk : Enters Try.prog k)
    (hT : ∀ (A : Option Addr) (n cap : Nat) (b : List UInt8) (w : World), n = b.length → Bs w A cap b → Calls Try.prog k #[.slice A n cap] w fun e w' => e = .returned (.tuple #[(.string (strOf (take b).1)), .int .i64 ((take b).2 : Int)]) ∧ Below w.heap.size w w') :
    Calls Try.prog 84 #[.pointer (some ⟨p, 0, none⟩), .func (.func k) #[] #[]] w (CurTo W w p g bs (s.rd take [] bs).2 (.string (strOf (s.rd take [] bs).1))) := by
  rcases h.2 with ⟨a, b⟩ | ⟨l, r, A, cap, c, hfr, hb, hp, hst⟩
  · refine (read_string_none p _ _ _ _ _ w b).mono ?_
    rintro e w' ⟨rfl, rfl⟩
    have e1 : s.rd take [] bs = ([], s) := by unfold St.rd; rw [a]
    rw [e1]
    exact cur_still h rfl
  · have hseg := fun w1 hw => cur_seg h hfr hb w1 hw
    obtain ⟨l1, _, l2, l3, l4, l5⟩ := hseg w (Below.refl _ _)
    have hm := ht (segOf bs s.at_ l)
    rw [← l1] at hm
    refine (read_string_some p A bs.length cap s.at_ g c l r w hp hst l2 l3 l4 l5 k #[] hk (.string (strOf (take (segOf bs s.at_ l)).1)) (take (segOf bs s.at_ l)).2 (by omega) (fun w1 => Below w.heap.size w w1) (fun n => ?_) (fun w1 hw => ⟨hw.block p h.1.2.2.2.1, hw.block g h.1.2.2.2.2.1⟩)).mono ?_
    · refine (hT _ _ _ _ _ l1 (hseg _ (drawn_below w n)).2.1).mono ?_
      rintro e w' ⟨rfl, hw⟩
      exact ⟨rfl, (drawn_below w n).trans hw⟩
    · intro e w' he
      exact cur_read (enc := fun b : List UInt8 => Value.string (strOf b)) (z := []) h ht hfr hb hst (fun _ hw => hw) he
end Go.Proofs.Ytalbiieagcandaa

/- What Varint, Fixed4, Fixed8, Text answer, and what they leave. -/
namespace Go.Proofs.Ytalbiieagcandaa
open Go.RowKit
set_option linter.unusedVariables false
set_option maxRecDepth 100000

theorem enters_varint : Enters Try.prog 79 := enters_of Try.func79 (by kernel_rfl) rfl
theorem varint_cur {W w : World} {p g : Nat} {bs : List UInt8} {s : St} (h : Cur W w p g bs s) :
    Calls Try.prog 62 #[.pointer (some ⟨p, 0, none⟩)] w (CurTo W w p g bs (s.rd tVar 0 bs).2 (.int .u64 (((s.rd tVar 0 bs).1 : Nat) : Int))) := by
  have hR := Lib.hid (rd_uint64 h tVar (tVar_le) 79 enters_varint (fun A n cap b w hn hb => (get_n A n cap b w hn hb).mono fun _ _ ⟨he, hw⟩ => ⟨he, hw ▸ Below.refl _ _⟩))
  clear h
  go_enter Try.func62, Try.ntmps62
  go_wp2_with (go_at_call 77; refine hR.out.mono ?_; rintro e w' ⟨rfl, g', hg', hc, ho⟩)
  go_ret
  exact ⟨rfl, g', hg', hc, ho⟩
theorem enters_four : Enters Try.prog 88 := enters_of Try.func88 (by kernel_rfl) rfl
theorem four_cur {W w : World} {p g : Nat} {bs : List UInt8} {s : St} (h : Cur W w p g bs s) :
    Calls Try.prog 65 #[.pointer (some ⟨p, 0, none⟩)] w (CurTo W w p g bs (s.rd (tFix 4) 0 bs).2 (.int .u32 (((s.rd (tFix 4) 0 bs).1 : Nat) : Int))) := by
  have hR := Lib.hid (rd_uint32 h (tFix 4) (tFix_le 4) 88 enters_four (fun A n cap b w hn hb => four_lit A n cap b w hn hb))
  clear h
  go_enter Try.func65, Try.ntmps65
  go_wp2_with (go_at_call 87; refine hR.out.mono ?_; rintro e w' ⟨rfl, g', hg', hc, ho⟩)
  go_ret
  exact ⟨rfl, g', hg', hc, ho⟩
theorem enters_eight : Enters Try.prog 82 := enters_of Try.func82 (by kernel_rfl) rfl
theorem eight_cur {W w : World} {p g : Nat} {bs : List UInt8} {s : St} (h : Cur W w p g bs s) :
    Calls Try.prog 63 #[.pointer (some ⟨p, 0, none⟩)] w (CurTo W w p g bs (s.rd (tFix 8) 0 bs).2 (.int .u64 (((s.rd (tFix 8) 0 bs).1 : Nat) : Int))) := by
  have hR := Lib.hid (rd_uint64 h (tFix 8) (tFix_le 8) 82 enters_eight (fun A n cap b w hn hb => eight_lit A n cap b w hn hb))
  clear h
  go_enter Try.func63, Try.ntmps63
  go_wp2_with (go_at_call 77; refine hR.out.mono ?_; rintro e w' ⟨rfl, g', hg', hc, ho⟩)
  go_ret
  exact ⟨rfl, g', hg', hc, ho⟩
theorem enters_text : Enters Try.prog 85 := enters_of Try.func85 (by kernel_rfl) rfl
theorem text_cur {W w : World} {p g : Nat} {bs : List UInt8} {s : St} (h : Cur W w p g bs s) :
    Calls Try.prog 64 #[.pointer (some ⟨p, 0, none⟩)] w (CurTo W w p g bs (s.rd tText [] bs).2 (.string (strOf (s.rd tText [] bs).1))) := by
  have hR := Lib.hid (rd_string h tText (tText_le) 85 enters_text (fun A n cap b w hn hb => (text_lit A n cap b w hn hb).mono fun _ _ ⟨he, hw⟩ => ⟨he, hw ▸ Below.refl _ _⟩))
  clear h
  go_enter Try.func64, Try.ntmps64
  go_wp2_with (go_at_call 84; refine hR.out.mono ?_; rintro e w' ⟨rfl, g', hg', hc, ho⟩)
  go_ret
  exact ⟨rfl, g', hg', hc, ho⟩
end Go.Proofs.Ytalbiieagcandaa
