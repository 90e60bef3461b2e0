/- Several texts in one: CurH. What each proves, and its conditions, stands at its own head. -/
import Derived.Test.YtalbiieagcandaaPkR30
import Derived.Test.YtalbiieagcandaaPkR5
import Derived.Deep.QuietTactic
import Derived.BigQuiet
/- From, Tag. -/
namespace Go.Proofs.Ytalbiieagcandaa
open Go.RowKit
set_option linter.unusedVariables false
set_option maxRecDepth 100000

/-- What From answers: a cursor of its own at the beginning. -/
def Begins (w : World) (bs : List UInt8) (e : Ending) (w' : World) : Prop :=
  ∃ W p g, e = .returned (.pointer (some ⟨p, 0, none⟩)) ∧ Below w.heap.size w W ∧ Below w.heap.size w w' ∧ Cur W w' p g bs ⟨0, [bs.length]⟩
theorem begins_done {w w1 : World} {bs : List UInt8} {A : Option Addr} {cap : Nat} (hB : Bs w1 A cap bs) (hb : Below w.heap.size w w1) :
    Begins w bs (.returned (.pointer (some ⟨w1.heap.size + 1, 0, none⟩))) ((w1.alloc (.cells #[.int .i64 (bs.length : Int)] 3)).alloc (.cells #[.slice A bs.length cap, .int .i64 0, .slice (some ⟨w1.heap.size, 0, none⟩) 1 1] 73)) := by
  have hb2 : Below w1.heap.size w1 ((w1.alloc (.cells #[.int .i64 (bs.length : Int)] 3)).alloc (.cells #[.slice A bs.length cap, .int .i64 0, .slice (some ⟨w1.heap.size, 0, none⟩) 1 1] 73)) :=
    ((Below.refl _ _).alloc (Nat.le_refl _) _).alloc (by simp) _
  have hp := heap_alloc2_new w1 (.cells #[.int .i64 (bs.length : Int)] 3) (.cells #[.slice A bs.length cap, .int .i64 0, .slice (some ⟨w1.heap.size, 0, none⟩) 1 1] 73)
  have hg := heap_alloc2_old w1 (.cells #[.int .i64 (bs.length : Int)] 3) (.cells #[.slice A bs.length cap, .int .i64 0, .slice (some ⟨w1.heap.size, 0, none⟩) 1 1] 73)
  refine ⟨w1, w1.heap.size + 1, w1.heap.size, rfl, hb, bel_trans hb hb2, ⟨by omega, by omega, by omega, lt_of_block hp, lt_of_block hg, hb2, right_start bs⟩, .inr ⟨bs.length, [], A, cap, 1, rfl, hB, hp, ⟨⟨_, hg, by simp, rfl⟩, by simp, by decide⟩⟩⟩
theorem from_any (A : Option Addr) (n cap : Nat) (bs : List UInt8) (w : World) (hn : n = bs.length) (hb : Bs w A cap bs) (hlen : bs.length ≤ 140737488351232) :
    Calls Try.prog 27 #[.slice A n cap] w (Begins w bs) := by
  have hC := Lib.hid (clone_n A n cap bs w hn hb hlen)
  have hN := Lib.hid hn
  clear hb hn
  go_enter Try.func27, Try.ntmps27
  go_wp2_with (go_at_call 34; refine hC.out.mono ?_; rintro e w1 ⟨A1, cap1, rfl, hB1, hb1⟩)
  rw [hN.out]
  go_ret
  exact begins_done hB1 hb1

theorem enters_tag : Enters Try.prog 78 := enters_of Try.func78 (by kernel_rfl) rfl
/-- What Tag's read leaves: the cursor, and the two numbers at a and b. -/
def TagEnd (W w : World) (p g a b : Nat) (bs : List UInt8) (s : St) (e : Ending) (w' : World) : Prop :=
  (∃ v, e = .returned v) ∧ Cur W w' p g bs (s.rd tTag (0, 0) bs).2 ∧ w'.heap[a]? = some (.cells #[.int .i64 ((s.rd tTag (0, 0) bs).1.1 : Int)] 3 (0, 0)) ∧ w'.heap[b]? = some (.cells #[.int .i64 ((s.rd tTag (0, 0) bs).1.2 : Int)] 3 (0, 0)) ∧
    w'.os = w.os ∧ w'.tape = w.tape ∧ w'.output = w.output ∧ w.heap.size ≤ w'.heap.size ∧ ∀ k, k < w.heap.size → k ≠ p → k ≠ a → k ≠ b → w'.heap[k]? = w.heap[k]?
theorem tag_read {W w : World} {p g a b : Nat} {bs : List UInt8} {s : St} (h : Cur W w p g bs s) (ha : w.heap[a]? = some (.cells #[.int .i64 0] 3 (0, 0))) (hbb : w.heap[b]? = some (.cells #[.int .i64 0] 3 (0, 0)))
    (hab : a ≠ b) (hap : a ≠ p) (hag : a ≠ g) (hbp : b ≠ p) (hbg : b ≠ g) (hWa : W.heap.size ≤ a) (hWb : W.heap.size ≤ b) :
    Calls Try.prog 77 #[.pointer (some ⟨p, 0, none⟩), .func (.func 78) #[] #[.pointer (some ⟨a, 0, none⟩), .pointer (some ⟨b, 0, none⟩)]] w (TagEnd W w p g a b bs s) := by
  have hal := lt_of_block ha
  have hbl := lt_of_block hbb
  rcases h.2 with ⟨x, y⟩ | ⟨l, r, A, cap, c, hfr, hB, hp, hst⟩
  · refine (read_uint64_none p _ _ _ _ _ w y).mono ?_
    rintro e w' ⟨rfl, rfl⟩
    have e1 : s.rd tTag (0, 0) bs = ((0, 0), s) := by unfold St.rd; rw [x]
    unfold TagEnd
    rw [e1]
    exact ⟨⟨_, rfl⟩, h, ha, hbb, rfl, rfl, rfl, Nat.le_refl _, fun _ _ _ _ _ => rfl⟩
  · have hseg := fun w1 hw => cur_seg h hfr hB w1 hw
    obtain ⟨l1, _, l2, l3, l4, l5⟩ := hseg w (Below.refl _ _)
    have hm := tTag_le (segOf bs s.at_ l)
    rw [← l1] at hm
    have hpl := h.1.2.2.2.1
    have hgl := h.1.2.2.2.2.1
    refine (read_uint64_some p A bs.length cap s.at_ g c l r w hp hst l2 l3 l4 l5 78 #[.pointer (some ⟨a, 0, none⟩), .pointer (some ⟨b, 0, none⟩)] enters_tag
      (.int .u64 ((getFrom 0 0 (segOf bs s.at_ l)).1 : Int)) (tTag (segOf bs s.at_ l)).2 (by omega)
      (fun w1 => w1.heap[a]? = some (.cells #[.int .i64 ((tTag (segOf bs s.at_ l)).1.1 : Int)] 3 (0, 0)) ∧ w1.heap[b]? = some (.cells #[.int .i64 ((tTag (segOf bs s.at_ l)).1.2 : Int)] 3 (0, 0)) ∧ Only a b w w1)
      (fun n => ?_) (fun w1 hw => ⟨hw.2.2.block p hpl hap.symm hbp.symm, hw.2.2.block g hgl hag.symm hbg.symm⟩)).mono ?_
    · refine (tag_lit _ _ _ a b _ (w.drewN n) l1 (hseg _ (drawn_below w n)).2.1 _ _ ha hbb hab).mono ?_
      rintro e w' ⟨rfl, rfl⟩
      have h1 := obj_set (w := w.drewN n) ha 0 (.int .i64 ((tTag (segOf bs s.at_ l)).1.1 : Int))
      have hb1 : ((w.drewN n).setCell ⟨a, 0, none⟩ (.int .i64 ((tTag (segOf bs s.at_ l)).1.1 : Int))).heap[b]? = some (.cells #[.int .i64 0] 3 (0, 0)) := (heap_setCell_other _ _ b _ hab.symm).trans hbb
      refine ⟨rfl, ?_, ?_, ?_⟩
      · rw [heap_setCell_other _ _ a _ hab, h1]
        rfl
      · rw [obj_set hb1 0]
        rfl
      · exact ((Only.of_below (drawn_below w n)).set (q := ⟨a, 0, none⟩) (.inl rfl) _).set (q := ⟨b, 0, none⟩) (.inr rfl) _
    · intro e w' he
      obtain ⟨w1, ⟨q1, q2, q3⟩, ho, hc, hr⟩ := cur_read0 (take := tTag) (z := (0, 0)) h tTag_le hfr hB hst (fun w1 q => ⟨below_only h.1.2.2.2.2.2.1 q.2.2 hWa hWb (by have := h.1.1; omega), q.2.2.size, q.2.2.block g hgl hag.symm hbg.symm⟩) he
      have hs1 := q3.size
      have ea : w'.heap[a]? = w1.heap[a]? := ho.block a (by omega) hap hap
      have eb : w'.heap[b]? = w1.heap[b]? := ho.block b (by omega) hbp hbp
      have hv : (s.rd tTag (0, 0) bs).1 = (tTag (segOf bs s.at_ l)).1 := by
        rcases hr with ⟨z, _, hr⟩ | ⟨_, _, hr⟩
        · rw [hr, tTag_zero _ z]
        · exact hr
      refine ⟨?_, hc, ?_, ?_, ho.os.trans q3.os, ho.tape.trans q3.tape, ho.output.trans q3.output, by have := ho.size; omega, fun k hk x y z => (ho.block k (by omega) x x).trans (q3.block k hk y z)⟩
      · rcases hr with ⟨_, hr, _⟩ | ⟨_, hr, _⟩ <;> exact ⟨_, hr⟩
      · rw [ea, hv]; exact q1
      · rw [eb, hv]; exact q2

theorem tag_cur {W w : World} {p g : Nat} {bs : List UInt8} {s : St} (h : Cur W w p g bs s) :
    Calls Try.prog 61 #[.pointer (some ⟨p, 0, none⟩)] w (CurTo W w p g bs (s.rd tTag (0, 0) bs).2 (.tuple #[.int .i64 ((s.rd tTag (0, 0) bs).1.1 : Int), .int .i64 ((s.rd tTag (0, 0) bs).1.2 : Int)])) := by
  obtain ⟨h1, h2, h3, h4, h5, h6, h7⟩ := h.1
  have hb2 : Below w.heap.size w ((w.alloc (.cells #[.int .i64 0] 3)).alloc (.cells #[.int .i64 0] 3)) := ((Below.refl _ _).alloc (Nat.le_refl _) _).alloc (by simp) _
  have hR := Lib.hid (tag_read (h.bel hb2) (heap_alloc2_old w _ _) (heap_alloc2_new w _ _) (by omega) (by omega) (by omega) (by omega) (by omega) (by omega) (by omega))
  have H := Lib.hid h
  clear h h6 h7
  go_enter Try.func61, Try.ntmps61
  go_wp2_with (go_at_call 77; refine hR.out.mono ?_; rintro e w1 ⟨⟨v, rfl⟩, hc, ha, hb, r1, r2, r3, r4, r5⟩; have ca := cell_of_one ha; have cb := cell_of_one hb; have HC := Lib.hid hc; have R4 := Lib.hid r4; have R5 := Lib.hid r5; have R1 := Lib.hid r1; have R2 := Lib.hid r2; have R3 := Lib.hid r3; clear hc ha hb r1 r2 r3 r4 r5)
  go_quiet (fail)
  go_wp2
  go_ret2
  have hs := R4.out
  have ho : Only p g w w1 := ⟨R1.out.trans hb2.os, R2.out.trans hb2.tape, R3.out.trans hb2.output, Nat.le_trans hb2.size R4.out, fun k hk x _ => (R5.out k (Nat.lt_of_lt_of_le hk hb2.size) x (by omega) (by omega)).trans (hb2.block k hk)⟩
  refine ⟨rfl, g, .inl rfl, HC.out.bel (drawn_below w1 _), ho.trans (Only.of_below (drawn_below w1 _))⟩
end Go.Proofs.Ytalbiieagcandaa
