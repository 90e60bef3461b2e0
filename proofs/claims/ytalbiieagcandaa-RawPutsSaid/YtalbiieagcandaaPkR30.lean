/- Several texts in one: CurF, CurG. What each proves, and its conditions, stands at its own head. -/
import Derived.Test.YtalbiieagcandaaPkR29
import Derived.Test.YtalbiieagcandaaPkR20
import Derived.Deep.RegionLaw
/- The calls that tell where a cursor is; Open. -/
namespace Go.Proofs.Ytalbiieagcandaa
open Go.RowKit
set_option linter.unusedVariables false
set_option maxRecDepth 100000

theorem cur_none {W w : World} {p g : Nat} {bs : List UInt8} {s : St} (h : Cur W w p g bs s) (hfr : s.fr = []) : w.heap[p]? = some (.cells #[.slice none 0 0, .int .i64 ((0 : Nat) : Int), .slice none 0 0] 73 (0, 0)) := by
  rcases h.2 with ⟨a, b⟩ | ⟨l, r, A, cap, c, a, b⟩
  · exact b
  · rw [hfr] at a; cases a
theorem cur_some {W w : World} {p g l : Nat} {r : List Nat} {bs : List UInt8} {s : St} (h : Cur W w p g bs s) (hfr : s.fr = l :: r) : ∃ A cap c, Bs W A cap bs ∧ w.heap[p]? = some (.cells #[.slice A bs.length cap, .int .i64 (s.at_ : Int), .slice (some ⟨g, 0, none⟩) (r.length + 1) c] 73 (0, 0)) ∧ Stk w g c (l :: r).reverse := by
  rcases h.2 with ⟨a, b⟩ | ⟨l', r', A, cap, c, a, b, d, e⟩
  · rw [hfr] at a; cases a
  · rw [hfr] at a
    cases a
    exact ⟨A, cap, c, b, d, e⟩
theorem cur_at0 {W w : World} {p g : Nat} {bs : List UInt8} {s : St} (h : Cur W w p g bs s) (hfr : s.fr = []) : s.at_ = 0 := by
  have := h.1.2.2.2.2.2.2
  unfold Right at this
  rw [hfr] at this
  exact this
theorem ok_cur {W w : World} {p g : Nat} {bs : List UInt8} {s : St} (h : Cur W w p g bs s) : Calls Try.prog 29 #[.pointer (some ⟨p, 0, none⟩)] w fun e w' => e = .returned (.bool s.oks) ∧ w = w' := by
  rcases hfr : s.fr with _ | ⟨l, r⟩
  · have e : s.oks = false := by simp [St.oks, hfr]
    rw [e]
    exact ok_no p _ _ _ _ w (cur_none h hfr)
  · have e : s.oks = true := by simp [St.oks, hfr]
    obtain ⟨A, cap, c, _, hp, _⟩ := cur_some h hfr
    rw [e]
    exact ok_yes p _ _ _ _ _ w hp
theorem deep_cur {W w : World} {p g : Nat} {bs : List UInt8} {s : St} (h : Cur W w p g bs s) : Calls Try.prog 47 #[.pointer (some ⟨p, 0, none⟩)] w fun e w' => e = .returned (.int .i64 (s.fr.length : Int)) ∧ w = w' := by
  rcases hfr : s.fr with _ | ⟨l, r⟩
  · exact deep_any p _ _ _ 0 _ w (cur_none h hfr)
  · obtain ⟨A, cap, c, _, hp, _⟩ := cur_some h hfr
    exact deep_any p _ _ _ (r.length + 1) _ w hp
theorem at_cur {W w : World} {p g : Nat} {bs : List UInt8} {s : St} (h : Cur W w p g bs s) : Calls Try.prog 45 #[.pointer (some ⟨p, 0, none⟩)] w fun e w' => e = .returned (.int .i64 (s.at_ : Int)) ∧ w = w' := by
  rcases hfr : s.fr with _ | ⟨l, r⟩
  · rw [cur_at0 h hfr]
    exact at_any p _ _ 0 w (cur_none h hfr)
  · obtain ⟨A, cap, c, _, hp, _⟩ := cur_some h hfr
    exact at_any p _ _ _ w hp
theorem more_cur {W w : World} {p g : Nat} {bs : List UInt8} {s : St} (h : Cur W w p g bs s) : Calls Try.prog 44 #[.pointer (some ⟨p, 0, none⟩)] w fun e w' => e = .returned (.bool s.more) ∧ ∃ n, w' = w.drewN n := by
  rcases hfr : s.fr with _ | ⟨l, r⟩
  · have e : s.more = false := by simp [St.more, hfr]
    rw [e]
    exact more_none p _ _ _ _ w (cur_none h hfr)
  · have e : s.more = decide (s.at_ < l) := by simp [St.more, hfr]
    obtain ⟨A, cap, c, _, hp, hs⟩ := cur_some h hfr
    rw [e]
    exact more_some p _ _ g c l r w hp hs
theorem enters_length : Enters Try.prog 86 := enters_of Try.func86 (by kernel_rfl) rfl

theorem open_done {W w w1 wa w2 : World} {p g g' g2 l n k i cap cc : Nat} {r : List Nat} {bs : List UInt8} {s s1 : St} {A : Option Addr} {ve : Value} (hc : Cur W w1 p g' bs s1) (hg' : g' = g ∨ g' ≥ w.heap.size) (ho : Only p g w w1) (hi : i = s1.at_) (hk : k = r.length)
    (hopen : s.opens bs = ⟨i, (i + n) :: l :: r⟩) (hR : Right bs (s.opens bs)) (hb : Below w1.heap.size w1 wa) (hgr : wa.grownBy w2 (some g')) (hg2 : g2 = g' ∨ g2 ≥ wa.heap.size) (hlt : g2 < w2.heap.size)
    (hst : Stk w2 g2 cc ((l :: r).reverse ++ [i + n])) (hp2 : w2.heap[p]? = some (.cells #[.slice A bs.length cap, .int .i64 (i : Int), ve] 73 (0, 0))) (hB : Bs W A cap bs) :
    CurTo W w p g bs (s.opens bs) (.bool (s.opens bs).oks) (.returned (.bool true)) (w2.setCell ⟨p, 2, none⟩ (.slice (some ⟨g2, 0, none⟩) (k + 1 + 1) cc)) := by
  subst hi hk
  obtain ⟨⟨h1, h2, h3, h4, h5, h6, h7⟩, _⟩ := hc
  have hbs := hb.size
  have hgs := hgr.size
  have hos := ho.size
  have hgp : g2 ≠ p := by rcases hg2 with rfl | hg2 <;> omega
  have hsz : (w2.setCell ⟨p, 2, none⟩ (.slice (some ⟨g2, 0, none⟩) (r.length + 1 + 1) cc)).heap.size = w2.heap.size := by simp [World.setCell]
  have hW : Below W.heap.size W (w2.setCell ⟨p, 2, none⟩ (.slice (some ⟨g2, 0, none⟩) (r.length + 1 + 1) cc)) :=
    ((h6.trans (hb.mono (by omega))).grown hgr (by omega) (fun k e => by cases e; exact h2)).setCell (p := ⟨p, 2, none⟩) h1 _
  refine ⟨by rw [hopen]; rfl, g2, ?_, ⟨⟨h1, ?_, hgp.symm, by rw [hsz]; omega, by rw [hsz]; exact hlt, hW, hR⟩, .inr ?_⟩, ?_⟩
  · rcases hg2 with rfl | hg2
    · rcases hg' with rfl | hg'
      · exact .inl rfl
      · exact .inr hg'
    · exact .inr (by omega)
  · rcases hg2 with rfl | hg2 <;> omega
  · rw [hopen]
    refine ⟨s1.at_ + n, l :: r, A, cap, cc, rfl, hB, ?_, ?_⟩
    · rw [obj_set hp2 2]
      rfl
    · refine Stk.keep (w := w2) ?_ (heap_setCell_other w2 _ g2 _ hgp)
      have e : ((s1.at_ + n) :: l :: r).reverse = (l :: r).reverse ++ [s1.at_ + n] := by simp
      rw [e]
      exact hst
  · have o1 : Only p g' w1 w2 := (Only.of_below hb).grown hgr (fun k e => .inr (by cases e; rfl))
    exact ho.then (o1.set (q := ⟨p, 2, none⟩) (.inl rfl) _) hg'

end Go.Proofs.Ytalbiieagcandaa

/- Close, Tag, From. -/
namespace Go.Proofs.Ytalbiieagcandaa
open Go.RowKit
set_option linter.unusedVariables false
set_option maxRecDepth 100000

theorem Stk.init {w : World} {g c l : Nat} {r : List Nat} (h : Stk w g c (l :: r).reverse) : Stk w g r.length r.reverse := by
  obtain ⟨cur, h1, h2, h3⟩ := h.row
  have hle := h.le
  have hm := h.max
  simp only [List.length_reverse, List.length_cons] at hle h3
  refine ⟨⟨cur, h1, by omega, ?_⟩, by simp, by omega⟩
  have h4 := congrArg (List.take r.length) h3
  rw [List.take_take, Nat.min_eq_left (by omega)] at h4
  rw [List.length_reverse, h4, List.reverse_cons, ints_append, List.take_append_of_le_length (by simp [ints_length]), List.take_of_length_le (by simp [ints_length])]
theorem close_done {W w : World} {p g l2 k n cap : Nat} {r : List Nat} {bs : List UInt8} {s : St} {A : Option Addr} {ve : Value} (h : Cur W w p g bs s) (hk : k = r.length) (hR : Right bs ⟨s.at_, l2 :: r⟩) (hB : Bs W A cap bs)
    (hp : w.heap[p]? = some (.cells #[.slice A bs.length cap, .int .i64 (s.at_ : Int), ve] 73 (0, 0))) (hst : Stk w g (r.length + 1) (l2 :: r).reverse) :
    CurTo W w p g bs ⟨s.at_, l2 :: r⟩ (.bool true) (.returned (.bool true)) ((w.drewN n).setCell ⟨p, 2, none⟩ (.slice (some ⟨g, 0, none⟩) (k + 1) (k + 1))) := by
  subst hk
  obtain ⟨⟨h1, h2, h3, h4, h5, h6, h7⟩, _⟩ := h
  have hp' : (w.drewN n).heap[p]? = some (.cells #[.slice A bs.length cap, .int .i64 (s.at_ : Int), ve] 73 (0, 0)) := hp
  have hsz : ((w.drewN n).setCell ⟨p, 2, none⟩ (.slice (some ⟨g, 0, none⟩) (r.length + 1) (r.length + 1))).heap.size = w.heap.size := by simp [World.setCell]
  refine ⟨rfl, g, .inl rfl, ⟨⟨h1, h2, h3, by rw [hsz]; exact h4, by rw [hsz]; exact h5, (h6.trans ((drawn_below w n).mono (by omega))).setCell (p := ⟨p, 2, none⟩) h1 _, hR⟩, .inr ⟨l2, r, A, cap, r.length + 1, rfl, hB, ?_, ?_⟩⟩, (Only.of_below (drawn_below w n)).set (q := ⟨p, 2, none⟩) (.inl rfl) _⟩
  · rw [obj_set hp' 2]
    rfl
  · exact (hst.keep (w' := w.drewN n) rfl).keep (heap_setCell_other _ _ g _ (fun e => h3 e.symm))
end Go.Proofs.Ytalbiieagcandaa
