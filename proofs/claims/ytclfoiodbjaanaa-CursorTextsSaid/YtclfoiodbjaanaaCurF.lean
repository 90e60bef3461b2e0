/- The calls that tell where a cursor is; Open. -/
import Derived.Test.YtclfoiodbjaanaaCurE
import Derived.Deep.RegionLaw
namespace Go.Proofs.Ytclfoiodbjaanaa
open Go.RowKit
set_option linter.unusedVariables false
set_option maxRecDepth 100000

theorem cur_none {W w : World} {p g : Nat} {bs : List UInt8} {s : St} (h : Cur W w p g bs s) (hfr : s.fr = []) : w.heap[p]? = some (.cells #[.slice none 0 0, .int .i64 ((0 : Nat) : Int), .slice none 0 0] 41 (0, 0)) := by
  rcases h.2 with ⟨a, b⟩ | ⟨l, r, A, cap, c, a, b⟩
  · exact b
  · rw [hfr] at a; cases a
theorem cur_some {W w : World} {p g l : Nat} {r : List Nat} {bs : List UInt8} {s : St} (h : Cur W w p g bs s) (hfr : s.fr = l :: r) : ∃ A cap c, Bs W A cap bs ∧ w.heap[p]? = some (.cells #[.slice A bs.length cap, .int .i64 (s.at_ : Int), .slice (some ⟨g, 0, none⟩) (r.length + 1) c] 41 (0, 0)) ∧ Stk w g c (l :: r).reverse := by
  rcases h.2 with ⟨a, b⟩ | ⟨l', r', A, cap, c, a, b, d, e⟩
  · rw [hfr] at a; cases a
  · rw [hfr] at a
    cases a
    exact ⟨A, cap, c, b, d, e⟩
theorem cur_at0 {W w : World} {p g : Nat} {bs : List UInt8} {s : St} (h : Cur W w p g bs s) (hfr : s.fr = []) : s.at_ = 0 := by
  have := h.1.2.2.2.2.2.2
  unfold Right at this
  rw [hfr] at this
  exact this
theorem ok_cur {W w : World} {p g : Nat} {bs : List UInt8} {s : St} (h : Cur W w p g bs s) : Calls Try.prog 11 #[.pointer (some ⟨p, 0, none⟩)] w fun e w' => e = .returned (.bool s.oks) ∧ w = w' := by
  rcases hfr : s.fr with _ | ⟨l, r⟩
  · have e : s.oks = false := by simp [St.oks, hfr]
    rw [e]
    exact ok_no p _ _ _ _ w (cur_none h hfr)
  · have e : s.oks = true := by simp [St.oks, hfr]
    obtain ⟨A, cap, c, _, hp, _⟩ := cur_some h hfr
    rw [e]
    exact ok_yes p _ _ _ _ _ w hp
theorem deep_cur {W w : World} {p g : Nat} {bs : List UInt8} {s : St} (h : Cur W w p g bs s) : Calls Try.prog 13 #[.pointer (some ⟨p, 0, none⟩)] w fun e w' => e = .returned (.int .i64 (s.fr.length : Int)) ∧ w = w' := by
  rcases hfr : s.fr with _ | ⟨l, r⟩
  · exact deep_any p _ _ _ 0 _ w (cur_none h hfr)
  · obtain ⟨A, cap, c, _, hp, _⟩ := cur_some h hfr
    exact deep_any p _ _ _ (r.length + 1) _ w hp
theorem at_cur {W w : World} {p g : Nat} {bs : List UInt8} {s : St} (h : Cur W w p g bs s) : Calls Try.prog 12 #[.pointer (some ⟨p, 0, none⟩)] w fun e w' => e = .returned (.int .i64 (s.at_ : Int)) ∧ w = w' := by
  rcases hfr : s.fr with _ | ⟨l, r⟩
  · rw [cur_at0 h hfr]
    exact at_any p _ _ 0 w (cur_none h hfr)
  · obtain ⟨A, cap, c, _, hp, _⟩ := cur_some h hfr
    exact at_any p _ _ _ w hp
theorem more_cur {W w : World} {p g : Nat} {bs : List UInt8} {s : St} (h : Cur W w p g bs s) : Calls Try.prog 14 #[.pointer (some ⟨p, 0, none⟩)] w fun e w' => e = .returned (.bool s.more) ∧ ∃ n, w' = w.drewN n := by
  rcases hfr : s.fr with _ | ⟨l, r⟩
  · have e : s.more = false := by simp [St.more, hfr]
    rw [e]
    exact more_none p _ _ _ _ w (cur_none h hfr)
  · have e : s.more = decide (s.at_ < l) := by simp [St.more, hfr]
    obtain ⟨A, cap, c, _, hp, hs⟩ := cur_some h hfr
    rw [e]
    exact more_some p _ _ g c l r w hp hs
theorem enters_length : Enters Try.prog 36 := enters_of Try.func36 (by kernel_rfl) rfl

theorem opens_rd {bs : List UInt8} {s : St} : s.opens bs = match (s.rd tLen 0 bs).2.fr with
    | [] => (s.rd tLen 0 bs).2
    | l :: r => ⟨(s.rd tLen 0 bs).2.at_, ((s.rd tLen 0 bs).2.at_ + (s.rd tLen 0 bs).1) :: l :: r⟩ := by
  obtain ⟨i, fr⟩ := s
  cases fr with
  | nil => rfl
  | cons l r =>
    unfold St.opens St.rd
    dsimp only
    split <;> rfl

theorem open_done {W w w1 wa w2 : World} {p g g' g2 l n k i cap cc : Nat} {r : List Nat} {bs : List UInt8} {s s1 : St} {A : Option Addr} {ve : Value} (hc : Cur W w1 p g' bs s1) (hg' : g' = g ∨ g' ≥ w.heap.size) (ho : Only p g w w1) (hi : i = s1.at_) (hk : k = r.length)
    (hopen : s.opens bs = ⟨i, (i + n) :: l :: r⟩) (hR : Right bs (s.opens bs)) (hb : Below w1.heap.size w1 wa) (hgr : wa.grownBy w2 (some g')) (hg2 : g2 = g' ∨ g2 ≥ wa.heap.size) (hlt : g2 < w2.heap.size)
    (hst : Stk w2 g2 cc ((l :: r).reverse ++ [i + n])) (hp2 : w2.heap[p]? = some (.cells #[.slice A bs.length cap, .int .i64 (i : Int), ve] 41 (0, 0))) (hB : Bs W A cap bs) :
    CurTo W w p g bs (s.opens bs) (.bool (s.opens bs).oks) (.returned (.bool true)) (w2.setCell ⟨p, 2, none⟩ (.slice (some ⟨g2, 0, none⟩) (k + 1 + 1) cc)) := by
  subst hi hk
  obtain ⟨⟨h1, h2, h3, h4, h5, h6, h7⟩, _⟩ := hc
  have hbs := hb.size
  have hgs := hgr.size
  have hos := ho.size
  have hgp : g2 ≠ p := by rcases hg2 with rfl | hg2 <;> omega
  have hsz : (w2.setCell ⟨p, 2, none⟩ (.slice (some ⟨g2, 0, none⟩) (r.length + 1 + 1) cc)).heap.size = w2.heap.size := by simp [World.setCell]
  have hW : Below W.heap.size W (w2.setCell ⟨p, 2, none⟩ (.slice (some ⟨g2, 0, none⟩) (r.length + 1 + 1) cc)) :=
    ((h6.trans (hb.mono (by omega))).grown hgr (by omega) (fun k e => by cases e; exact h2)).setCell (p := ⟨p, 2, none⟩) h1 _
  refine ⟨by rw [hopen]; rfl, g2, ?_, ⟨⟨h1, ?_, hgp.symm, by rw [hsz]; omega, by rw [hsz]; exact hlt, hW, hR⟩, .inr ?_⟩, ?_⟩
  · rcases hg2 with rfl | hg2
    · rcases hg' with rfl | hg'
      · exact .inl rfl
      · exact .inr hg'
    · exact .inr (by omega)
  · rcases hg2 with rfl | hg2 <;> omega
  · rw [hopen]
    refine ⟨s1.at_ + n, l :: r, A, cap, cc, rfl, hB, ?_, ?_⟩
    · rw [obj_set hp2 2]
      rfl
    · refine Stk.keep (w := w2) ?_ (heap_setCell_other w2 _ g2 _ hgp)
      have e : ((s1.at_ + n) :: l :: r).reverse = (l :: r).reverse ++ [s1.at_ + n] := by simp
      rw [e]
      exact hst
  · have o1 : Only p g' w1 w2 := (Only.of_below hb).grown hgr (fun k e => .inr (by cases e; rfl))
    exact ho.then (o1.set (q := ⟨p, 2, none⟩) (.inl rfl) _) hg'

theorem open_cur {W w : World} {p g : Nat} {bs : List UInt8} {s : St} (h : Cur W w p g bs s) (hlen : bs.length < 1099511627776) :
    Calls Try.prog 17 #[.pointer (some ⟨p, 0, none⟩)] w (CurTo W w p g bs (s.opens bs) (.bool (s.opens bs).oks)) := by
  have hR := Lib.hid (rd_int h tLen (fun b => by have := tLen_sum b; omega) 36 enters_length (fun A n cap b w hn hb => (length_any A n cap b w hn hb).mono fun _ _ ⟨he, hw⟩ => ⟨he, hw ▸ Below.refl _ _⟩))
  have hO := opens_rd (bs := bs) (s := s)
  obtain ⟨s1, hs1⟩ : ∃ s1, s1 = (s.rd tLen 0 bs).2 := ⟨_, rfl⟩
  obtain ⟨n, hn⟩ : ∃ n, n = (s.rd tLen 0 bs).1 := ⟨_, rfl⟩
  rw [← hs1, ← hn] at hR hO
  clear hs1 hn
  rcases hfr : s1.fr with _ | ⟨l, r⟩
  · rw [hfr] at hO
    dsimp only at hO
    have hK : Hid (s1.oks = false) := by show _ = _; simp [St.oks, hfr]
    rw [hO]
    clear hO h
    have hF := Lib.hid hfr
    clear hfr
    go_enter Try.func17, Try.ntmps17
    go_wp2_with (first
      | (go_at_call 37; refine hR.out.mono ?_; rintro e w' ⟨rfl, g', hg', hc, ho⟩)
      | (go_at_call 11; refine (ok_no p _ _ _ _ _ (cur_none hc hF.out)).mono ?_; rintro e w' ⟨rfl, rfl⟩))
    go_ret
    exact ⟨by rw [hK.out]; rfl, g', hg', hc, ho⟩
  · rw [hfr] at hO
    dsimp only at hO
    have hK : Hid (∀ i l, (St.mk i (l :: s1.fr)).oks = true) := by intro i l; simp [St.oks]
    have hF := Lib.hid hfr
    have hRt := right_opens h.1.2.2.2.2.2.2
    have hRR := Lib.hid hRt
    rw [hO] at hRt
    obtain ⟨b1, b2, b3, b4, b5⟩ := hRt
    dsimp only at b1
    simp only [List.length_cons] at b5
    obtain ⟨i, hi⟩ : ∃ i, i = s1.at_ := ⟨_, rfl⟩
    rw [← hi] at b1 b2 b5
    have hI := Lib.hid hi
    obtain ⟨k, hk⟩ : ∃ k, k = r.length := ⟨_, rfl⟩
    rw [← hk] at b5
    have hKK := Lib.hid hk
    have hOO := Lib.hid hO
    have hlr : (l :: r).reverse.length = k + 1 := by simp [hk]
    have hLR := Lib.hid hlr
    clear hfr h hO b3 b4 hi hk hlr
    go_enter Try.func17, Try.ntmps17
    go_wp2_with (first
      | (go_at_call 37; refine hR.out.mono ?_; rintro e w1 ⟨rfl, g', hg', hc, ho⟩; obtain ⟨A, cap, c, hb, hp, hst⟩ := cur_some hc hF.out; have HP := Lib.hid hp; clear hp)
      | (go_at_call 11; refine (ok_yes p _ _ _ _ _ _ HP.out).mono ?_; rintro e w' ⟨rfl, rfl⟩))
    have hP := HP.out
    rw [← hI.out, ← hKK.out] at hP
    have c1 := obj_cell hP 1
    have c2 := obj_cell hP 2
    have hf := obj_free hP 2
    have hpg := hc.1.2.2.1
    have hpl := hc.1.2.2.2.1
    have hST := Lib.hid hst
    have hgl := hc.1.2.2.2.2.1
    have hHC := Lib.hid hc
    have hPP := Lib.hid hP
    have hHO := Lib.hid ho
    have hHB := Lib.hid hb
    clear hP hc hst ho hb
    have hwr : IntKind.i64.wrap ((i : Int) + (n : Int)) = (i : Int) + (n : Int) := IntWalk.i64_in _ (by omega)
    go_region_law (first
      | (refine step_append_stk (by rfl) _ _ (by rfl) (g := g') (c := c) (m := k + 1) (xs := (l :: r).reverse) (hST.out.keep (Below.heap_alloc _ _ _ hgl)) (by rw [hLR.out]; omega) hLR.out.symm (by rfl) ⟨w1.heap.size, 0, none⟩ 1 (i + n) (by rfl) (cell_one_new _ _ _ 0 _ (by simp)) ?_
         intro g2 cc2 w2 hst2 hgr2 hg2 hlt2
         have hp2 := ((hgr2.block p (Nat.lt_of_lt_of_le hpl (by simp)) (fun e => hpg (Option.some.inj e))).trans (Below.heap_alloc _ _ _ hpl)).trans hPP.out
         have hc2 := obj_cell hp2 2
         have hf2 := obj_free hp2 2
         have HP2 := Lib.hid hp2
         clear hp2))
    all_goals go_wp2
    all_goals
      go_ret
      exact open_done hHC.out hg' hHO.out hI.out hKK.out (by rw [hOO.out, hI.out]) hRR.out ((drawn_below w1 1).alloc (Nat.le_refl _) _) hgr2 hg2 hlt2 hst2 HP2.out hHB.out
end Go.Proofs.Ytclfoiodbjaanaa
