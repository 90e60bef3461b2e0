/- The document's cursor: Open, Tag, Close, More, From. -/
import Derived.Test.YtclfoiodbjaanaaRefD
import Derived.Test.YtclfoiodbjaanaaCurF
import Derived.Test.YtclfoiodbjaanaaTagS
namespace Go.Proofs.Ytclfoiodbjaanaa
open Go.RowKit
set_option linter.unusedVariables false
set_option maxRecDepth 100000

theorem ropen_done {W w w1 wa w2 : World} {p g g' g2 l n k i cap cc : Nat} {r : List Nat} {bs : List UInt8} {s s1 : St} {A : Option Addr} {ve : Value} (hc : Ref W w1 p g' bs s1) (hg' : g' = g ∨ g' ≥ w.heap.size) (ho : Only p g w w1) (hi : i = s1.at_) (hk : k = r.length)
    (hopen : s.opens bs = ⟨i, (i + n) :: l :: r⟩) (hR : Right bs (s.opens bs)) (hb : Below w1.heap.size w1 wa) (hgr : wa.grownBy w2 (some g')) (hg2 : g2 = g' ∨ g2 ≥ wa.heap.size) (hlt : g2 < w2.heap.size)
    (hst : Stk w2 g2 cc ((l :: r).reverse ++ [i + n])) (hp2 : w2.heap[p]? = some (.cells #[.slice A bs.length cap, .int .i64 (i : Int), ve, .bool false] 43 (0, 0))) (hB : Bs W A cap bs) :
    RefTo W w p g bs (s.opens bs) (.bool (s.opens bs).oks) (.returned (.bool true)) (w2.setCell ⟨p, 2, none⟩ (.slice (some ⟨g2, 0, none⟩) (k + 1 + 1) cc)) := by
  subst hi hk
  obtain ⟨⟨h1, h2, h3, h4, h5, h6, h7⟩, _⟩ := hc
  have hbs := hb.size
  have hgs := hgr.size
  have hos := ho.size
  have hgp : g2 ≠ p := by rcases hg2 with rfl | hg2 <;> omega
  have hsz : (w2.setCell ⟨p, 2, none⟩ (.slice (some ⟨g2, 0, none⟩) (r.length + 1 + 1) cc)).heap.size = w2.heap.size := by simp [World.setCell]
  have hW : Below W.heap.size W (w2.setCell ⟨p, 2, none⟩ (.slice (some ⟨g2, 0, none⟩) (r.length + 1 + 1) cc)) :=
    ((h6.trans (hb.mono (by omega))).grown hgr (by omega) (fun k e => by cases e; exact h2)).setCell (p := ⟨p, 2, none⟩) h1 _
  refine ⟨by rw [hopen]; rfl, g2, ?_, ⟨⟨h1, ?_, hgp.symm, by rw [hsz]; omega, by rw [hsz]; exact hlt, hW, hR⟩, A, cap, hB, .inr ?_⟩, ?_⟩
  · rcases hg2 with rfl | hg2
    · rcases hg' with rfl | hg'
      · exact .inl rfl
      · exact .inr hg'
    · exact .inr (by omega)
  · rcases hg2 with rfl | hg2 <;> omega
  · rw [hopen]
    refine ⟨s1.at_ + n, l :: r, cc, rfl, ?_, ?_⟩
    · rw [obj_set hp2 2]
      rfl
    · refine Stk.keep (w := w2) ?_ (heap_setCell_other w2 _ g2 _ hgp)
      have e : ((s1.at_ + n) :: l :: r).reverse = (l :: r).reverse ++ [s1.at_ + n] := by simp
      rw [e]
      exact hst
  · have o1 : Only p g' w1 w2 := (Only.of_below hb).grown hgr (fun k e => .inr (by cases e; rfl))
    exact ho.then (o1.set (q := ⟨p, 2, none⟩) (.inl rfl) _) hg'
theorem ropen_ref {W w : World} {p g : Nat} {bs : List UInt8} {s : St} (h : Ref W w p g bs s) (hlen : bs.length < 1099511627776) :
    Calls Try.prog 28 #[.pointer (some ⟨p, 0, none⟩)] w (RefTo W w p g bs (s.opens bs) (.bool (s.opens bs).oks)) := by
  have hR := Lib.hid (long_ref h (by omega))
  have hO := opens_rd (bs := bs) (s := s)
  have hL : s.long bs = match (s.rd tLen 0 bs).2.fr with | [] => -1 | _ :: _ => ((s.rd tLen 0 bs).1 : Int) := rfl
  obtain ⟨s1, hs1⟩ : ∃ s1, s1 = (s.rd tLen 0 bs).2 := ⟨_, rfl⟩
  obtain ⟨n, hn⟩ : ∃ n, n = (s.rd tLen 0 bs).1 := ⟨_, rfl⟩
  rw [← hs1] at hR hO hL
  rw [← hn] at hO hL
  clear hs1 hn
  rcases hfr : s1.fr with _ | ⟨l, r⟩
  · rw [hfr] at hO hL
    dsimp only at hO hL
    rw [hL] at hR
    have hK : Hid (s1.oks = false) := by show _ = _; simp [St.oks, hfr]
    rw [hO]
    clear hO h hfr hL
    go_enter Try.func28, Try.ntmps28
    go_wp2_with (go_at_call 48; refine hR.out.mono ?_; rintro e w' ⟨rfl, g', hg', hc, ho⟩)
    go_ret
    exact ⟨by rw [hK.out]; rfl, g', hg', hc, ho⟩
  · rw [hfr] at hO hL
    dsimp only at hO hL
    rw [hL] at hR
    have hF := Lib.hid hfr
    have hRt := right_opens h.1.2.2.2.2.2.2
    have hRR := Lib.hid hRt
    rw [hO] at hRt
    obtain ⟨b1, b2, b3, b4, b5⟩ := hRt
    dsimp only at b1
    simp only [List.length_cons] at b5
    obtain ⟨i, hi⟩ : ∃ i, i = s1.at_ := ⟨_, rfl⟩
    rw [← hi] at b1 b2 b5
    have hI := Lib.hid hi
    obtain ⟨k, hk⟩ : ∃ k, k = r.length := ⟨_, rfl⟩
    rw [← hk] at b5
    have hKK := Lib.hid hk
    have hOO := Lib.hid hO
    have hlr : (l :: r).reverse.length = k + 1 := by simp [hk]
    have hLR := Lib.hid hlr
    clear hfr h hO b3 b4 hi hk hlr hL
    go_enter Try.func28, Try.ntmps28
    go_wp2_with (go_at_call 48; refine hR.out.mono ?_; rintro e w1 ⟨rfl, g', hg', hc, ho⟩; obtain ⟨A, cap, c, hb, hP, hst⟩ := ref_some hc hF.out; have HP := Lib.hid hP; clear hP)
    have hP := HP.out
    rw [← hI.out, ← hKK.out] at hP
    have c1 := obj_cell hP 1
    have c2 := obj_cell hP 2
    have hf := obj_free hP 2
    have hpg := hc.1.2.2.1
    have hpl := hc.1.2.2.2.1
    have hST := Lib.hid hst
    have hgl := hc.1.2.2.2.2.1
    have hHC := Lib.hid hc
    have hPP := Lib.hid hP
    have hHO := Lib.hid ho
    have hHB := Lib.hid hb
    clear hP hc hst ho hb
    have hwr : IntKind.i64.wrap ((i : Int) + (n : Int)) = (i : Int) + (n : Int) := IntWalk.i64_in _ (by omega)
    go_region_law (first
      | (refine step_append_stk (by rfl) _ _ (by rfl) (g := g') (c := c) (m := k + 1) (xs := (l :: r).reverse) (hST.out.keep (Below.heap_alloc _ _ _ hgl)) (by rw [hLR.out]; omega) hLR.out.symm (by rfl) ⟨w1.heap.size, 0, none⟩ 1 (i + n) (by rfl) (cell_one_new _ _ _ 0 _ (by simp)) ?_
         intro g2 cc2 w2 hst2 hgr2 hg2 hlt2
         have hp2 := ((hgr2.block p (Nat.lt_of_lt_of_le hpl (by simp)) (fun e => hpg (Option.some.inj e))).trans (Below.heap_alloc _ _ _ hpl)).trans hPP.out
         have hc2 := obj_cell hp2 2
         have hf2 := obj_free hp2 2
         have HP2 := Lib.hid hp2
         clear hp2))
    all_goals go_wp2
    all_goals
      go_ret
      exact ropen_done hHC.out hg' hHO.out hI.out hKK.out (by rw [hOO.out, hI.out]) hRR.out ((drawn_bel w1 1).alloc (Nat.le_refl _) _) hgr2 hg2 hlt2 hst2 HP2.out hHB.out
end Go.Proofs.Ytclfoiodbjaanaa
