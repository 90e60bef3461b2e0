/- Several texts in one: RefC, RefD, RefE, RefF, RefG. What each proves, and its conditions, stands at its own head. -/
import Derived.Test.YtalbiieagcandaaPkR25
import Derived.Deep.RegionLaw
import Derived.Test.YtalbiieagcandaaPkR20
import Derived.Test.YtalbiieagcandaaPkR1
/- The document's cursor: long, Text, Open. -/
namespace Go.Proofs.Ytalbiieagcandaa
open Go.RowKit
set_option linter.unusedVariables false
set_option maxRecDepth 100000

theorem rd_len_none {bs : List UInt8} {s : St} (h : (s.rd tVar 0 bs).2.fr = []) : (s.rd tLen 0 bs).2 = (s.rd tVar 0 bs).2 := by
  obtain ⟨i, fr⟩ := s
  cases fr with
  | nil => rfl
  | cons l r =>
    unfold St.rd at h ⊢
    dsimp only at h ⊢
    by_cases hz : (tVar (segOf bs i l)).2 = 0
    · have hz2 : (tLen (segOf bs i l)).2 = 0 := by
        unfold tLen
        split
        · rfl
        · exact hz
      rw [if_pos hz, if_pos hz2]
    · rw [if_neg hz] at h
      cases h
theorem rd_len_some {bs : List UInt8} {s : St} {l : Nat} {r : List Nat} (hR : Right bs s) (h : (s.rd tVar 0 bs).2.fr = l :: r) :
    s.rd tLen 0 bs = if l - (s.rd tVar 0 bs).2.at_ < (s.rd tVar 0 bs).1 then (0, St.none) else ((s.rd tVar 0 bs).1, (s.rd tVar 0 bs).2) := by
  obtain ⟨i, fr⟩ := s
  cases fr with
  | nil => cases h
  | cons l' r' =>
    unfold Right at hR
    obtain ⟨_, hl, _⟩ := hR
    unfold St.rd at h ⊢
    dsimp only at h ⊢
    by_cases hz : (tVar (segOf bs i l')).2 = 0
    · rw [if_pos hz] at h
      cases h
    · simp only [if_neg hz] at h ⊢
      cases h
      have hlen := segOf_length (i := i) hl
      have hd : l - (i + (tVar (segOf bs i l)).2) = (segOf bs i l).length - (getFrom 0 0 (segOf bs i l)).2 := by rw [hlen]; unfold tVar; omega
      have ht : (tVar (segOf bs i l)).1 = (getFrom 0 0 (segOf bs i l)).1 := rfl
      rw [hd, ht]
      by_cases hc : (segOf bs i l).length - (getFrom 0 0 (segOf bs i l)).2 < (getFrom 0 0 (segOf bs i l)).1
      · have e : tLen (segOf bs i l) = (0, 0) := by unfold tLen; rw [if_pos hc]
        rw [e, if_pos rfl, if_pos hc]
      · have e : tLen (segOf bs i l) = tVar (segOf bs i l) := by unfold tLen; rw [if_neg hc]; rfl
        rw [e, if_neg hz, if_neg hc, ht]
/-- How many bytes; -1: it fails. -/
def St.long (bs : List UInt8) (s : St) : Int := match (s.rd tLen 0 bs).2.fr with
  | [] => -1
  | _ :: _ => ((s.rd tLen 0 bs).1 : Int)

theorem RefTo.after {W w w1 w' : World} {p g g' : Nat} {bs : List UInt8} {s : St} {v : Value} {e : Ending} (h : RefTo W w1 p g' bs s v e w') (ho : Only p g w w1) (hg : g' = g ∨ g' ≥ w.heap.size) : RefTo W w p g bs s v e w' := by
  obtain ⟨he, g2, hg2, hr, ho2⟩ := h
  have hs := ho.size
  refine ⟨he, g2, ?_, hr, ho.then ho2 hg⟩
  rcases hg2 with rfl | hg2
  · exact hg
  · exact .inr (by omega)
theorem long_ref {W w : World} {p g : Nat} {bs : List UInt8} {s : St} (h : Ref W w p g bs s) (hlen : bs.length ≤ 140737488351232) :
    Calls Try.prog 71 #[.pointer (some ⟨p, 0, none⟩)] w (RefTo W w p g bs (s.rd tLen 0 bs).2 (.int .i64 (s.long bs))) := by
  have hV := Lib.hid (rvarint_ref h)
  have hn64 : (s.rd tVar 0 bs).1 < 18446744073709551616 := by
    unfold St.rd
    split
    · exact (by decide : (0 : Nat) < 18446744073709551616)
    · split
      · exact (by decide : (0 : Nat) < 18446744073709551616)
      · exact tVar_lt _
  have hnone := rd_len_none (bs := bs) (s := s)
  have hsome := fun l r => rd_len_some (l := l) (r := r) h.1.2.2.2.2.2.2
  have hR1 := right_rd (take := tVar) (z := 0) h.1.2.2.2.2.2.2 tVar_le
  obtain ⟨s1, hs1⟩ : ∃ s1, s1 = (s.rd tVar 0 bs).2 := ⟨_, rfl⟩
  obtain ⟨n, hn⟩ : ∃ n, n = (s.rd tVar 0 bs).1 := ⟨_, rfl⟩
  rw [← hs1] at hV hnone hsome hR1
  rw [← hn] at hV hsome hn64
  clear hs1 hn
  rcases hfr : s1.fr with _ | ⟨l, r⟩
  · have e1 := hnone hfr
    have e2 : Hid (s.long bs = -1) := by show _ = _; unfold St.long; rw [e1, hfr]
    rw [e1]
    have hF := Lib.hid hfr
    clear hnone hsome hfr e1 h hR1
    go_enter Try.func71, Try.ntmps71
    go_wp2_with (go_at_call 53; refine hV.out.mono ?_; rintro e w1 ⟨rfl, g', hg', hr, ho⟩; obtain ⟨A, cap, hB, hp⟩ := ref_none hr hF.out; have c3 := obj_cell hp 3; have HR := Lib.hid hr; have HO := Lib.hid ho; have HB := Lib.hid hB; clear hp hr ho hB)
    go_quiet (fail)
    go_wp2
    go_ret
    exact ⟨by rw [e2.out]; rfl, g', hg', HR.out.bel (drawn_bel w1 _), HO.out.trans (Only.of_below (drawn_bel w1 _))⟩
  · have e1 := hsome l r hfr
    have hF := Lib.hid hfr
    unfold Right at hR1
    rw [hfr] at hR1
    obtain ⟨b1, b2, b3, b4, b5⟩ := hR1
    obtain ⟨i, hi⟩ : ∃ i, i = s1.at_ := ⟨_, rfl⟩
    rw [← hi] at b1 b5 e1
    have hI := Lib.hid hi
    obtain ⟨k0, hk0⟩ : ∃ k0, k0 = r.length := ⟨_, rfl⟩
    rw [← hk0] at b5
    have hK0 := Lib.hid hk0
    clear hnone hsome hfr h b3 b4 hi hk0
    have hw1 : IntKind.i64.wrap ((l : Int) - (i : Int)) = ((l - i : Nat) : Int) := by
      rw [show (l : Int) - (i : Int) = ((l - i : Nat) : Int) by omega]
      exact IntWalk.i64_in _ (by omega)
    have hw2 : IntKind.u64.wrap ((l - i : Nat) : Int) = ((l - i : Nat) : Int) := IntWalk.u64_in _ (by omega)
    by_cases hc : l - i < n
    · have hd : decide (l - i < n) = true := decide_eq_true hc
      have e2 : Hid (s.long bs = -1) := by show _ = _; unfold St.long; rw [e1, if_pos hc]; rfl
      rw [e1, if_pos hc]
      clear e1 hc
      go_enter Try.func71, Try.ntmps71
      go_wp2_with (go_at_call 53; refine hV.out.mono ?_; rintro e w1 ⟨rfl, g', hg', hr, ho⟩; obtain ⟨A, cap, c, hB, hp, hst⟩ := ref_some hr hF.out; rw [← hK0.out, ← hI.out] at hp; have c3 := obj_cell hp 3; have c2 := obj_cell hp 2; have c1 := obj_cell hp 1; have hl := hst.last; rw [← hK0.out] at hl; have HP := Lib.hid hp; have HR := Lib.hid hr; have HO := Lib.hid ho; have HB := Lib.hid hB; clear hp hr ho hB hst)
      go_quiet ((go_at_call 51; exact Calls.quiet_of (rend_cells p g' k0 c l _ (by omega) c2 hl)))
      go_wp2_with (go_at_call 68; refine (fail_any p _ _ _ _ (w1.drewN _) HP.out).mono ?_; rintro e w2 ⟨rfl, hw2⟩; have hr2 := ref_to_fail HR.out (.int .i64 (-1)) nq; rw [hw2] at hr2; have hrow := failed_row (w := w1.drewN nq) HP.out; rw [hw2] at hrow; have c3' := obj_cell hrow 3; have HR2 := Lib.hid hr2; clear hw2 hr2 hrow)
      go_ret
      rw [e2.out]
      exact HR2.out.after HO.out hg'
    · have hd : decide (l - i < n) = false := decide_eq_false hc
      have e2 : Hid (s.long bs = (n : Int)) := by show _ = _; unfold St.long; rw [e1, if_neg hc]; dsimp only; rw [hF.out]
      have hw3 : IntKind.i64.wrap (n : Int) = (n : Int) := IntWalk.i64_in _ (by omega)
      rw [e1, if_neg hc]
      clear e1 hc
      go_enter Try.func71, Try.ntmps71
      go_wp2_with (go_at_call 53; refine hV.out.mono ?_; rintro e w1 ⟨rfl, g', hg', hr, ho⟩; obtain ⟨A, cap, c, hB, hp, hst⟩ := ref_some hr hF.out; rw [← hK0.out, ← hI.out] at hp; have c3 := obj_cell hp 3; have c2 := obj_cell hp 2; have c1 := obj_cell hp 1; have hl := hst.last; rw [← hK0.out] at hl; have HP := Lib.hid hp; have HR := Lib.hid hr; have HO := Lib.hid ho; have HB := Lib.hid hB; clear hp hr ho hB hst)
      go_quiet ((go_at_call 51; exact Calls.quiet_of (rend_cells p g' k0 c l _ (by omega) c2 hl)))
      go_wp2
      go_ret
      exact ⟨by rw [e2.out]; rfl, g', hg', HR.out.bel (drawn_bel w1 _), HO.out.trans (Only.of_below (drawn_bel w1 _))⟩
end Go.Proofs.Ytalbiieagcandaa

/- The document's cursor: Text, Open. -/
namespace Go.Proofs.Ytalbiieagcandaa
open Go.RowKit
set_option linter.unusedVariables false
set_option maxRecDepth 100000

theorem rd_text_none {bs : List UInt8} {s : St} (h : (s.rd tLen 0 bs).2.fr = []) : s.rd tText [] bs = ([], (s.rd tLen 0 bs).2) := by
  obtain ⟨i, fr⟩ := s
  cases fr with
  | nil => rfl
  | cons l r =>
    unfold St.rd at h ⊢
    dsimp only at h ⊢
    by_cases hz : (tLen (segOf bs i l)).2 = 0
    · have hz2 : (tText (segOf bs i l)).2 = 0 := by unfold tText; dsimp only; rw [tLen_zero _ hz, hz]
      simp only [if_pos hz, if_pos hz2]
    · simp only [if_neg hz] at h
      cases h
theorem rd_text_some {bs : List UInt8} {s : St} {l : Nat} {r : List Nat} (hR : Right bs s) (h : (s.rd tLen 0 bs).2.fr = l :: r) :
    s.rd tText [] bs = ((bs.take ((s.rd tLen 0 bs).2.at_ + (s.rd tLen 0 bs).1)).drop (s.rd tLen 0 bs).2.at_, ⟨(s.rd tLen 0 bs).2.at_ + (s.rd tLen 0 bs).1, (s.rd tLen 0 bs).2.fr⟩) ∧ (s.rd tLen 0 bs).2.at_ + (s.rd tLen 0 bs).1 ≤ l := by
  obtain ⟨i, fr⟩ := s
  cases fr with
  | nil => cases h
  | cons l' r' =>
    unfold Right at hR
    obtain ⟨hil, hl, _⟩ := hR
    unfold St.rd at h ⊢
    dsimp only at h ⊢ hil
    by_cases hz : (tLen (segOf bs i l')).2 = 0
    · simp only [if_pos hz] at h
      cases h
    · have hz2 : ¬ (tText (segOf bs i l')).2 = 0 := by unfold tText; dsimp only; omega
      simp only [if_neg hz, if_neg hz2] at h ⊢
      cases h
      have hsum := tLen_sum (segOf bs i l)
      rw [segOf_length hl] at hsum
      have e2 : (tText (segOf bs i l)).2 = (tLen (segOf bs i l)).2 + (tLen (segOf bs i l)).1 := rfl
      have e1 : (tText (segOf bs i l)).1 = ((segOf bs i l).drop (tLen (segOf bs i l)).2).take (tLen (segOf bs i l)).1 := rfl
      refine ⟨?_, by omega⟩
      rw [e1, e2, Nat.add_assoc]
      congr 1
      generalize (tLen (segOf bs i l)).2 = k at *
      generalize (tLen (segOf bs i l)).1 = n at *
      rw [segOf, List.drop_drop, List.take_drop, List.take_take, ← Nat.add_assoc, Nat.min_eq_left (by omega)]
      
theorem RefTo.drawn {W w w' : World} {p g : Nat} {bs : List UInt8} {s : St} {v : Value} {e : Ending} (h : RefTo W w p g bs s v e w') (m : Nat) : RefTo W w p g bs s v e (w'.drewN m) := by
  obtain ⟨he, g2, hg2, hr, ho⟩ := h
  exact ⟨he, g2, hg2, hr.bel (drawn_bel w' m), ho.trans (Only.of_below (drawn_bel w' m))⟩
theorem text_ref {W w : World} {p g : Nat} {bs : List UInt8} {s : St} (h : Ref W w p g bs s) (hlen : bs.length ≤ 140737488351232) :
    Calls Try.prog 55 #[.pointer (some ⟨p, 0, none⟩)] w (RefTo W w p g bs (s.rd tText [] bs).2 (.string (strOf (s.rd tText [] bs).1))) := by
  have hV := Lib.hid (long_ref h hlen)
  have hnone := rd_text_none (bs := bs) (s := s)
  have hsome := fun l r => rd_text_some (l := l) (r := r) h.1.2.2.2.2.2.2
  have hR1 := right_rd (take := tLen) (z := 0) h.1.2.2.2.2.2.2 (fun b => by have := tLen_sum b; omega)
  have hL : s.long bs = match (s.rd tLen 0 bs).2.fr with | [] => -1 | _ :: _ => ((s.rd tLen 0 bs).1 : Int) := rfl
  obtain ⟨s1, hs1⟩ : ∃ s1, s1 = (s.rd tLen 0 bs).2 := ⟨_, rfl⟩
  obtain ⟨n, hn⟩ : ∃ n, n = (s.rd tLen 0 bs).1 := ⟨_, rfl⟩
  rw [← hs1] at hV hnone hsome hR1 hL
  rw [← hn] at hsome hL
  clear hs1 hn
  rcases hfr : s1.fr with _ | ⟨l, r⟩
  · have e1 := hnone hfr
    rw [hfr] at hL
    rw [hL] at hV
    rw [e1]
    clear hnone hsome hfr e1 h hR1 hL
    go_enter Try.func55, Try.ntmps55
    go_wp2_with (go_at_call 71; refine hV.out.mono ?_; rintro e w1 ⟨rfl, g', hg', hr, ho⟩)
    go_ret
    exact ⟨rfl, g', hg', hr, ho⟩
  · obtain ⟨e0, hin⟩ := hsome l r hfr
    rw [hfr] at hL
    rw [hL] at hV
    dsimp only at hV
    have hRR := Lib.hid hR1
    unfold Right at hR1
    rw [hfr] at hR1
    obtain ⟨b1, b2, b3, b4, b5⟩ := hR1
    have hF := Lib.hid hfr
    have e1 := Lib.hid e0
    clear e0
    obtain ⟨i, hi⟩ : ∃ i, i = s1.at_ := ⟨_, rfl⟩
    rw [← hi] at hin b1 b5
    have hI := Lib.hid hi
    clear hnone hsome hfr h hL b3 b4 b5 hi
    go_enter Try.func55, Try.ntmps55
    go_wp2_with fail
    refine hV.out.mono ?_
    rintro e w1 ⟨rfl, g', hg', hr, ho⟩
    obtain ⟨A, cap, c, hB, hp, hst⟩ := ref_some hr hF.out
    have hp0 := hp
    rw [← hI.out] at hp
    have c0 := obj_cell hp 0
    have c1 := obj_cell hp 1
    have f1 := obj_free hp 1
    have hle := hB.le
    have hmax := hB.max
    unfold maxLen at hmax
    have hx : (i : Int) + (n : Int) = ((s1.at_ + n : Nat) : Int) := by have := hI.out; omega
    have hTo : Hid (RefTo W w1 p g' bs ⟨s1.at_ + n, s1.fr⟩ (.string (strOf ((bs.take (s1.at_ + n)).drop s1.at_))) (.returned (.string (strOf ((bs.take (s1.at_ + n)).drop s1.at_)))) (w1.setCell ⟨p, 1, none⟩ (.int .i64 ((i : Int) + (n : Int))))) :=
      ref_to_on (n := 0) hr hF.out (by have := hI.out; omega) _ hx
    have hlb : (bs.take (i + n)).length = i + n := by simp; omega
    have hB2 : Bs (w1.setCell ⟨p, 1, none⟩ (.int .i64 ((i : Int) + (n : Int)))) A cap (bs.take (i + n)) := by
      obtain ⟨_, _, _, hr2, _⟩ := hTo.out
      exact (hB.below hr2.1.2.2.2.2.2.1 (Nat.le_refl _)).take _
    have hcut := hB2.cut i (by rw [hlb]; omega)
    have g1 : ∀ m, (convert 29 9 (.slice (if cap = i then A else A.map (·.add i)) n (cap - i))).run Try.prog ((w1.setCell ⟨p, 1, none⟩ (.int .i64 ((i : Int) + (n : Int)))).drewN m) = .ok (.string (strOf ((bs.take (i + n)).drop i))) ((w1.setCell ⟨p, 1, none⟩ (.int .i64 ((i : Int) + (n : Int)))).drewN m) := by
      intro m
      have q := run_string_bytes (P := Try.prog) (hcut.below (drawn_bel _ m) (Nat.le_refl _)) Try.underlying29 Try.underlying5 Try.underlying9
      rw [List.length_drop, hlb, Nat.add_sub_cancel_left] at q
      exact q
    have HO := Lib.hid ho
    obtain ⟨len, hlen2⟩ : ∃ len, len = bs.length := ⟨_, rfl⟩
    rw [← hlen2] at c0 hle b2 hlen
    clear hp hp0 hst hB hB2 hcut hlb hr ho hlen2 hx
    have hw : IntKind.i64.wrap ((i : Int) + (n : Int) - (n : Int)) = (i : Int) := by
      rw [show (i : Int) + (n : Int) - (n : Int) = (i : Int) by omega]
      exact IntWalk.i64_in _ (by omega)
    by_cases hci : cap = i
    · rw [if_pos hci] at g1
      have hn0 : n = 0 := by omega
      have hlen2 : cap = len := by omega
      subst hci hn0 hlen2
      simp only [Nat.sub_self, Int.natCast_zero, Int.add_zero, Nat.add_zero, Int.sub_zero] at g1 hTo hw
      have hz : Hid (List.drop s1.at_ (List.take s1.at_ bs) = []) := by show _ = _; rw [List.drop_eq_nil_iff]; simp; omega
      rw [hz.out] at hTo
      go_wp2
      go_quiet (fail)
      go_wp2
      go_ret
      rw [e1.out, Nat.add_zero, hz.out]
      exact (hTo.out.after HO.out hg').drawn _
    · rw [if_neg hci] at g1
      have hin2 : (i + n : Nat) ≤ cap := by omega
      go_wp2
      go_quiet (fail)
      go_wp2
      go_ret
      rw [e1.out]
      rw [hI.out] at hTo ⊢
      exact (hTo.out.after HO.out hg').drawn _
end Go.Proofs.Ytalbiieagcandaa

/- The document's cursor: Open, Tag, Close, More, From. -/
namespace Go.Proofs.Ytalbiieagcandaa
open Go.RowKit
set_option linter.unusedVariables false
set_option maxRecDepth 100000

theorem ropen_done {W w w1 wa w2 : World} {p g g' g2 l n k i cap cc : Nat} {r : List Nat} {bs : List UInt8} {s s1 : St} {A : Option Addr} {ve : Value} (hc : Ref W w1 p g' bs s1) (hg' : g' = g ∨ g' ≥ w.heap.size) (ho : Only p g w w1) (hi : i = s1.at_) (hk : k = r.length)
    (hopen : s.opens bs = ⟨i, (i + n) :: l :: r⟩) (hR : Right bs (s.opens bs)) (hb : Below w1.heap.size w1 wa) (hgr : wa.grownBy w2 (some g')) (hg2 : g2 = g' ∨ g2 ≥ wa.heap.size) (hlt : g2 < w2.heap.size)
    (hst : Stk w2 g2 cc ((l :: r).reverse ++ [i + n])) (hp2 : w2.heap[p]? = some (.cells #[.slice A bs.length cap, .int .i64 (i : Int), ve, .bool false] 60 (0, 0))) (hB : Bs W A cap bs) :
    RefTo W w p g bs (s.opens bs) (.bool (s.opens bs).oks) (.returned (.bool true)) (w2.setCell ⟨p, 2, none⟩ (.slice (some ⟨g2, 0, none⟩) (k + 1 + 1) cc)) := by
  subst hi hk
  obtain ⟨⟨h1, h2, h3, h4, h5, h6, h7⟩, _⟩ := hc
  have hbs := hb.size
  have hgs := hgr.size
  have hos := ho.size
  have hgp : g2 ≠ p := by rcases hg2 with rfl | hg2 <;> omega
  have hsz : (w2.setCell ⟨p, 2, none⟩ (.slice (some ⟨g2, 0, none⟩) (r.length + 1 + 1) cc)).heap.size = w2.heap.size := by simp [World.setCell]
  have hW : Below W.heap.size W (w2.setCell ⟨p, 2, none⟩ (.slice (some ⟨g2, 0, none⟩) (r.length + 1 + 1) cc)) :=
    ((h6.trans (hb.mono (by omega))).grown hgr (by omega) (fun k e => by cases e; exact h2)).setCell (p := ⟨p, 2, none⟩) h1 _
  refine ⟨by rw [hopen]; rfl, g2, ?_, ⟨⟨h1, ?_, hgp.symm, by rw [hsz]; omega, by rw [hsz]; exact hlt, hW, hR⟩, A, cap, hB, .inr ?_⟩, ?_⟩
  · rcases hg2 with rfl | hg2
    · rcases hg' with rfl | hg'
      · exact .inl rfl
      · exact .inr hg'
    · exact .inr (by omega)
  · rcases hg2 with rfl | hg2 <;> omega
  · rw [hopen]
    refine ⟨s1.at_ + n, l :: r, cc, rfl, ?_, ?_⟩
    · rw [obj_set hp2 2]
      rfl
    · refine Stk.keep (w := w2) ?_ (heap_setCell_other w2 _ g2 _ hgp)
      have e : ((s1.at_ + n) :: l :: r).reverse = (l :: r).reverse ++ [s1.at_ + n] := by simp
      rw [e]
      exact hst
  · have o1 : Only p g' w1 w2 := (Only.of_below hb).grown hgr (fun k e => .inr (by cases e; rfl))
    exact ho.then (o1.set (q := ⟨p, 2, none⟩) (.inl rfl) _) hg'
end Go.Proofs.Ytalbiieagcandaa

/- The document's cursor: Tag, Close, More, From. -/
namespace Go.Proofs.Ytalbiieagcandaa
open Go.RowKit
set_option linter.unusedVariables false
set_option maxRecDepth 100000

theorem rd_tag_none {bs : List UInt8} {s : St} (h : (s.rd tVar 0 bs).2.fr = []) : s.rd tTag (0, 0) bs = ((0, 0), (s.rd tVar 0 bs).2) := by
  obtain ⟨i, fr⟩ := s
  cases fr with
  | nil => rfl
  | cons l r =>
    unfold St.rd at h ⊢
    dsimp only at h ⊢
    by_cases hz : (tVar (segOf bs i l)).2 = 0
    · have hz2 : (tTag (segOf bs i l)).2 = 0 := by
        unfold tTag
        dsimp only
        split
        · exact hz
        · rfl
      simp only [if_pos hz, if_pos hz2]
    · simp only [if_neg hz] at h
      cases h
theorem rd_tag_some {bs : List UInt8} {s : St} {l : Nat} {r : List Nat} (h : (s.rd tVar 0 bs).2.fr = l :: r) :
    s.rd tTag (0, 0) bs = if splitOk (s.rd tVar 0 bs).1 = true then ((splitN (s.rd tVar 0 bs).1, splitW (s.rd tVar 0 bs).1), (s.rd tVar 0 bs).2) else ((0, 0), St.none) := by
  obtain ⟨i, fr⟩ := s
  cases fr with
  | nil => cases h
  | cons l' r' =>
    unfold St.rd at h ⊢
    dsimp only at h ⊢
    by_cases hz : (tVar (segOf bs i l')).2 = 0
    · simp only [if_pos hz] at h
      cases h
    · simp only [if_neg hz] at h ⊢
      have e : (tVar (segOf bs i l')).1 = (getFrom 0 0 (segOf bs i l')).1 := rfl
      have e2 : (tVar (segOf bs i l')).2 = (getFrom 0 0 (segOf bs i l')).2 := rfl
      rw [e2] at hz
      cases hok : splitOk (getFrom 0 0 (segOf bs i l')).1
      · have e1 : (tTag (segOf bs i l')).2 = 0 := by unfold tTag; simp [hok]
        rw [if_pos e1, if_neg (by rw [e, hok]; decide)]
      · have e1 : (tTag (segOf bs i l')).2 = (getFrom 0 0 (segOf bs i l')).2 := by unfold tTag; simp [hok]
        rw [e1, if_neg hz, if_pos (by rw [e, hok])]
        rfl

theorem rtag_ref {W w : World} {p g : Nat} {bs : List UInt8} {s : St} (h : Ref W w p g bs s) :
    Calls Try.prog 52 #[.pointer (some ⟨p, 0, none⟩)] w (RefTo W w p g bs (s.rd tTag (0, 0) bs).2 (.tuple #[.int .i64 ((s.rd tTag (0, 0) bs).1.1 : Int), .int .i64 ((s.rd tTag (0, 0) bs).1.2 : Int)])) := by
  have hV := Lib.hid (rvarint_ref h)
  have hn64 : (s.rd tVar 0 bs).1 < 18446744073709551616 := by
    unfold St.rd
    split
    · exact (by decide : (0 : Nat) < 18446744073709551616)
    · split
      · exact (by decide : (0 : Nat) < 18446744073709551616)
      · exact tVar_lt _
  have hnone := rd_tag_none (bs := bs) (s := s)
  have hsome := fun l r => rd_tag_some (bs := bs) (s := s) (l := l) (r := r)
  obtain ⟨s1, hs1⟩ : ∃ s1, s1 = (s.rd tVar 0 bs).2 := ⟨_, rfl⟩
  obtain ⟨n, hn⟩ : ∃ n, n = (s.rd tVar 0 bs).1 := ⟨_, rfl⟩
  rw [← hs1] at hV hnone hsome
  rw [← hn] at hV hsome hn64
  have hS := Lib.hid (fun w => rsplit_any n w hn64)
  clear hs1 hn hn64
  obtain ⟨ok, hok⟩ : ∃ ok, ok = splitOk n := ⟨_, rfl⟩
  obtain ⟨x, hx⟩ : ∃ x, x = splitN n := ⟨_, rfl⟩
  obtain ⟨y, hy⟩ : ∃ y, y = splitW n := ⟨_, rfl⟩
  rw [← hok, ← hx, ← hy] at hS hsome
  clear hok hx hy
  rcases hfr : s1.fr with _ | ⟨l, r⟩
  · have e1 := hnone hfr
    have hF := Lib.hid hfr
    rw [e1]
    clear hnone hsome hfr e1 h
    cases ok
    all_goals
      go_enter Try.func52, Try.ntmps52
      go_wp2_with (first
        | (go_at_call 53; refine hV.out.mono ?_; rintro e w1 ⟨rfl, g', hg', hr, ho⟩; obtain ⟨A, cap, hB, hp⟩ := ref_none hr hF.out; have c3 := obj_cell hp 3; have HR := Lib.hid hr; have HO := Lib.hid ho; have HB := Lib.hid hB; clear hp hr ho hB)
        | (go_at_call 67; refine (hS.out _).mono ?_; rintro e w' ⟨rfl, rfl⟩))
      go_ret2
      exact ⟨rfl, g', hg', HR.out, HO.out⟩
  · have e1 := hsome l r hfr
    have hF := Lib.hid hfr
    rw [e1]
    clear hnone hsome hfr e1 h
    cases ok
    · rw [if_neg (by decide)]
      go_enter Try.func52, Try.ntmps52
      go_wp2_with (first
        | (go_at_call 53; refine hV.out.mono ?_; rintro e w1 ⟨rfl, g', hg', hr, ho⟩; obtain ⟨A, cap, c, hB, hp, hst⟩ := ref_some hr hF.out; have c3 := obj_cell hp 3; have HP := Lib.hid hp; have HR := Lib.hid hr; have HO := Lib.hid ho; have HB := Lib.hid hB; clear hp hr ho hB hst)
        | (go_at_call 67; refine (hS.out _).mono ?_; rintro e w' ⟨rfl, rfl⟩)
        | (go_at_call 68; refine (fail_any p _ _ _ _ w1 HP.out).mono ?_; rintro e w2 ⟨rfl, hw2⟩; have hr2 := ref_to_fail HR.out (.tuple #[.int .i64 ((0 : Nat) : Int), .int .i64 ((0 : Nat) : Int)]) 0; have hw2' : failed (w1.drewN 0) p = w2 := hw2; rw [hw2'] at hr2; have hrow := failed_row HP.out; rw [hw2] at hrow; have c3' := obj_cell hrow 3; have HR2 := Lib.hid hr2; clear hw2 hr2 hrow hw2'))
      go_ret2
      exact HR2.out.after HO.out hg'
    · rw [if_pos rfl]
      go_enter Try.func52, Try.ntmps52
      go_wp2_with (first
        | (go_at_call 53; refine hV.out.mono ?_; rintro e w1 ⟨rfl, g', hg', hr, ho⟩; obtain ⟨A, cap, c, hB, hp, hst⟩ := ref_some hr hF.out; have c3 := obj_cell hp 3; have HR := Lib.hid hr; have HO := Lib.hid ho; have HB := Lib.hid hB; clear hp hr ho hB hst)
        | (go_at_call 67; refine (hS.out _).mono ?_; rintro e w' ⟨rfl, rfl⟩))
      go_ret2
      exact ⟨rfl, g', hg', HR.out, HO.out⟩
end Go.Proofs.Ytalbiieagcandaa

/- The document's cursor: More, Close, From. -/
namespace Go.Proofs.Ytalbiieagcandaa
open Go.RowKit
set_option linter.unusedVariables false
set_option maxRecDepth 100000

theorem rmore_ref {W w : World} {p g : Nat} {bs : List UInt8} {s : St} (h : Ref W w p g bs s) :
    Calls Try.prog 32 #[.pointer (some ⟨p, 0, none⟩)] w fun e w' => e = .returned (.bool s.more) ∧ ∃ n, w' = w.drewN n := by
  rcases hfr : s.fr with _ | ⟨l, r⟩
  · have e1 : s.more = false := by simp [St.more, hfr]
    rw [e1]
    obtain ⟨A, cap, hB, hp⟩ := ref_none h hfr
    have c3 := obj_cell hp 3
    clear h hfr hB hp e1
    go_enter Try.func32, Try.ntmps32
    go_wp2
    go_quiet (fail)
    go_wp2
    go_ret
    exact ⟨rfl, _, rfl⟩
  · have e1 : s.more = decide (s.at_ < l) := by simp [St.more, hfr]
    rw [e1]
    obtain ⟨A, cap, c, hB, hp, hst⟩ := ref_some h hfr
    have c1 := obj_cell hp 1
    have c2 := obj_cell hp 2
    have c3 := obj_cell hp 3
    have hl := hst.last
    have hk : r.length + 1 ≤ 9223372036854775807 := by have h1 := hst.le; have h2 := hst.max; simp at h1; unfold maxLen at h2; omega
    obtain ⟨k0, hk0⟩ : ∃ k0, k0 = r.length := ⟨_, rfl⟩
    rw [← hk0] at c2 hl hk
    clear h hfr hB hp hst hk0 e1
    go_enter Try.func32, Try.ntmps32
    go_wp2
    go_quiet ((go_at_call 51; exact Calls.quiet_of (rend_cells p g k0 c l _ hk c2 hl)))
    go_wp2
    go_ret
    exact ⟨by go_num, _, rfl⟩

/-- What the document's From answers. -/
def RBegins (w : World) (A : Option Addr) (cap : Nat) (bs : List UInt8) (e : Ending) (w' : World) : Prop :=
  ∃ p g, e = .returned (.pointer (some ⟨p, 0, none⟩)) ∧ Below w.heap.size w w' ∧ p ≥ w.heap.size ∧ g ≥ w.heap.size ∧ ∀ W : World, W.heap.size ≤ w.heap.size → Below W.heap.size W w → Bs W A cap bs → Ref W w' p g bs ⟨0, [bs.length]⟩
theorem rbegins_done {w : World} {bs : List UInt8} {A : Option Addr} {cap : Nat} :
    RBegins w A cap bs (.returned (.pointer (some ⟨w.heap.size + 1, 0, none⟩))) ((w.alloc (.cells #[.int .i64 (bs.length : Int)] 3)).alloc (.cells #[.slice A bs.length cap, .int .i64 0, .slice (some ⟨w.heap.size, 0, none⟩) 1 1, .bool false] 60)) := by
  have hb2 : Below w.heap.size w ((w.alloc (.cells #[.int .i64 (bs.length : Int)] 3)).alloc (.cells #[.slice A bs.length cap, .int .i64 0, .slice (some ⟨w.heap.size, 0, none⟩) 1 1, .bool false] 60)) :=
    ((Below.refl _ _).alloc (Nat.le_refl _) _).alloc (by simp) _
  have hp := heap_alloc2_new w (.cells #[.int .i64 (bs.length : Int)] 3) (.cells #[.slice A bs.length cap, .int .i64 0, .slice (some ⟨w.heap.size, 0, none⟩) 1 1, .bool false] 60)
  have hg := heap_alloc2_old w (.cells #[.int .i64 (bs.length : Int)] 3) (.cells #[.slice A bs.length cap, .int .i64 0, .slice (some ⟨w.heap.size, 0, none⟩) 1 1, .bool false] 60)
  refine ⟨w.heap.size + 1, w.heap.size, rfl, hb2, by omega, by omega, fun W hW hWw hK => ⟨⟨by omega, hW, by omega, lt_of_block hp, lt_of_block hg, hWw.trans (hb2.mono hW), right_start bs⟩, A, cap, hK, .inr ⟨bs.length, [], 1, rfl, hp, ⟨⟨_, hg, by simp, rfl⟩, by simp, by decide⟩⟩⟩⟩
theorem rfrom_any (A : Option Addr) (n cap : Nat) (bs : List UInt8) (w : World) (hn : n = bs.length) (hb : Bs w A cap bs) :
    Calls Try.prog 31 #[.slice A n cap] w (RBegins w A cap bs) := by
  subst hn
  clear hb
  go_enter Try.func31, Try.ntmps31
  go_wp2
  go_ret
  exact rbegins_done
end Go.Proofs.Ytalbiieagcandaa
