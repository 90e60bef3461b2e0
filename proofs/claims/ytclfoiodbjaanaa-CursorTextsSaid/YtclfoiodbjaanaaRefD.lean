/- The document's cursor: Text, Open. -/
import Derived.Test.YtclfoiodbjaanaaRefC
namespace Go.Proofs.Ytclfoiodbjaanaa
open Go.RowKit
set_option linter.unusedVariables false
set_option maxRecDepth 100000

theorem rd_text_none {bs : List UInt8} {s : St} (h : (s.rd tLen 0 bs).2.fr = []) : s.rd tText [] bs = ([], (s.rd tLen 0 bs).2) := by
  obtain ⟨i, fr⟩ := s
  cases fr with
  | nil => rfl
  | cons l r =>
    unfold St.rd at h ⊢
    dsimp only at h ⊢
    by_cases hz : (tLen (segOf bs i l)).2 = 0
    · have hz2 : (tText (segOf bs i l)).2 = 0 := by unfold tText; dsimp only; rw [tLen_zero _ hz, hz]
      simp only [if_pos hz, if_pos hz2]
    · simp only [if_neg hz] at h
      cases h
theorem rd_text_some {bs : List UInt8} {s : St} {l : Nat} {r : List Nat} (hR : Right bs s) (h : (s.rd tLen 0 bs).2.fr = l :: r) :
    s.rd tText [] bs = ((bs.take ((s.rd tLen 0 bs).2.at_ + (s.rd tLen 0 bs).1)).drop (s.rd tLen 0 bs).2.at_, ⟨(s.rd tLen 0 bs).2.at_ + (s.rd tLen 0 bs).1, (s.rd tLen 0 bs).2.fr⟩) ∧ (s.rd tLen 0 bs).2.at_ + (s.rd tLen 0 bs).1 ≤ l := by
  obtain ⟨i, fr⟩ := s
  cases fr with
  | nil => cases h
  | cons l' r' =>
    unfold Right at hR
    obtain ⟨hil, hl, _⟩ := hR
    unfold St.rd at h ⊢
    dsimp only at h ⊢ hil
    by_cases hz : (tLen (segOf bs i l')).2 = 0
    · simp only [if_pos hz] at h
      cases h
    · have hz2 : ¬ (tText (segOf bs i l')).2 = 0 := by unfold tText; dsimp only; omega
      simp only [if_neg hz, if_neg hz2] at h ⊢
      cases h
      have hsum := tLen_sum (segOf bs i l)
      rw [segOf_length hl] at hsum
      have e2 : (tText (segOf bs i l)).2 = (tLen (segOf bs i l)).2 + (tLen (segOf bs i l)).1 := rfl
      have e1 : (tText (segOf bs i l)).1 = ((segOf bs i l).drop (tLen (segOf bs i l)).2).take (tLen (segOf bs i l)).1 := rfl
      refine ⟨?_, by omega⟩
      rw [e1, e2, Nat.add_assoc]
      congr 1
      generalize (tLen (segOf bs i l)).2 = k at *
      generalize (tLen (segOf bs i l)).1 = n at *
      rw [segOf, List.drop_drop, List.take_drop, List.take_take, ← Nat.add_assoc, Nat.min_eq_left (by omega)]
      
theorem RefTo.drawn {W w w' : World} {p g : Nat} {bs : List UInt8} {s : St} {v : Value} {e : Ending} (h : RefTo W w p g bs s v e w') (m : Nat) : RefTo W w p g bs s v e (w'.drewN m) := by
  obtain ⟨he, g2, hg2, hr, ho⟩ := h
  exact ⟨he, g2, hg2, hr.bel (drawn_bel w' m), ho.trans (Only.of_below (drawn_bel w' m))⟩
theorem text_ref {W w : World} {p g : Nat} {bs : List UInt8} {s : St} (h : Ref W w p g bs s) (hlen : bs.length ≤ 140737488351232) :
    Calls Try.prog 25 #[.pointer (some ⟨p, 0, none⟩)] w (RefTo W w p g bs (s.rd tText [] bs).2 (.string (strOf (s.rd tText [] bs).1))) := by
  have hV := Lib.hid (long_ref h hlen)
  have hnone := rd_text_none (bs := bs) (s := s)
  have hsome := fun l r => rd_text_some (l := l) (r := r) h.1.2.2.2.2.2.2
  have hR1 := right_rd (take := tLen) (z := 0) h.1.2.2.2.2.2.2 (fun b => by have := tLen_sum b; omega)
  have hL : s.long bs = match (s.rd tLen 0 bs).2.fr with | [] => -1 | _ :: _ => ((s.rd tLen 0 bs).1 : Int) := rfl
  obtain ⟨s1, hs1⟩ : ∃ s1, s1 = (s.rd tLen 0 bs).2 := ⟨_, rfl⟩
  obtain ⟨n, hn⟩ : ∃ n, n = (s.rd tLen 0 bs).1 := ⟨_, rfl⟩
  rw [← hs1] at hV hnone hsome hR1 hL
  rw [← hn] at hsome hL
  clear hs1 hn
  rcases hfr : s1.fr with _ | ⟨l, r⟩
  · have e1 := hnone hfr
    rw [hfr] at hL
    rw [hL] at hV
    rw [e1]
    clear hnone hsome hfr e1 h hR1 hL
    go_enter Try.func25, Try.ntmps25
    go_wp2_with (go_at_call 48; refine hV.out.mono ?_; rintro e w1 ⟨rfl, g', hg', hr, ho⟩)
    go_ret
    exact ⟨rfl, g', hg', hr, ho⟩
  · obtain ⟨e0, hin⟩ := hsome l r hfr
    rw [hfr] at hL
    rw [hL] at hV
    dsimp only at hV
    have hRR := Lib.hid hR1
    unfold Right at hR1
    rw [hfr] at hR1
    obtain ⟨b1, b2, b3, b4, b5⟩ := hR1
    have hF := Lib.hid hfr
    have e1 := Lib.hid e0
    clear e0
    obtain ⟨i, hi⟩ : ∃ i, i = s1.at_ := ⟨_, rfl⟩
    rw [← hi] at hin b1 b5
    have hI := Lib.hid hi
    clear hnone hsome hfr h hL b3 b4 b5 hi
    go_enter Try.func25, Try.ntmps25
    go_wp2_with fail
    refine hV.out.mono ?_
    rintro e w1 ⟨rfl, g', hg', hr, ho⟩
    obtain ⟨A, cap, c, hB, hp, hst⟩ := ref_some hr hF.out
    have hp0 := hp
    rw [← hI.out] at hp
    have c0 := obj_cell hp 0
    have c1 := obj_cell hp 1
    have f1 := obj_free hp 1
    have hle := hB.le
    have hmax := hB.max
    unfold maxLen at hmax
    have hx : (i : Int) + (n : Int) = ((s1.at_ + n : Nat) : Int) := by have := hI.out; omega
    have hTo : Hid (RefTo W w1 p g' bs ⟨s1.at_ + n, s1.fr⟩ (.string (strOf ((bs.take (s1.at_ + n)).drop s1.at_))) (.returned (.string (strOf ((bs.take (s1.at_ + n)).drop s1.at_)))) (w1.setCell ⟨p, 1, none⟩ (.int .i64 ((i : Int) + (n : Int))))) :=
      ref_to_on (n := 0) hr hF.out (by have := hI.out; omega) _ hx
    have hlb : (bs.take (i + n)).length = i + n := by simp; omega
    have hB2 : Bs (w1.setCell ⟨p, 1, none⟩ (.int .i64 ((i : Int) + (n : Int)))) A cap (bs.take (i + n)) := by
      obtain ⟨_, _, _, hr2, _⟩ := hTo.out
      exact (hB.below hr2.1.2.2.2.2.2.1 (Nat.le_refl _)).take _
    have hcut := hB2.cut i (by rw [hlb]; omega)
    have g1 : ∀ m, (convert 22 9 (.slice (if cap = i then A else A.map (·.add i)) n (cap - i))).run Try.prog ((w1.setCell ⟨p, 1, none⟩ (.int .i64 ((i : Int) + (n : Int)))).drewN m) = .ok (.string (strOf ((bs.take (i + n)).drop i))) ((w1.setCell ⟨p, 1, none⟩ (.int .i64 ((i : Int) + (n : Int)))).drewN m) := by
      intro m
      have q := run_string_bytes (P := Try.prog) (hcut.below (drawn_bel _ m) (Nat.le_refl _)) Try.underlying22 Try.underlying5 Try.underlying9
      rw [List.length_drop, hlb, Nat.add_sub_cancel_left] at q
      exact q
    have HO := Lib.hid ho
    obtain ⟨len, hlen2⟩ : ∃ len, len = bs.length := ⟨_, rfl⟩
    rw [← hlen2] at c0 hle b2 hlen
    clear hp hp0 hst hB hB2 hcut hlb hr ho hlen2 hx
    have hw : IntKind.i64.wrap ((i : Int) + (n : Int) - (n : Int)) = (i : Int) := by
      rw [show (i : Int) + (n : Int) - (n : Int) = (i : Int) by omega]
      exact IntWalk.i64_in _ (by omega)
    by_cases hci : cap = i
    · rw [if_pos hci] at g1
      have hn0 : n = 0 := by omega
      have hlen2 : cap = len := by omega
      subst hci hn0 hlen2
      simp only [Nat.sub_self, Int.natCast_zero, Int.add_zero, Nat.add_zero, Int.sub_zero] at g1 hTo hw
      have hz : Hid (List.drop s1.at_ (List.take s1.at_ bs) = []) := by show _ = _; rw [List.drop_eq_nil_iff]; simp; omega
      rw [hz.out] at hTo
      go_wp2
      go_quiet (fail)
      go_wp2
      go_ret
      rw [e1.out, Nat.add_zero, hz.out]
      exact (hTo.out.after HO.out hg').drawn _
    · rw [if_neg hci] at g1
      have hin2 : (i + n : Nat) ≤ cap := by omega
      go_wp2
      go_quiet (fail)
      go_wp2
      go_ret
      rw [e1.out]
      rw [hI.out] at hTo ⊢
      exact (hTo.out.after HO.out hg').drawn _
end Go.Proofs.Ytclfoiodbjaanaa
