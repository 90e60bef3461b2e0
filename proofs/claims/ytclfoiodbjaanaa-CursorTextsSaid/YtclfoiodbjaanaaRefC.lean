/- The document's cursor: long, Text, Open. -/
import Derived.Test.YtclfoiodbjaanaaRefB
import Derived.Deep.RegionLaw
namespace Go.Proofs.Ytclfoiodbjaanaa
open Go.RowKit
set_option linter.unusedVariables false
set_option maxRecDepth 100000

theorem rd_len_none {bs : List UInt8} {s : St} (h : (s.rd tVar 0 bs).2.fr = []) : (s.rd tLen 0 bs).2 = (s.rd tVar 0 bs).2 := by
  obtain ⟨i, fr⟩ := s
  cases fr with
  | nil => rfl
  | cons l r =>
    unfold St.rd at h ⊢
    dsimp only at h ⊢
    by_cases hz : (tVar (segOf bs i l)).2 = 0
    · have hz2 : (tLen (segOf bs i l)).2 = 0 := by
        unfold tLen
        split
        · rfl
        · exact hz
      rw [if_pos hz, if_pos hz2]
    · rw [if_neg hz] at h
      cases h
theorem rd_len_some {bs : List UInt8} {s : St} {l : Nat} {r : List Nat} (hR : Right bs s) (h : (s.rd tVar 0 bs).2.fr = l :: r) :
    s.rd tLen 0 bs = if l - (s.rd tVar 0 bs).2.at_ < (s.rd tVar 0 bs).1 then (0, St.none) else ((s.rd tVar 0 bs).1, (s.rd tVar 0 bs).2) := by
  obtain ⟨i, fr⟩ := s
  cases fr with
  | nil => cases h
  | cons l' r' =>
    unfold Right at hR
    obtain ⟨_, hl, _⟩ := hR
    unfold St.rd at h ⊢
    dsimp only at h ⊢
    by_cases hz : (tVar (segOf bs i l')).2 = 0
    · rw [if_pos hz] at h
      cases h
    · simp only [if_neg hz] at h ⊢
      cases h
      have hlen := segOf_length (i := i) hl
      have hd : l - (i + (tVar (segOf bs i l)).2) = (segOf bs i l).length - (getFrom 0 0 (segOf bs i l)).2 := by rw [hlen]; unfold tVar; omega
      have ht : (tVar (segOf bs i l)).1 = (getFrom 0 0 (segOf bs i l)).1 := rfl
      rw [hd, ht]
      by_cases hc : (segOf bs i l).length - (getFrom 0 0 (segOf bs i l)).2 < (getFrom 0 0 (segOf bs i l)).1
      · have e : tLen (segOf bs i l) = (0, 0) := by unfold tLen; rw [if_pos hc]
        rw [e, if_pos rfl, if_pos hc]
      · have e : tLen (segOf bs i l) = tVar (segOf bs i l) := by unfold tLen; rw [if_neg hc]; rfl
        rw [e, if_neg hz, if_neg hc, ht]
/-- How many bytes; -1: it fails. -/
def St.long (bs : List UInt8) (s : St) : Int := match (s.rd tLen 0 bs).2.fr with
  | [] => -1
  | _ :: _ => ((s.rd tLen 0 bs).1 : Int)

theorem RefTo.after {W w w1 w' : World} {p g g' : Nat} {bs : List UInt8} {s : St} {v : Value} {e : Ending} (h : RefTo W w1 p g' bs s v e w') (ho : Only p g w w1) (hg : g' = g ∨ g' ≥ w.heap.size) : RefTo W w p g bs s v e w' := by
  obtain ⟨he, g2, hg2, hr, ho2⟩ := h
  have hs := ho.size
  refine ⟨he, g2, ?_, hr, ho.then ho2 hg⟩
  rcases hg2 with rfl | hg2
  · exact hg
  · exact .inr (by omega)
theorem long_ref {W w : World} {p g : Nat} {bs : List UInt8} {s : St} (h : Ref W w p g bs s) (hlen : bs.length ≤ 140737488351232) :
    Calls Try.prog 48 #[.pointer (some ⟨p, 0, none⟩)] w (RefTo W w p g bs (s.rd tLen 0 bs).2 (.int .i64 (s.long bs))) := by
  have hV := Lib.hid (rvarint_ref h)
  have hn64 : (s.rd tVar 0 bs).1 < 18446744073709551616 := by
    unfold St.rd
    split
    · exact (by decide : (0 : Nat) < 18446744073709551616)
    · split
      · exact (by decide : (0 : Nat) < 18446744073709551616)
      · exact tVar_lt _
  have hnone := rd_len_none (bs := bs) (s := s)
  have hsome := fun l r => rd_len_some (l := l) (r := r) h.1.2.2.2.2.2.2
  have hR1 := right_rd (take := tVar) (z := 0) h.1.2.2.2.2.2.2 tVar_le
  obtain ⟨s1, hs1⟩ : ∃ s1, s1 = (s.rd tVar 0 bs).2 := ⟨_, rfl⟩
  obtain ⟨n, hn⟩ : ∃ n, n = (s.rd tVar 0 bs).1 := ⟨_, rfl⟩
  rw [← hs1] at hV hnone hsome hR1
  rw [← hn] at hV hsome hn64
  clear hs1 hn
  rcases hfr : s1.fr with _ | ⟨l, r⟩
  · have e1 := hnone hfr
    have e2 : Hid (s.long bs = -1) := by show _ = _; unfold St.long; rw [e1, hfr]
    rw [e1]
    have hF := Lib.hid hfr
    clear hnone hsome hfr e1 h hR1
    go_enter Try.func48, Try.ntmps48
    go_wp2_with (go_at_call 21; refine hV.out.mono ?_; rintro e w1 ⟨rfl, g', hg', hr, ho⟩; obtain ⟨A, cap, hB, hp⟩ := ref_none hr hF.out; have c3 := obj_cell hp 3; have HR := Lib.hid hr; have HO := Lib.hid ho; have HB := Lib.hid hB; clear hp hr ho hB)
    go_quiet (fail)
    go_wp2
    go_ret
    exact ⟨by rw [e2.out]; rfl, g', hg', HR.out.bel (drawn_bel w1 _), HO.out.trans (Only.of_below (drawn_bel w1 _))⟩
  · have e1 := hsome l r hfr
    have hF := Lib.hid hfr
    unfold Right at hR1
    rw [hfr] at hR1
    obtain ⟨b1, b2, b3, b4, b5⟩ := hR1
    obtain ⟨i, hi⟩ : ∃ i, i = s1.at_ := ⟨_, rfl⟩
    rw [← hi] at b1 b5 e1
    have hI := Lib.hid hi
    obtain ⟨k0, hk0⟩ : ∃ k0, k0 = r.length := ⟨_, rfl⟩
    rw [← hk0] at b5
    have hK0 := Lib.hid hk0
    clear hnone hsome hfr h b3 b4 hi hk0
    have hw1 : IntKind.i64.wrap ((l : Int) - (i : Int)) = ((l - i : Nat) : Int) := by
      rw [show (l : Int) - (i : Int) = ((l - i : Nat) : Int) by omega]
      exact IntWalk.i64_in _ (by omega)
    have hw2 : IntKind.u64.wrap ((l - i : Nat) : Int) = ((l - i : Nat) : Int) := IntWalk.u64_in _ (by omega)
    by_cases hc : l - i < n
    · have hd : decide (l - i < n) = true := decide_eq_true hc
      have e2 : Hid (s.long bs = -1) := by show _ = _; unfold St.long; rw [e1, if_pos hc]; rfl
      rw [e1, if_pos hc]
      clear e1 hc
      go_enter Try.func48, Try.ntmps48
      go_wp2_with (go_at_call 21; refine hV.out.mono ?_; rintro e w1 ⟨rfl, g', hg', hr, ho⟩; obtain ⟨A, cap, c, hB, hp, hst⟩ := ref_some hr hF.out; rw [← hK0.out, ← hI.out] at hp; have c3 := obj_cell hp 3; have c2 := obj_cell hp 2; have c1 := obj_cell hp 1; have hl := hst.last; rw [← hK0.out] at hl; have HP := Lib.hid hp; have HR := Lib.hid hr; have HO := Lib.hid ho; have HB := Lib.hid hB; clear hp hr ho hB hst)
      go_quiet ((go_at_call 39; exact Calls.quiet_of (rend_cells p g' k0 c l _ (by omega) c2 hl)))
      go_wp2_with (go_at_call 40; refine (fail_any p _ _ _ _ (w1.drewN _) HP.out).mono ?_; rintro e w2 ⟨rfl, hw2⟩; have hr2 := ref_to_fail HR.out (.int .i64 (-1)) nq; rw [hw2] at hr2; have hrow := failed_row (w := w1.drewN nq) HP.out; rw [hw2] at hrow; have c3' := obj_cell hrow 3; have HR2 := Lib.hid hr2; clear hw2 hr2 hrow)
      go_ret
      rw [e2.out]
      exact HR2.out.after HO.out hg'
    · have hd : decide (l - i < n) = false := decide_eq_false hc
      have e2 : Hid (s.long bs = (n : Int)) := by show _ = _; unfold St.long; rw [e1, if_neg hc]; dsimp only; rw [hF.out]
      have hw3 : IntKind.i64.wrap (n : Int) = (n : Int) := IntWalk.i64_in _ (by omega)
      rw [e1, if_neg hc]
      clear e1 hc
      go_enter Try.func48, Try.ntmps48
      go_wp2_with (go_at_call 21; refine hV.out.mono ?_; rintro e w1 ⟨rfl, g', hg', hr, ho⟩; obtain ⟨A, cap, c, hB, hp, hst⟩ := ref_some hr hF.out; rw [← hK0.out, ← hI.out] at hp; have c3 := obj_cell hp 3; have c2 := obj_cell hp 2; have c1 := obj_cell hp 1; have hl := hst.last; rw [← hK0.out] at hl; have HP := Lib.hid hp; have HR := Lib.hid hr; have HO := Lib.hid ho; have HB := Lib.hid hB; clear hp hr ho hB hst)
      go_quiet ((go_at_call 39; exact Calls.quiet_of (rend_cells p g' k0 c l _ (by omega) c2 hl)))
      go_wp2
      go_ret
      exact ⟨by rw [e2.out]; rfl, g', hg', HR.out.bel (drawn_bel w1 _), HO.out.trans (Only.of_below (drawn_bel w1 _))⟩
end Go.Proofs.Ytclfoiodbjaanaa
