/- like, live. -/
import Derived.Test.YtclfoiodbjaanaaCurJ
namespace Go.Proofs.Ytclfoiodbjaanaa
open Go.RowKit
set_option linter.unusedVariables false
set_option maxRecDepth 100000

theorem like_any {B : Nat} {W V w : World} {p g q f : Nat} {bs : List UInt8} {s : St} (h : Pair B W V w p g q f bs s s) :
    Calls Try.prog 10 #[.pointer (some ⟨p, 0, none⟩), .pointer (some ⟨q, 0, none⟩)] w fun e w' => e = .returned (.bool true) ∧ ∃ n, w' = w.drewN n := by
  have hO := Lib.hid (fun n => drawn_of (ok_cur (h.drawn n).1.c))
  have hA := Lib.hid (fun n => drawn_of (at_cur (h.drawn n).1.c))
  have hD := Lib.hid (fun n => drawn_of (deep_cur (h.drawn n).1.c))
  have hM := Lib.hid (fun n => more_cur (h.drawn n).1.c)
  have hN := Lib.hid (fun n => rmore_ref (h.drawn n).1.r)
  obtain ⟨more, hmo⟩ : ∃ more, more = s.more := ⟨_, rfl⟩
  rw [← hmo] at hM hN
  clear hmo
  rcases hfr : s.fr with _ | ⟨l, r⟩
  · obtain ⟨A, cap, _, hp⟩ := ref_none h.r hfr
    have e1 : s.oks = false := by simp [St.oks, hfr]
    rw [e1] at hO
    rw [cur_at0 h.c hfr] at hA
    rw [hfr] at hD
    have c1 := obj_cell hp 1
    have c2 := obj_cell hp 2
    have c3 := obj_cell hp 3
    clear h hfr e1 hp
    go_enter Try.func10, Try.ntmps10
    go_wp2
    go_quiet (first
      | (go_at_call 11; exact Calls.quiet_of (hO.out _))
      | (go_at_call 12; exact Calls.quiet_of (hA.out _))
      | (go_at_call 13; exact Calls.quiet_of (hD.out _))
      | (go_at_call 14; exact Calls.quiet_of (hM.out _))
      | (go_at_call 30; exact Calls.quiet_of (hN.out _)))
    go_wp2
    go_ret
    exact ⟨by simp, _, rfl⟩
  · obtain ⟨A, cap, c, _, hp, _⟩ := ref_some h.r hfr
    have e1 : s.oks = true := by simp [St.oks, hfr]
    rw [e1] at hO
    rw [hfr] at hD
    simp only [List.length_cons] at hD
    have c1 := obj_cell hp 1
    have c2 := obj_cell hp 2
    have c3 := obj_cell hp 3
    obtain ⟨i, hi⟩ : ∃ i, i = s.at_ := ⟨_, rfl⟩
    rw [← hi] at hA c1
    obtain ⟨k, hk⟩ : ∃ k, k = r.length := ⟨_, rfl⟩
    rw [← hk] at hD c2
    clear h hfr e1 hp hi hk
    go_enter Try.func10, Try.ntmps10
    go_wp2
    go_quiet (first
      | (go_at_call 11; exact Calls.quiet_of (hO.out _))
      | (go_at_call 12; exact Calls.quiet_of (hA.out _))
      | (go_at_call 13; exact Calls.quiet_of (hD.out _))
      | (go_at_call 14; exact Calls.quiet_of (hM.out _))
      | (go_at_call 30; exact Calls.quiet_of (hN.out _)))
    go_wp2
    go_ret
    exact ⟨by simp, _, rfl⟩

theorem live_text : (St.mk 0 [3]).rd tText [] [2, 97, 98] = ([97, 98], ⟨3, [3]⟩) := rfl
theorem live_any (w : World) : Calls Try.prog 6 #[] w fun e w' => e = .returned (.bool true) ∧ Below w.heap.size w w' := by
  have hB := Bs.lit w #[.int .u8 2, .int .u8 97, .int .u8 98] 5 [2, 97, 98] rfl (by decide)
  have hF := Lib.hid (from_any (some ⟨w.heap.size, 0, none⟩) 3 3 [2, 97, 98] (w.alloc (.cells #[.int .u8 2, .int .u8 97, .int .u8 98] 5)) rfl hB (by decide))
  have hs : ((strOf [97, 98]).toList == [97, 98]) = true := by rw [ByteArray.toList_eq]; rfl
  clear hB
  go_enter Try.func6, Try.ntmps6
  go_wp2_with (first
    | (go_at_call 7; refine hF.out.mono ?_; rintro e w1 ⟨W, p, g, rfl, hb0, hb1, hc1⟩; have HC1 := Lib.hid hc1; have HB1 := Lib.hid hb1; have HB0 := Lib.hid hb0; clear hc1 hb1 hb0)
    | (go_at_call 16; refine (text_cur HC1.out).mono ?_; rintro e w2 ⟨he, g2, hg2, hc2, ho2⟩; rw [show ([2, 97, 98] : List UInt8).length = 3 from rfl, live_text] at he hc2; subst he; have HC2 := Lib.hid hc2; have HO2 := Lib.hid ho2; clear hc2 ho2 hg2)
    | (go_at_call 14; refine (more_cur HC2.out).mono ?_; rintro e w3 ⟨rfl, n, hw3⟩; have HC3 := Lib.hid (HC2.out.bel (drawn_below w2 n)); rw [← hw3] at HC3; have HW3 := Lib.hid hw3; clear hw3)
    | (go_at_call 11; have hok := ok_cur HC3.out; rw [show St.oks ⟨3, [3]⟩ = true from rfl] at hok; refine hok.mono ?_; rintro e w4 ⟨rfl, rfl⟩))
  go_ret
  have b0 := HB0.out.size
  simp at b0
  have b1 : Below w.heap.size w w1 := ((Below.refl _ _).alloc (Nat.le_refl _) _).trans (HB1.out.mono (by simp))
  have c1 := HC1.out.1.1
  have c2 := HC1.out.1.2.1
  have b2 := below_only b1 HO2.out (by omega) (by omega) b1.size
  rw [HW3.out]
  exact ⟨rfl, b2.trans ((drawn_below w2 n).mono b2.size)⟩
end Go.Proofs.Ytclfoiodbjaanaa
