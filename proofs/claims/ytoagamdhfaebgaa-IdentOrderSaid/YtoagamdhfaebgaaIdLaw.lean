/- What is asked of the program's layer 9, and the walks of IdentRight and IdentLists. Conditions: those that each theorem names. -/
import Derived.Test.YtoagamdhfaebgaaRiE
import Derived.Test.YtoagamdhfaebgaaIdMath
import Derived.Test.YtoagamdhfaebgaaRiA
import Derived.Test.YtoagamdhfaebgaaRiB
namespace Go.Proofs.Ytoagamdhfaebgaa
open Go.RowKit
set_option linter.unusedVariables false
set_option maxRecDepth 100000

/-- What is asked of layer 9. -/
structure IdOk : Prop where
  right : ∀ w t, Calls Try.prog 7 #[.string (strOf t)] w fun e w' => e = .returned (.bool (nameB t)) ∧ Below w.heap.size w w'
  rise : ∀ w A cap n ts, Sl w A cap (txts ts) → n = ts.length → Calls Try.prog 9 #[.slice A n cap] w fun e w' => e = .returned (.bool (riseB ts)) ∧ Below w.heap.size w w'
  once : ∀ w A cap n ts, Sl w A cap (txts ts) → n = ts.length → n ≤ 1000000 → Calls Try.prog 11 #[.slice A n cap] w fun e w' => e = .returned (.bool (onceB ts)) ∧ Below w.heap.size w w'
theorem ex_id1 : nameB [97, 95, 49] = true := by decide
theorem ex_id2 : nameB [49, 97] = false := by decide
theorem ex_id3 : nameB [116, 111] = false := by decide
theorem ex_id4 : nameB [97, 195, 169] = false := by decide
theorem idlive_any (ok : IdOk) (w : World) : Calls Try.prog 6 #[] w fun e w' => e = .returned (.bool true) ∧ Below w.heap.size w w' := by
  have H1 := Lib.hid (fun w => ok.right w [97, 95, 49])
  have H2 := Lib.hid (fun w => ok.right w [49, 97])
  have H3 := Lib.hid (fun w => ok.right w [116, 111])
  have H4 := Lib.hid (fun w => ok.right w [97, 195, 169])
  rw [ex_id1] at H1
  rw [ex_id2] at H2
  rw [ex_id3] at H3
  rw [ex_id4] at H4
  clear ok
  have HB0 : Hid (Below w.heap.size w w) := Lib.hid (Below.refl _ _)
  go_enter Try.func6, Try.ntmps6
  go_wp2_with (first
    | (go_at_call 7
       refine (H1.out _).mono ?_
       rintro e w1 ⟨rfl, hb1⟩
       have HB1 := Lib.hid (HB0.out.trans (hb1.mono HB0.out.size))
       clear hb1 HB0 H1)
    | (go_at_call 7
       refine (H2.out _).mono ?_
       rintro e w2 ⟨rfl, hb2⟩
       have HB2 := Lib.hid (HB1.out.trans (hb2.mono HB1.out.size))
       clear hb2 HB1 H2)
    | (go_at_call 7
       refine (H3.out _).mono ?_
       rintro e w3 ⟨rfl, hb3⟩
       have HB3 := Lib.hid (HB2.out.trans (hb3.mono HB2.out.size))
       clear hb3 HB2 H3)
    | (go_at_call 7
       refine (H4.out _).mono ?_
       rintro e w4 ⟨rfl, hb4⟩
       have HB4 := Lib.hid (HB3.out.trans (hb4.mono HB3.out.size))
       clear hb4 HB3 H4))
  go_ret
  exact ⟨rfl, HB4.out⟩
theorem idright_walk (ok : IdOk) (w : World) (t : List UInt8) : Calls Try.prog 3 #[.string (strOf t)] w fun e w' => e = .returned (.bool true) ∧ Below w.heap.size w w' := by
  have HLV : Hid (∀ w, Calls Try.prog 6 #[] w fun e w' => e = .returned (.bool true) ∧ Below w.heap.size w w') := Lib.hid (idlive_any ok)
  have HP := Lib.hid (fun w => ok.right w t)
  have HR := Lib.hid (fun w => rname_any w t)
  obtain ⟨n, hn⟩ : ∃ n, n = t.length := ⟨_, rfl⟩
  obtain ⟨str, hstr⟩ : ∃ str, str = strOf t := ⟨_, rfl⟩
  have hsz : str.size = n := by rw [hstr, str_size, hn]
  obtain ⟨b, hb⟩ : ∃ b, b = nameB t := ⟨_, rfl⟩
  rw [← hstr, ← hb] at HP HR
  rw [← hstr]
  have hbb : (b == b) = true := by cases b <;> rfl
  clear hstr hn ok hb
  by_cases h1 : n > 1000
  · have g1 : decide ((n : Int) > 1000) = true := decide_eq_true (by omega)
    go_enter Try.func3, Try.ntmps3
    go_wp2_with (go_at_call 6; refine (HLV.out _).mono ?_; rintro e w6 ⟨rfl, hb6⟩)
    go_ret
    exact ⟨rfl, hb6⟩
  · have g1 : decide ((n : Int) > 1000) = false := decide_eq_false (by omega)
    go_enter Try.func3, Try.ntmps3
    go_wp2_with (first
      | (go_at_call 7
         refine (HP.out _).mono ?_
         rintro e w1 ⟨rfl, hb1⟩
         have HB1 := Lib.hid hb1
         clear hb1)
      | (go_at_call 8
         refine (HR.out _).mono ?_
         rintro e w2 ⟨rfl, hb2⟩
         have HB2 := Lib.hid (HB1.out.trans (hb2.mono HB1.out.size))
         clear hb2)
      | (go_at_call 6; refine (HLV.out _).mono ?_; rintro e w6 ⟨rfl, hb6⟩))
    go_ret
    exact ⟨rfl, HB2.out.trans (hb6.mono HB2.out.size)⟩
theorem below_drewN {B : Nat} {a w : World} (h : Below B a w) (k : Nat) : Below B a (w.drewN k) :=
  ⟨h.os, h.tape, h.output, h.size, h.block⟩
theorem idlists_walk (ok : IdOk) (w : World) {A : Option Addr} {cap n : Nat} {ts : List (List UInt8)} (hs : Sl w A cap (txts ts)) (hn : n = ts.length) :
    Calls Try.prog 4 #[.slice A n cap] w fun e w' => e = .returned (.bool true) ∧ Below w.heap.size w w' := by
  have HLV : Hid (∀ w, Calls Try.prog 6 #[] w fun e w' => e = .returned (.bool true) ∧ Below w.heap.size w w') := Lib.hid (idlive_any ok)
  have HP : Hid (∀ w', Below w.heap.size w w' → Calls Try.prog 9 #[.slice A n cap] w' fun e w2 => e = .returned (.bool (riseB ts)) ∧ Below w.heap.size w w2) := Lib.hid (fun w' hb => (ok.rise w' A cap n ts (hs.below hb (Nat.le_refl _)) hn).mono (fun e w2 h => ⟨h.1, hb.trans (h.2.mono hb.size)⟩))
  have HO : Hid (n ≤ 50 → ∀ w', Below w.heap.size w w' → Calls Try.prog 11 #[.slice A n cap] w' fun e w2 => e = .returned (.bool (onceB ts)) ∧ Below w.heap.size w w2) := Lib.hid (fun hl w' hb => (ok.once w' A cap n ts (hs.below hb (Nat.le_refl _)) hn (by omega)).mono (fun e w2 h => ⟨h.1, hb.trans (h.2.mono hb.size)⟩))
  have HRP : Hid (∀ w', Below w.heap.size w w' → Calls Try.prog 10 #[.slice A n cap] w' fun e w2 => e = .returned (.bool (riseB ts)) ∧ Below w.heap.size w w2) := Lib.hid (fun w' hb => (rrise_any w' (hs.below hb (Nat.le_refl _)) hn).mono (fun e w2 h => ⟨h.1, by obtain ⟨k, rfl⟩ := h.2; exact below_drewN hb k⟩))
  have HRO : Hid (∀ w', Below w.heap.size w w' → Calls Try.prog 12 #[.slice A n cap] w' fun e w2 => e = .returned (.bool (onceB ts)) ∧ Below w.heap.size w w2) := Lib.hid (fun w' hb => (ronce_any w' (hs.below hb (Nat.le_refl _)) hn).mono (fun e w2 h => ⟨h.1, by obtain ⟨k, rfl⟩ := h.2; exact below_drewN hb k⟩))
  have HB0 : Hid (Below w.heap.size w w) := Lib.hid (Below.refl _ _)
  have hro : riseB ts = true → onceB ts = true := fun h => rise_once h
  obtain ⟨a, ha⟩ : ∃ a, a = riseB ts := ⟨_, rfl⟩
  obtain ⟨b, hb⟩ : ∃ b, b = onceB ts := ⟨_, rfl⟩
  rw [← ha] at HP HRP hro
  rw [← hb] at HO HRO hro
  have hle := hs.le
  have hmx := hs.max
  rw [txts_length, ← hn] at hle
  unfold maxLen at hmx
  clear hs hn ok ha hb
  by_cases h1 : n > 50
  · have g1 : decide ((n : Int) > 50) = true := decide_eq_true (by omega)
    go_enter Try.func4, Try.ntmps4
    go_wp2_with (go_at_call 6; refine (HLV.out _).mono ?_; rintro e w6 ⟨rfl, hb6⟩)
    go_ret
    exact ⟨rfl, hb6⟩
  · have g1 : decide ((n : Int) > 50) = false := decide_eq_false (by omega)
    have HO := Lib.hid (HO.out (by omega))
    cases a with
    | false =>
      clear hro
      have hbb : (b == b) = true := by cases b <;> rfl
      go_enter Try.func4, Try.ntmps4
      go_wp2_with (first
        | (go_at_call 9
           refine (HP.out _ HB0.out).mono ?_
           rintro e w1 ⟨rfl, hb1⟩
           have HB1 := Lib.hid hb1
           clear hb1 HB0)
        | (go_at_call 10
           refine (HRP.out _ HB1.out).mono ?_
           rintro e w2 ⟨rfl, hb2⟩
           have HB2 := Lib.hid hb2
           clear hb2 HB1)
        | (go_at_call 11
           refine (HO.out _ HB2.out).mono ?_
           rintro e w3 ⟨rfl, hb3⟩
           have HB3 := Lib.hid hb3
           clear hb3 HB2)
        | (go_at_call 12
           refine (HRO.out _ HB3.out).mono ?_
           rintro e w4 ⟨rfl, hb4⟩
           have HB4 := Lib.hid hb4
           clear hb4 HB3)
        | (go_at_call 9
           refine (HP.out _ HB4.out).mono ?_
           rintro e w5 ⟨rfl, hb5⟩
           have HB5 := Lib.hid hb5
           clear hb5 HB4)
        | (go_at_call 6; refine (HLV.out _).mono ?_; rintro e w6 ⟨rfl, hb6⟩))
      go_ret
      exact ⟨rfl, HB5.out.trans (hb6.mono HB5.out.size)⟩
    | true =>
      obtain rfl : b = true := hro rfl
      clear hro
      go_enter Try.func4, Try.ntmps4
      go_wp2_with (first
        | (go_at_call 9
           refine (HP.out _ HB0.out).mono ?_
           rintro e w1 ⟨rfl, hb1⟩
           have HB1 := Lib.hid hb1
           clear hb1 HB0)
        | (go_at_call 10
           refine (HRP.out _ HB1.out).mono ?_
           rintro e w2 ⟨rfl, hb2⟩
           have HB2 := Lib.hid hb2
           clear hb2 HB1)
        | (go_at_call 11
           refine (HO.out _ HB2.out).mono ?_
           rintro e w3 ⟨rfl, hb3⟩
           have HB3 := Lib.hid hb3
           clear hb3 HB2)
        | (go_at_call 12
           refine (HRO.out _ HB3.out).mono ?_
           rintro e w4 ⟨rfl, hb4⟩
           have HB4 := Lib.hid hb4
           clear hb4 HB3)
        | (go_at_call 9
           refine (HP.out _ HB4.out).mono ?_
           rintro e w5 ⟨rfl, hb5⟩
           have HB5 := Lib.hid hb5
           clear hb5 HB4)
        | (go_at_call 11
           refine (HO.out _ HB5.out).mono ?_
           rintro e w7 ⟨rfl, hb7⟩
           have HB7 := Lib.hid hb7
           clear hb7 HB5)
        | (go_at_call 6; refine (HLV.out _).mono ?_; rintro e w6 ⟨rfl, hb6⟩))
      go_ret
      exact ⟨rfl, HB7.out.trans (hb6.mono HB7.out.size)⟩
end Go.Proofs.Ytoagamdhfaebgaa
