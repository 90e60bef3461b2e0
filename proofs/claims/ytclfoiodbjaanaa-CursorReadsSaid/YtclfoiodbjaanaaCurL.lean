/- CursorReads. -/
import Derived.Test.YtclfoiodbjaanaaCurK
import Derived.Deep.LoopGhost
namespace Go.Proofs.Ytclfoiodbjaanaa
open Go.RowKit
set_option linter.unusedVariables false
set_option maxRecDepth 100000

set_option maxHeartbeats 800000 in
theorem reads_walk (w : World) (A : Option Addr) (cap : Nat) (bs : List UInt8) (hr : Bs w A cap bs) (h47 : bs.length ≤ 140737488351232) (A2 : Option Addr) (cap2 : Nat) (ws : List UInt8) (hr2 : Bs w A2 cap2 ws) (h472 : ws.length ≤ 140737488351232) :
    Calls Try.prog 3 #[.slice A bs.length cap, .slice A2 ws.length cap2] w fun e w' => e = .returned (.bool true) ∧ Below w.heap.size w w' := by
  have HL : Hid (∀ w, Calls Try.prog 6 #[] w fun e w' => e = .returned (.bool true) ∧ Below w.heap.size w w') := live_any
  obtain ⟨i0, hi, hz0, hz1, hz2⟩ := info_parts info_u8
  obtain ⟨n, hn⟩ : ∃ n, n = bs.length := ⟨_, rfl⟩
  obtain ⟨m, hm⟩ : ∃ m, m = ws.length := ⟨_, rfl⟩
  have HR := Lib.hid hr
  have HR2 := Lib.hid hr2
  have HN := Lib.hid hn
  have HM := Lib.hid hm
  rw [← hn, ← hm]
  rw [← hn] at h47
  rw [← hm] at h472
  clear hr hr2 hn hm
  by_cases h1 : 1000 < n
  · have g1 : decide (1000 < (n : Int)) = true := decide_eq_true (by omega)
    go_enter Try.func3, Try.ntmps3
    go_wp2_with (go_at_call 6; refine (HL.out _).mono ?_; rintro e w5 ⟨rfl, hb5⟩)
    go_ret
    exact ⟨rfl, hb5⟩
  by_cases h2 : 100 < m
  · have g1 : decide (1000 < (n : Int)) = false := decide_eq_false (by omega)
    have g2 : decide (100 < (m : Int)) = true := decide_eq_true (by omega)
    go_enter Try.func3, Try.ntmps3
    go_wp2_with (go_at_call 6; refine (HL.out _).mono ?_; rintro e w5 ⟨rfl, hb5⟩)
    go_ret
    exact ⟨rfl, hb5⟩
  have g1 : decide (1000 < (n : Int)) = false := decide_eq_false (by omega)
  have g2 : decide (100 < (m : Int)) = false := decide_eq_false (by omega)
  go_enter Try.func3, Try.ntmps3
  go_wp2_with (first
    | (at_builtin; refine wpList_append_bs rfl (.tmp 17) (.tmp 18) _ rfl w.heap.size 5 i0 Try.underlying22 hi hz0 hz1 hz2 _ 0 [] rfl (own0 w) _ _ _ bs rfl HN.out (HR.out.alloc _) (by have := HN.out; simp; omega) (by simp) ?_; go_must (intro v2 w2 hown2 hgrow2; obtain ⟨_, A1, cap1, rfl, hB1⟩ := Bs.own hown2; have hb1 : Below w.heap.size w w2 := ((Below.refl _ _).alloc (Nat.le_refl _) _).grown hgrow2 (by simp) (fun k hk => ((own0 w).lt k hk).1); simp only [List.nil_append] at hB1; clear hown2 hgrow2; have HB1 := Lib.hid hB1; clear hB1))
    | (go_at_call 7; refine (from_any _ _ _ bs _ (by simp) HB1.out (by have := HN.out; omega)).mono ?_; rintro e w3 ⟨W, p, g, rfl, hb3, hb3', hc3⟩; have HC3 := Lib.hid hc3; have HB3 := Lib.hid hb3'; have HBW := Lib.hid hb3; clear hc3 hb3' hb3; have hbw3 := hb1.trans (HB3.out.mono hb1.size))
    | (go_at_call 8; refine (rfrom_any _ _ _ bs _ HN.out (HR.out.below hbw3 (Nat.le_refl _))).mono ?_; rintro e w4 ⟨q, f, rfl, hb4, hq, hf, hr4⟩; have HR4 := Lib.hid hr4; have HB4 := Lib.hid hb4; have HQ := Lib.hid hq; have HF := Lib.hid hf; clear hr4 hb4 hq hf))
  have HP4 : Hid (Pair w.heap.size W w w4 p g q f bs ⟨0, [bs.length]⟩ ⟨0, [bs.length]⟩) := by
    have z1 := HC3.out.1.1
    have z2 := HC3.out.1.2.1
    have z3 := HC3.out.1.2.2.2.1
    have z4 := HC3.out.1.2.2.2.2.1
    have z5 := HBW.out.size
    have z6 := hb1.size
    have z7 := HQ.out
    have z8 := HF.out
    exact ⟨HC3.out.bel HB4.out, HR4.out w hbw3.size hbw3 HR.out, ⟨by omega, by omega, by omega, by omega⟩, ⟨by omega, by omega, by omega, by omega⟩, ⟨by omega, by omega, by omega, by omega⟩⟩
  have HB5 : Hid (Below w.heap.size w w4) := hbw3.trans (HB4.out.mono hbw3.size)
  clear hb1 hbw3
  go_loopw [7] (fun x wr => ∃ (k g f : Nat) (s : St), k ≤ m ∧ x = .int .i64 (k : Int) ∧ Pair w.heap.size W w wr p g q f bs s s ∧ Below w.heap.size w wr) (fun x _ => m - (intOf x).toNat)
  case atStart => exact ⟨0, g, f, _, by omega, rfl, HP4.out, HB5.out⟩
  case round =>
    obtain ⟨k, g5, f5, s, hk, rfl, hP5, hB5⟩ := hrel
    have HP5 := Lib.hid hP5
    have HBB := Lib.hid hB5
    clear hP5 hB5
    by_cases hlt : k < m
    · have g3 : decide ((k : Int) < (m : Int)) = true := decide_eq_true (by omega)
      have hkl : k < ws.length := by have := HM.out; omega
      obtain ⟨b, off, rfl, hcell⟩ := (HR2.out.below HBB.out (Nat.le_refl _)).lt hkl
      obtain ⟨c, hc⟩ : ∃ c : UInt8, c = ws[k] := ⟨_, rfl⟩
      rw [← hc] at hcell
      clear hc
      go_wp2_with (first
        | (go_at_call 9; refine (read_any c.toNat HP5.out (by have := HN.out; omega)).mono ?_; rintro e w6 ⟨b6, rfl, hb6, g6, f6, hp6, hB6⟩; have e6 := hb6 rfl; subst e6; have HP6 := Lib.hid hp6; have HB6 := Lib.hid hB6; clear hp6 hB6 hb6)
        | (go_at_call 10; refine (like_any HP6.out).mono ?_; rintro e w7 ⟨rfl, n7, hw7⟩; have hp7 := HP6.out.drawn n7; rw [← hw7] at hp7; have HP7 := Lib.hid hp7; clear hw7 hp7))
      go_roundw
      case rel => exact ⟨k + 1, g6, f6, _, by omega, by go_num, HP7.out.1, HBB.out.trans (HB6.out.trans HP7.out.2)⟩
      case measure => simp [intOf]; omega
    · have g3 : decide ((k : Int) < (m : Int)) = false := decide_eq_false (by omega)
      go_wp2_with (go_at_call 6; refine (HL.out _).mono ?_; rintro e w8 ⟨rfl, hb8⟩)
      go_ret
      exact ⟨rfl, HBB.out.trans (hb8.mono HBB.out.size)⟩
end Go.Proofs.Ytclfoiodbjaanaa
