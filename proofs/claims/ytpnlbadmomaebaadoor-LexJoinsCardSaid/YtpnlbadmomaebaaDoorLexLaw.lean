/- What is asked of the program's layer 10, the page's example, and the law LexAll over it. Conditions: those that each theorem names. -/
import Derived.Test.YtpnlbadmomaebaaDoorRlG
import Derived.Test.YtpnlbadmomaebaaDoorRlD
import Derived.Test.YtpnlbadmomaebaaDoorLwE
import Derived.Deep.LoopGhost
import Derived.Deep.QuietTactic
import Derived.BigQuiet
namespace Go.Proofs.YtpnlbadmomaebaaDoor
open Go.RowKit
set_option linter.unusedVariables false
set_option maxRecDepth 100000

/-- What is asked. -/
structure LexOk : Prop where
  lexes : ∀ (t : List UInt8) (most : Int) w, LexEnv w → t.length ≤ 1000 → Calls Tryd.prog 7 #[.string (strOf t), .int .i64 most] w (RAllTo w (lexT t most))
  quote : ∀ (t : List UInt8) w, LexEnv w → t.length ≤ 1000 → Calls Tryd.prog 11 #[.string (strOf t)] w fun e w' => e = .returned (.string (strOf (quoteT t))) ∧ Below w.heap.size w w'
  digits : ∀ (n : Nat) (neg : Bool) w, LexEnv w → n < 18446744073709551616 → Calls Tryd.prog 13 #[.int .u64 (n : Int), .bool neg] w fun e w' => e = .returned (.string (strOf (digitsT n neg))) ∧ Below w.heap.size w w'

theorem lex_live : lexT [97, 61, 45, 53, 59, 47, 47, 120, 10] 100 = ([⟨1, [97], 0, false, 0⟩, ⟨4, [61], 0, false, 1⟩, ⟨2, [], 5, true, 2⟩, ⟨4, [59], 0, false, 4⟩, ⟨0, [], 0, false, 9⟩], 9, 0) := by kernel_rfl
theorem lex_drawn (w : World) (n : Nat) : Below w.heap.size w (w.drewN n) := ⟨rfl, rfl, rfl, Nat.le_refl _, fun _ _ => rfl⟩
theorem LexEnv.stays {w : World} (h : LexEnv w) (n : Nat) : LexEnv (w.drewN n) := h.carry (lex_drawn w n)
theorem lexnum_any (k : Int) (w : World) : Calls Tryd.prog 10 #[.int .i64 k] w fun e w' => e = .returned (.int .i64 k) ∧ w = w' := by
  go_enter Tryd.func10, Tryd.ntmps10
  go_wp2
  go_ret
  exact ⟨rfl, rfl⟩
set_option maxHeartbeats 2000000 in
theorem lexlive_any (ok : LexOk) (w : World) (env : LexEnv w) : Calls Tryd.prog 6 #[] w fun e w' => e = .returned (.bool true) ∧ Below w.heap.size w w' := by
  have HA := Lib.hid (ok.lexes [97, 61, 45, 53, 59, 47, 47, 120, 10] 100 w env (by decide))
  rw [lex_live] at HA
  clear ok env
  go_enter Tryd.func6, Tryd.ntmps6
  go_wp2_with (first
    | (go_at_call 7
       refine HA.out.mono ?_
       rintro e w1 ⟨A1, cap1, rfl, ht, hb⟩
       obtain ⟨g, off, rfl, hc⟩ := ht.cells 2 _ rfl
       obtain ⟨g', off', hgg, hd⟩ := ht.cells 4 _ rfl
       cases hgg
       have hle := ht.le
       have hmx := ht.max
       simp only [List.length_cons, List.length_nil] at hle
       have c2 : w1.cell? ⟨g, off + 2 * 5 + 2, none⟩ = some (.int .u64 5) := hc 2 _ rfl
       have c3 : w1.cell? ⟨g, off + 2 * 5 + 3, none⟩ = some (.bool true) := hc 3 _ rfl
       have c4 : w1.cell? ⟨g, off + 4 * 5 + 4, none⟩ = some (.int .i64 9) := hd 4 _ rfl
       have HB := Lib.hid hb
       clear ht hc hd hb)
    | (go_at_call 10; refine (lexnum_any _ _).mono ?_; rintro e w2 ⟨rfl, rfl⟩))
  go_ret
  exact ⟨rfl, HB.out⟩

set_option maxHeartbeats 4000000 in
theorem lexsame_any (w : World) {A A' : Option Addr} {cap cap' n : Nat} {l : List Tk} (h : Toks w A cap l) (h' : Toks w A' cap' l) (hn : n = l.length) :
    Calls Tryd.prog 9 #[.slice A n cap, .slice A' n cap', .bool true] w fun e w' => e = .returned (.bool true) ∧ ∃ i, w' = w.drewN i := by
  have hle := h.le
  have hmx := h.max
  have hle' := h'.le
  have hmx' := h'.max
  rw [← hn] at hle hle'
  have H := Lib.hid h
  have H' := Lib.hid h'
  have HN := Lib.hid hn
  clear h h' hn
  go_enter Tryd.func9, Tryd.ntmps9
  go_wp2
  go_loopw [7] (fun x wr => ∃ k : Nat, k ≤ n ∧ x = .int .i64 (k : Int) ∧ ∃ i, wr = w.drewN i) (fun x _ => n - (intOf x).toNat)
  case atStart => exact ⟨0, Nat.zero_le _, rfl, 0, rfl⟩
  case round =>
    obtain ⟨k, hk, rfl, i, rfl⟩ := hrel
    by_cases hlt : k < n
    · have g1 : decide ((k : Int) < (n : Int)) = true := decide_eq_true (by omega)
      obtain ⟨x, hx⟩ : ∃ x, l[k]? = some x := ⟨_, List.getElem?_eq_getElem (by have := HN.out; omega)⟩
      obtain ⟨g, off, rfl, hc⟩ := H.out.cells k x hx
      obtain ⟨g', off', rfl, hd⟩ := H'.out.cells k x hx
      obtain ⟨kd, ss, nn, ng, ps⟩ := x
      have c0 : w.cell? ⟨g, off + k * 5, none⟩ = some (.int .i64 kd) := hc 0 _ rfl
      have c1 : w.cell? ⟨g, off + k * 5 + 1, none⟩ = some (.string (strOf ss)) := hc 1 _ rfl
      have c2 : w.cell? ⟨g, off + k * 5 + 2, none⟩ = some (.int .u64 (nn : Int)) := hc 2 _ rfl
      have c3 : w.cell? ⟨g, off + k * 5 + 3, none⟩ = some (.bool ng) := hc 3 _ rfl
      have c4 : w.cell? ⟨g, off + k * 5 + 4, none⟩ = some (.int .i64 (ps : Int)) := hc 4 _ rfl
      have d0 : w.cell? ⟨g', off' + k * 5, none⟩ = some (.int .i64 kd) := hd 0 _ rfl
      have d1 : w.cell? ⟨g', off' + k * 5 + 1, none⟩ = some (.string (strOf ss)) := hd 1 _ rfl
      have d2 : w.cell? ⟨g', off' + k * 5 + 2, none⟩ = some (.int .u64 (nn : Int)) := hd 2 _ rfl
      have d3 : w.cell? ⟨g', off' + k * 5 + 3, none⟩ = some (.bool ng) := hd 3 _ rfl
      have d4 : w.cell? ⟨g', off' + k * 5 + 4, none⟩ = some (.int .i64 (ps : Int)) := hd 4 _ rfl
      clear hc hd hx
      go_wp2
      go_quiet (fail)
      go_wp2
      go_roundw
      case rel => exact ⟨k + 1, by omega, by go_num, i + nq, rfl⟩
      case measure => simp [intOf]; omega
    · have g1 : decide ((k : Int) < (n : Int)) = false := decide_eq_false (by omega)
      go_wp2
      go_ret
      exact ⟨rfl, i, rfl⟩

set_option maxHeartbeats 4000000 in
theorem lexall_walk (ok : LexOk) (w : World) (env : LexEnv w) (s : List UInt8) (hs : s.length ≤ 140737488351232) (most : Int) (hm : -9223372036854775808 ≤ most ∧ most < 9223372036854775808) :
    Calls Tryd.prog 3 #[.string (strOf s), .int .i64 most] w fun e w' => e = .returned (.bool true) ∧ Below w.heap.size w w' := by
  have HLV : Hid (∀ w, LexEnv w → Calls Tryd.prog 6 #[] w fun e w' => e = .returned (.bool true) ∧ Below w.heap.size w w') := Lib.hid (lexlive_any ok)
  obtain ⟨n, hn⟩ : ∃ n, n = s.length := ⟨_, rfl⟩
  obtain ⟨str, hstr⟩ : ∃ str, str = strOf s := ⟨_, rfl⟩
  have hsz : str.size = n := by rw [hstr, str_size, hn]
  have HN := Lib.hid hn
  by_cases h500 : n ≤ 500
  · have g0 : decide ((n : Int) > 500) = false := decide_eq_false (by omega)
    have HA := Lib.hid (ok.lexes s most w env (by omega))
    have HENV := Lib.hid env
    have HR := Lib.hid (fun w => rlall_any num_says s most w (by omega))
    obtain ⟨R, hR⟩ : ∃ R, R = lexT s most := ⟨_, rfl⟩
    rw [← hR, ← hstr] at HA HR
    rw [← hstr]
    obtain ⟨m, hm1⟩ : ∃ m, m = R.1.length := ⟨_, rfl⟩
    unfold RAllTo at HA HR
    rw [← hm1] at HA HR
    have HM := Lib.hid hm1
    clear ok hn hstr hR hm1 hs env
    go_enter Tryd.func3, Tryd.ntmps3
    go_wp2_with (first
      | (go_at_call 7; refine HA.out.mono ?_; rintro e w1 ⟨A1, cap1, rfl, ht1, hb1⟩; have HT1 := Lib.hid ht1; have HB1 := Lib.hid hb1; clear ht1 hb1)
      | (go_at_call 8; refine (HR.out _).mono ?_; rintro e w2 ⟨A2, cap2, rfl, ht2, hb2⟩; have HT2 := Lib.hid ht2; have HT12 := Lib.hid (toks_bel HT1.out hb2); have HB2 := Lib.hid (HB1.out.trans (hb2.mono HB1.out.size)); clear ht2 hb2)
      | (go_at_call 9; refine (lexsame_any _ HT12.out HT2.out HM.out).mono ?_; rintro e w3 ⟨rfl, i3, rfl⟩)
      | (go_at_call 10; refine (lexnum_any _ _).mono ?_; rintro e w2 ⟨rfl, rfl⟩)
      | (go_at_call 6; refine (HLV.out _ ((HENV.out.carry HB2.out).stays _)).mono ?_; rintro e w5 ⟨rfl, hb5⟩))
    go_ret
    exact ⟨rfl, HB2.out.trans (((lex_drawn _ _).trans hb5).mono HB2.out.size)⟩
  · have g0 : decide ((n : Int) > 500) = true := decide_eq_true (by omega)
    rw [← hstr]
    clear ok hn hstr hs
    go_enter Tryd.func3, Tryd.ntmps3
    go_wp2_with (go_at_call 6; refine (HLV.out _ env).mono ?_; rintro e w5 ⟨rfl, hb5⟩)
    go_ret
    exact ⟨rfl, hb5⟩
end Go.Proofs.YtpnlbadmomaebaaDoor
