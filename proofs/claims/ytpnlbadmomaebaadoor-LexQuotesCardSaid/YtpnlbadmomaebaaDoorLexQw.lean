/- The law LexQuotes over what is asked of layer 10. Conditions: those that each theorem names. -/
import Derived.Test.YtpnlbadmomaebaaDoorLexLaw
import Derived.Test.YtpnlbadmomaebaaDoorLexQu
namespace Go.Proofs.YtpnlbadmomaebaaDoor
open Go.RowKit
set_option linter.unusedVariables false
set_option maxRecDepth 100000

/-- The first token's cells. -/
theorem toks_first {w : World} {A : Option Addr} {cap : Nat} {x : Tk} {l : List Tk} (h : Toks w A cap (x :: l)) : ∃ g off, A = some ⟨g, off, none⟩ ∧ w.cell? ⟨g, off, none⟩ = some (.int .i64 x.kind) ∧ w.cell? ⟨g, off + 1, none⟩ = some (.string (strOf x.s)) ∧ w.cell? ⟨g, off + 2, none⟩ = some (.int .u64 (x.n : Int)) ∧ w.cell? ⟨g, off + 3, none⟩ = some (.bool x.neg) := by
  obtain ⟨g, off, e, hc⟩ := h.cells 0 x rfl
  refine ⟨g, off, e, ?_, ?_, ?_, ?_⟩
  · have := hc 0 _ rfl; simpa using this
  · have := hc 1 _ rfl; simpa using this
  · have := hc 2 _ rfl; simpa using this
  · have := hc 3 _ rfl; simpa using this
theorem digitsT_length (n : Nat) (neg : Bool) (hn : n < 18446744073709551616) : (digitsT n neg).length ≤ 21 := by
  have := decOf_len64 hn
  unfold digitsT
  split
  · simp
  · split
    · rw [List.length_cons]; omega
    · omega
set_option maxHeartbeats 4000000 in
theorem lexquotes_walk (ok : LexOk) (w : World) (env : LexEnv w) (s : List UInt8) (hs : s.length ≤ 140737488351232) (n : Nat) (hn : n < 18446744073709551616) (neg : Bool) :
    Calls Tryd.prog 4 #[.string (strOf s), .int .u64 (n : Int), .bool neg] w fun e w' => e = .returned (.bool true) ∧ Below w.heap.size w w' := by
  have HENV := Lib.hid env
  have HLV : Hid (∀ w, LexEnv w → Calls Tryd.prog 6 #[] w fun e w' => e = .returned (.bool true) ∧ Below w.heap.size w w') := Lib.hid (lexlive_any ok)
  obtain ⟨N, hN⟩ : ∃ N, N = s.length := ⟨_, rfl⟩
  obtain ⟨str, hstr⟩ : ∃ str, str = strOf s := ⟨_, rfl⟩
  have hsz : str.size = N := by rw [hstr, str_size, hN]
  have HB := Lib.hid (Below.refl w.heap.size w)
  by_cases h300 : N ≤ 300
  · have g0 : decide ((N : Int) > 300) = false := decide_eq_false (by omega)
    have hql : (quoteT s).length ≤ 1000 := by rw [quoteT_length]; have := quoteB_length s; omega
    have HQ := Lib.hid (fun w e => ok.quote s w e (by omega))
    have HRQ := Lib.hid (fun w => rlquote_any s w (by omega))
    have HD := Lib.hid (fun w e => ok.digits n neg w e hn)
    have HRD := Lib.hid (fun w => rldigits_any n neg w hn)
    have HA1 := Lib.hid (fun w e => ok.lexes (quoteT s) 1000 w e hql)
    rw [lex_quote s (by omega)] at HA1
    have HA2 := Lib.hid (fun w e => ok.lexes (digitsT n neg) 1000 w e (by have := digitsT_length n neg hn; omega))
    obtain ⟨qs, hqs⟩ : ∃ qs, qs = strOf (quoteT s) := ⟨_, rfl⟩
    obtain ⟨ds, hds⟩ : ∃ ds, ds = strOf (digitsT n neg) := ⟨_, rfl⟩
    rw [← hqs] at HQ HRQ HA1
    rw [← hds] at HD HRD HA2
    rw [← hstr] at HQ HRQ
    rw [← hstr]
    obtain ⟨ql, hql2⟩ : ∃ ql, ql = (quoteT s).length := ⟨_, rfl⟩
    rw [← hql2] at HA1
    have HSTR := Lib.hid hstr
    by_cases hbad : neg = true ∧ 9223372036854775808 < n
    · obtain ⟨rfl, hb⟩ := hbad
      rw [lex_below n hn hb] at HA2
      have g9 : decide ((n : Int) > 9223372036854775808) = true := decide_eq_true (by omega)
      have g8 : (9223372036854775808 : Int) < (n : Int) := by omega
      clear ok env hN hstr hqs hds hql hql2 hs
      go_enter Tryd.func4, Tryd.ntmps4
      go_wp2_with (first
        | (go_at_call 11; refine (HQ.out _ (HENV.out.carry HB.out)).mono ?_; rintro e w1 ⟨rfl, hb⟩; replace HB := Lib.hid (HB.out.trans (hb.mono HB.out.size)); clear hb)
        | (go_at_call 12; refine (HRQ.out _).mono ?_; rintro e w1 ⟨rfl, rfl⟩)
        | (go_at_call 13; refine (HD.out _ (HENV.out.carry HB.out)).mono ?_; rintro e w1 ⟨rfl, hb⟩; replace HB := Lib.hid (HB.out.trans (hb.mono HB.out.size)); clear hb)
        | (go_at_call 14; refine (HRD.out _).mono ?_; rintro e w1 ⟨rfl, hb⟩; replace HB := Lib.hid (HB.out.trans (hb.mono HB.out.size)); clear hb)
        | (go_at_call 7; refine (HA1.out _ (HENV.out.carry HB.out)).mono ?_; rintro e w1 ⟨A1, cap1, rfl, ht, hb⟩; obtain ⟨g, off, rfl, c0, c1, c2, c3⟩ := toks_first ht; rw [← HSTR.out] at c1; have hle := ht.le; have hmx := ht.max; simp only [List.length_cons, List.length_nil] at hle; replace HB := Lib.hid (HB.out.trans (hb.mono HB.out.size)); clear hb ht HA1)
        | (go_at_call 7; refine (HA2.out _ (HENV.out.carry HB.out)).mono ?_; rintro e w1 ⟨A2, cap2, rfl, ht, hb⟩; replace HB := Lib.hid (HB.out.trans (hb.mono HB.out.size)); clear hb ht)
        | (go_at_call 10; refine (lexnum_any _ _).mono ?_; rintro e w2 ⟨rfl, rfl⟩)
        | (go_at_call 6; refine (HLV.out _ (HENV.out.carry HB.out)).mono ?_; rintro e w5 ⟨rfl, hb⟩; replace HB := Lib.hid (HB.out.trans (hb.mono HB.out.size)); clear hb))
      go_ret
      exact ⟨rfl, HB.out⟩
    · rw [lex_digits n neg hn (fun h => Nat.not_lt.mp (fun h2 => hbad ⟨h, h2⟩))] at HA2
      obtain ⟨dl, hdl⟩ : ∃ dl, dl = (digitsT n neg).length := ⟨_, rfl⟩
      rw [← hdl] at HA2
      have hcase : (neg = false) ∨ (neg = true ∧ n = 0) ∨ (neg = true ∧ 0 < n ∧ ¬ 9223372036854775808 < n) := by
        cases neg with
        | false => exact .inl rfl
        | true =>
          by_cases h0 : n = 0
          · exact .inr (.inl ⟨rfl, h0⟩)
          · exact .inr (.inr ⟨rfl, by omega, fun h => hbad ⟨rfl, h⟩⟩)
      clear ok env hN hstr hqs hds hql hql2 hs hbad hdl
      rcases hcase with rfl | ⟨rfl, rfl⟩ | ⟨rfl, hp, hb⟩
      · rw [Bool.false_and] at HA2
        go_enter Tryd.func4, Tryd.ntmps4
        go_wp2_with (first
          | (go_at_call 11; refine (HQ.out _ (HENV.out.carry HB.out)).mono ?_; rintro e w1 ⟨rfl, hb⟩; replace HB := Lib.hid (HB.out.trans (hb.mono HB.out.size)); clear hb)
          | (go_at_call 12; refine (HRQ.out _).mono ?_; rintro e w1 ⟨rfl, rfl⟩)
          | (go_at_call 13; refine (HD.out _ (HENV.out.carry HB.out)).mono ?_; rintro e w1 ⟨rfl, hb⟩; replace HB := Lib.hid (HB.out.trans (hb.mono HB.out.size)); clear hb)
          | (go_at_call 14; refine (HRD.out _).mono ?_; rintro e w1 ⟨rfl, hb⟩; replace HB := Lib.hid (HB.out.trans (hb.mono HB.out.size)); clear hb)
          | (go_at_call 7; refine (HA1.out _ (HENV.out.carry HB.out)).mono ?_; rintro e w1 ⟨A1, cap1, rfl, ht, hb⟩; obtain ⟨g, off, rfl, c0, c1, c2, c3⟩ := toks_first ht; rw [← HSTR.out] at c1; have hle := ht.le; have hmx := ht.max; simp only [List.length_cons, List.length_nil] at hle; replace HB := Lib.hid (HB.out.trans (hb.mono HB.out.size)); clear hb ht HA1)
          | (go_at_call 7; refine (HA2.out _ (HENV.out.carry HB.out)).mono ?_; rintro e w1 ⟨A2, cap2, rfl, ht, hb⟩; obtain ⟨g', off', rfl, d0, d1, d2, d3⟩ := toks_first ht; have hle' := ht.le; have hmx' := ht.max; simp only [List.length_cons, List.length_nil] at hle'; replace HB := Lib.hid (HB.out.trans (hb.mono HB.out.size)); clear hb ht)
          | (go_at_call 10; refine (lexnum_any _ _).mono ?_; rintro e w2 ⟨rfl, rfl⟩)
          | (go_at_call 6; refine (HLV.out _ (HENV.out.carry HB.out)).mono ?_; rintro e w5 ⟨rfl, hb⟩; replace HB := Lib.hid (HB.out.trans (hb.mono HB.out.size)); clear hb))
        go_ret
        exact ⟨rfl, HB.out⟩
      · rw [show (true && decide (0 < 0)) = false from rfl] at HA2
        go_enter Tryd.func4, Tryd.ntmps4
        go_wp2_with (first
          | (go_at_call 11; refine (HQ.out _ (HENV.out.carry HB.out)).mono ?_; rintro e w1 ⟨rfl, hb⟩; replace HB := Lib.hid (HB.out.trans (hb.mono HB.out.size)); clear hb)
          | (go_at_call 12; refine (HRQ.out _).mono ?_; rintro e w1 ⟨rfl, rfl⟩)
          | (go_at_call 13; refine (HD.out _ (HENV.out.carry HB.out)).mono ?_; rintro e w1 ⟨rfl, hb⟩; replace HB := Lib.hid (HB.out.trans (hb.mono HB.out.size)); clear hb)
          | (go_at_call 14; refine (HRD.out _).mono ?_; rintro e w1 ⟨rfl, hb⟩; replace HB := Lib.hid (HB.out.trans (hb.mono HB.out.size)); clear hb)
          | (go_at_call 7; refine (HA1.out _ (HENV.out.carry HB.out)).mono ?_; rintro e w1 ⟨A1, cap1, rfl, ht, hb⟩; obtain ⟨g, off, rfl, c0, c1, c2, c3⟩ := toks_first ht; rw [← HSTR.out] at c1; have hle := ht.le; have hmx := ht.max; simp only [List.length_cons, List.length_nil] at hle; replace HB := Lib.hid (HB.out.trans (hb.mono HB.out.size)); clear hb ht HA1)
          | (go_at_call 7; refine (HA2.out _ (HENV.out.carry HB.out)).mono ?_; rintro e w1 ⟨A2, cap2, rfl, ht, hb⟩; obtain ⟨g', off', rfl, d0, d1, d2, d3⟩ := toks_first ht; have hle' := ht.le; have hmx' := ht.max; simp only [List.length_cons, List.length_nil] at hle'; replace HB := Lib.hid (HB.out.trans (hb.mono HB.out.size)); clear hb ht)
          | (go_at_call 10; refine (lexnum_any _ _).mono ?_; rintro e w2 ⟨rfl, rfl⟩)
          | (go_at_call 6; refine (HLV.out _ (HENV.out.carry HB.out)).mono ?_; rintro e w5 ⟨rfl, hb⟩; replace HB := Lib.hid (HB.out.trans (hb.mono HB.out.size)); clear hb))
        go_ret
        exact ⟨rfl, HB.out⟩
      · rw [Bool.true_and, decide_eq_true hp] at HA2
        have g9 : decide ((n : Int) > 9223372036854775808) = false := decide_eq_false (by omega)
        have g8 : ¬ (9223372036854775808 : Int) < (n : Int) := by omega
        have g7 : decide ((n : Int) > 0) = true := decide_eq_true (by omega)
        have g6 : decide (0 < n) = true := decide_eq_true hp
        go_enter Tryd.func4, Tryd.ntmps4
        go_wp2_with (first
          | (go_at_call 11; refine (HQ.out _ (HENV.out.carry HB.out)).mono ?_; rintro e w1 ⟨rfl, hb⟩; replace HB := Lib.hid (HB.out.trans (hb.mono HB.out.size)); clear hb)
          | (go_at_call 12; refine (HRQ.out _).mono ?_; rintro e w1 ⟨rfl, rfl⟩)
          | (go_at_call 13; refine (HD.out _ (HENV.out.carry HB.out)).mono ?_; rintro e w1 ⟨rfl, hb⟩; replace HB := Lib.hid (HB.out.trans (hb.mono HB.out.size)); clear hb)
          | (go_at_call 14; refine (HRD.out _).mono ?_; rintro e w1 ⟨rfl, hb⟩; replace HB := Lib.hid (HB.out.trans (hb.mono HB.out.size)); clear hb)
          | (go_at_call 7; refine (HA1.out _ (HENV.out.carry HB.out)).mono ?_; rintro e w1 ⟨A1, cap1, rfl, ht, hb⟩; obtain ⟨g, off, rfl, c0, c1, c2, c3⟩ := toks_first ht; rw [← HSTR.out] at c1; have hle := ht.le; have hmx := ht.max; simp only [List.length_cons, List.length_nil] at hle; replace HB := Lib.hid (HB.out.trans (hb.mono HB.out.size)); clear hb ht HA1)
          | (go_at_call 7; refine (HA2.out _ (HENV.out.carry HB.out)).mono ?_; rintro e w1 ⟨A2, cap2, rfl, ht, hb⟩; obtain ⟨g', off', rfl, d0, d1, d2, d3⟩ := toks_first ht; have hle' := ht.le; have hmx' := ht.max; simp only [List.length_cons, List.length_nil] at hle'; replace HB := Lib.hid (HB.out.trans (hb.mono HB.out.size)); clear hb ht)
          | (go_at_call 10; refine (lexnum_any _ _).mono ?_; rintro e w2 ⟨rfl, rfl⟩)
          | (go_at_call 6; refine (HLV.out _ (HENV.out.carry HB.out)).mono ?_; rintro e w5 ⟨rfl, hb⟩; replace HB := Lib.hid (HB.out.trans (hb.mono HB.out.size)); clear hb))
        go_ret
        exact ⟨rfl, HB.out⟩
  · have g0 : decide ((N : Int) > 300) = true := decide_eq_true (by omega)
    rw [← hstr]
    clear ok env hN hstr hs
    go_enter Tryd.func4, Tryd.ntmps4
    go_wp2_with (go_at_call 6; refine (HLV.out _ (HENV.out.carry HB.out)).mono ?_; rintro e w5 ⟨rfl, hb5⟩)
    go_ret
    exact ⟨rfl, hb5⟩
end Go.Proofs.YtpnlbadmomaebaaDoor
