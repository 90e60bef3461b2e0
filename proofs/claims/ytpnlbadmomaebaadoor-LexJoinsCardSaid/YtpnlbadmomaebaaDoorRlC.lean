/- The document's digits of a number, and a text quoted. Conditions: those that each theorem names. -/
import Derived.Test.YtpnlbadmomaebaaDoorRlA
namespace Go.Proofs.YtpnlbadmomaebaaDoor
open Go.RowKit
set_option linter.unusedVariables false
set_option maxRecDepth 100000

theorem strOf_nil : strOf [] = ⟨#[]⟩ := rfl
set_option maxHeartbeats 2000000 in
theorem rldigits_any (n : Nat) (neg : Bool) (w : World) (hn : n < 18446744073709551616) : Calls Tryd.prog 14 #[.int .u64 (n : Int), .bool neg] w fun e w' => e = .returned (.string (strOf (digitsT n neg))) ∧ Below w.heap.size w w' := by
  by_cases h0 : n = 0
  · subst h0
    go_enter Tryd.func14, Tryd.ntmps14
    go_wp2
    go_ret
    exact ⟨rfl, Below.refl _ _⟩
  · have e0 : ((n : Int) == 0) = false := beq_false_of_ne (by omega)
    have f0 : ¬ (n : Int) = 0 := by omega
    have HD := Lib.hid (decOf_len64 hn)
    have HT : Hid (digitsT n neg = if neg = true then 45 :: decOf n else decOf n) := Lib.hid (by unfold digitsT; rw [if_neg h0])
    go_enter Tryd.func14, Tryd.ntmps14
    go_wp2
    go_loopw [5, 6] (fun v x wr => ∃ (u : Nat) (l : List UInt8) (o : ByteArray), x = .int .u64 (u : Int) ∧ v = .string o ∧ o = strOf l ∧ u < 18446744073709551616 ∧ decOf n = decOf u ++ l ∧ Below w.heap.size w wr) (fun _ x _ => (intOf x).toNat)
    case atStart => exact ⟨n, [], _, rfl, rfl, strOf_nil.symm, hn, (List.append_nil _).symm, Below.refl _ _⟩
    case round =>
      obtain ⟨u, l, o, rfl, rfl, ho, hu, hd, hbel⟩ := hrel
      have hll : l.length ≤ 20 := by have := HD.out; rw [hd, List.length_append] at this; omega
      have hos : o.size = l.length := by rw [ho, str_size]
      have HO := Lib.hid ho
      have HDD := Lib.hid hd
      have HB := Lib.hid hbel
      clear ho hd hbel
      by_cases hu0 : u = 0
      · subst hu0
        have HL : Hid (decOf n = l) := Lib.hid (by rw [HDD.out, decOf_zero, List.nil_append])
        have hc : ¬ 9223372036854775807 < 1 + o.size := by omega
        cases neg with
        | true =>
          rw [if_pos rfl] at HT
          go_wp2
          go_ret
          refine ⟨?_, HB.out⟩
          rw [HT.out, HL.out, show (45 :: l) = [45] ++ l from rfl, ← strOf_append, ← HO.out]
          rfl
        | false =>
          rw [if_neg (by simp)] at HT
          go_wp2
          go_ret
          exact ⟨by rw [HT.out, HL.out, ← HO.out]; rfl, HB.out⟩
      · have g2 : decide ((u : Int) > 0) = true := decide_eq_true (by omega)
        have g3 : decide (0 < u) = true := decide_eq_true (by omega)
        have g4 : 0 < u := by omega
        obtain ⟨d, hd⟩ : ∃ d : UInt8, d = (48 + u % 10).toUInt8 := ⟨_, rfl⟩
        have hdn : (d.toNat : Int) = 48 + (u : Int) % 10 := by
          rw [hd, show ((48 + u % 10).toUInt8).toNat = (48 + u % 10) % 256 from rfl]; omega
        obtain ⟨sd, hsd⟩ : ∃ sd, sd = strOf [d] := ⟨_, rfl⟩
        have hcap : ¬ 9223372036854775807 < sd.size + o.size := by rw [hsd, str_size, List.length_singleton]; omega
        have hcv : (convert 51 9 (.slice (some ⟨wr.heap.size, 0, none⟩) 1 1)).run Tryd.prog (wr.alloc (.cells #[.int .u8 (48 + (u : Int) % 10)] 5)) = .ok (.string sd) (wr.alloc (.cells #[.int .u8 (48 + (u : Int) % 10)] 5)) := by
          rw [hsd]
          exact run_string_bytes (P := Tryd.prog) (Bs.lit wr _ _ [d] (by simp [cellsOf, hdn]) (by simp only [List.length_cons, List.length_nil]; unfold maxLen; omega)) Tryd.underlying51 Tryd.underlying5 Tryd.underlying9
        have HSD := Lib.hid hsd
        have HDE := Lib.hid hd
        clear hsd hd hdn
        go_wp2
        go_roundw
        case rel =>
          refine ⟨u / 10, d :: l, _, by go_num, rfl, ?_, by omega, ?_, HB.out.alloc HB.out.size _⟩
          · rw [HSD.out, HO.out, strOf_append]; rfl
          · rw [HDD.out, decOf_pos hu0, List.append_assoc, ← HDE.out]; rfl
        case measure => simp [intOf]; omega

set_option maxHeartbeats 2000000 in
theorem rlquote_any (s : List UInt8) (w : World) (hl : s.length ≤ 1000000) : Calls Tryd.prog 12 #[.string (strOf s)] w fun e w' => e = .returned (.string (strOf (quoteT s))) ∧ w = w' := by
  obtain ⟨n, hn⟩ : ∃ n, n = s.length := ⟨_, rfl⟩
  obtain ⟨str, hstr⟩ : ∃ str, str = strOf s := ⟨_, rfl⟩
  have hsz : str.size = n := by rw [hstr, str_size, hn]
  rw [← hn] at hl
  rw [← hstr]
  have HN := Lib.hid hn
  have HST := Lib.hid hstr
  have EKK : Hid (∀ (k : Nat) (a : UInt8) (h : k < str.size), s[k]? = some a → str[k]'h = a) := Lib.hid (fun k a h ha => by
    obtain ⟨q1, q2⟩ := List.getElem?_eq_some_iff.mp ha
    have := hstr
    subst this
    exact q2)
  clear hn hstr
  go_enter Tryd.func12, Tryd.ntmps12
  go_wp2
  go_loop [3, 4] (fun v x => ∃ (k : Nat) (o : ByteArray), k ≤ n ∧ x = .int .i64 (k : Int) ∧ v = .string o ∧ o = strOf (39 :: quoteB (s.take k))) (fun _ x => n - (intOf x).toNat)
  case atStart => exact ⟨0, _, Nat.zero_le _, rfl, rfl, rfl⟩
  case round =>
    obtain ⟨k, o, hk, rfl, rfl, ho⟩ := hrel
    have hos : o.size ≤ 2 * k + 1 := by
      rw [ho, str_size, List.length_cons]
      have := quoteB_length (s.take k)
      rw [List.length_take] at this
      omega
    have HO := Lib.hid ho
    clear ho
    have hc1 : ¬ 9223372036854775807 < o.size + 1 := by omega
    by_cases hlt : k < n
    · have g3 : decide ((k : Int) < (n : Int)) = true := decide_eq_true (by omega)
      obtain ⟨a, ha⟩ : ∃ a, s[k]? = some a := ⟨_, List.getElem?_eq_getElem (by have := HN.out; omega)⟩
      have hsk : k < str.size := by omega
      have EK : str[k]'hsk = a := EKK.out k a hsk ha
      have hk0 : 0 ≤ (k : Int) := by omega
      have hk1 : (k : Int) < (n : Int) := by omega
      have hk2 : (k : Int) + 1 ≤ (n : Int) := by omega
      have hw : wrap64 ((k : Int) + 1) = (k : Int) + 1 := wrap64_in2 _ (by omega)
      have hk4 : (k : Int) ≤ (k : Int) + 1 := by omega
      have hk5 : ¬ ((k : Int) + 1 < (k : Int)) := by omega
      obtain ⟨sa, hsa⟩ : ∃ sa, sa = strOf [a] := ⟨_, rfl⟩
      have hex : str.extract k (k + 1) = sa := by
        rw [HST.out, strOf_extract, hsa, List.take_add_one, ha]
        have : ((s.take k).length) = k := by rw [List.length_take]; have := HN.out; omega
        rw [List.drop_append, this, Nat.sub_self, List.drop_of_length_le (by omega)]
        rfl
      have hsas : sa.size = 1 := by rw [hsa, str_size]; rfl
      have HSA := Lib.hid hsa
      have HQ := Lib.hid (quoteB_take ha)
      clear hsa ha
      by_cases h39 : a.toNat = 39
      · have a39 : (a.toNat : Int) = 39 := congrArg Nat.cast h39
        have hq : quoteC a = [39, a] := by unfold quoteC; rw [if_pos h39]
        rw [hq] at HQ
        have hc2 : ¬ 9223372036854775807 < o.size + 1 + sa.size := by omega
        have hc3 : ¬ 9223372036854775807 < o.size + 1 + 1 := by omega
        clear hq
        go_wp2
        go_round
        case rel =>
          refine ⟨k + 1, _, by omega, by go_num, rfl, ?_⟩
          rw [HQ.out, HO.out, HSA.out, show (⟨#[39]⟩ : ByteArray) = strOf [39] from rfl, strOf_append, strOf_append, List.append_assoc]
          rfl
        case measure => simp [intOf]; omega
      · have e39 : ((a.toNat : Int) == 39) = false := beq_false_of_ne (by omega)
        have f39 : ¬ (a.toNat : Int) = 39 := by omega
        have hq : quoteC a = [a] := by unfold quoteC; rw [if_neg h39]
        rw [hq] at HQ
        have hc2 : ¬ 9223372036854775807 < o.size + sa.size := by omega
        have hc3 : ¬ 9223372036854775807 < o.size + 1 := by omega
        clear hq
        go_wp2
        go_round
        case rel =>
          refine ⟨k + 1, _, by omega, by go_num, rfl, ?_⟩
          rw [HQ.out, HO.out, HSA.out, strOf_append]
          rfl
        case measure => simp [intOf]; omega
    · have g3 : decide ((k : Int) < (n : Int)) = false := decide_eq_false (by omega)
      have e : s.take k = s := List.take_of_length_le (by have := HN.out; omega)
      rw [e] at HO
      clear e
      go_wp2
      go_ret
      refine ⟨?_, rfl⟩
      show Ending.returned (.string (o ++ ⟨#[39]⟩)) = _
      rw [HO.out, show (⟨#[39]⟩ : ByteArray) = strOf [39] from rfl, strOf_append]
      rfl
end Go.Proofs.YtpnlbadmomaebaaDoor
