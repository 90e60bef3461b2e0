/- The document's digits of a number, and a text quoted. Conditions: those that each theorem names. -/
import Derived.Test.YtnbjpeefndcheaaDoorRlA
namespace Go.Proofs.YtnbjpeefndcheaaDoor
open Go.RowKit
set_option linter.unusedVariables false
set_option maxRecDepth 100000

theorem strOf_nil : strOf [] = ⟨#[]⟩ := rfl
set_option maxHeartbeats 2000000 in
theorem rldigits_any (n : Nat) (neg : Bool) (w : World) (hn : n < 18446744073709551616) : Calls Tryd.prog 29 #[.int .u64 (n : Int), .bool neg] w fun e w' => e = .returned (.string (strOf (digitsT n neg))) ∧ Below w.heap.size w w' := by
  by_cases h0 : n = 0
  · subst h0
    go_enter Tryd.func29, Tryd.ntmps29
    go_wp2
    go_ret
    exact ⟨rfl, Below.refl _ _⟩
  · have e0 : ((n : Int) == 0) = false := beq_false_of_ne (by omega)
    have f0 : ¬ (n : Int) = 0 := by omega
    have HD := Lib.hid (decOf_len64 hn)
    have HT : Hid (digitsT n neg = if neg = true then 45 :: decOf n else decOf n) := Lib.hid (by unfold digitsT; rw [if_neg h0])
    go_enter Tryd.func29, Tryd.ntmps29
    go_wp2
    go_loopw [5, 6] (fun v x wr => ∃ (u : Nat) (l : List UInt8) (o : ByteArray), x = .int .u64 (u : Int) ∧ v = .string o ∧ o = strOf l ∧ u < 18446744073709551616 ∧ decOf n = decOf u ++ l ∧ Below w.heap.size w wr) (fun _ x _ => (intOf x).toNat)
    case atStart => exact ⟨n, [], _, rfl, rfl, strOf_nil.symm, hn, (List.append_nil _).symm, Below.refl _ _⟩
    case round =>
      obtain ⟨u, l, o, rfl, rfl, ho, hu, hd, hbel⟩ := hrel
      have hll : l.length ≤ 20 := by have := HD.out; rw [hd, List.length_append] at this; omega
      have hos : o.size = l.length := by rw [ho, str_size]
      have HO := Lib.hid ho
      have HDD := Lib.hid hd
      have HB := Lib.hid hbel
      clear ho hd hbel
      by_cases hu0 : u = 0
      · subst hu0
        have HL : Hid (decOf n = l) := Lib.hid (by rw [HDD.out, decOf_zero, List.nil_append])
        have hc : ¬ 9223372036854775807 < 1 + o.size := by omega
        cases neg with
        | true =>
          rw [if_pos rfl] at HT
          go_wp2
          go_ret
          refine ⟨?_, HB.out⟩
          rw [HT.out, HL.out, show (45 :: l) = [45] ++ l from rfl, ← strOf_append, ← HO.out]
          rfl
        | false =>
          rw [if_neg (by simp)] at HT
          go_wp2
          go_ret
          exact ⟨by rw [HT.out, HL.out, ← HO.out]; rfl, HB.out⟩
      · have g2 : decide ((u : Int) > 0) = true := decide_eq_true (by omega)
        have g3 : decide (0 < u) = true := decide_eq_true (by omega)
        have g4 : 0 < u := by omega
        obtain ⟨d, hd⟩ : ∃ d : UInt8, d = (48 + u % 10).toUInt8 := ⟨_, rfl⟩
        have hdn : (d.toNat : Int) = 48 + (u : Int) % 10 := by
          rw [hd, show ((48 + u % 10).toUInt8).toNat = (48 + u % 10) % 256 from rfl]; omega
        obtain ⟨sd, hsd⟩ : ∃ sd, sd = strOf [d] := ⟨_, rfl⟩
        have hcap : ¬ 9223372036854775807 < sd.size + o.size := by rw [hsd, str_size, List.length_singleton]; omega
        have hcv : (convert 41 9 (.slice (some ⟨wr.heap.size, 0, none⟩) 1 1)).run Tryd.prog (wr.alloc (.cells #[.int .u8 (48 + (u : Int) % 10)] 5)) = .ok (.string sd) (wr.alloc (.cells #[.int .u8 (48 + (u : Int) % 10)] 5)) := by
          rw [hsd]
          exact run_string_bytes (P := Tryd.prog) (Bs.lit wr _ _ [d] (by simp [cellsOf, hdn]) (by simp only [List.length_cons, List.length_nil]; unfold maxLen; omega)) Tryd.underlying41 Tryd.underlying5 Tryd.underlying9
        have HSD := Lib.hid hsd
        have HDE := Lib.hid hd
        clear hsd hd hdn
        go_wp2
        go_roundw
        case rel =>
          refine ⟨u / 10, d :: l, _, by go_num, rfl, ?_, by omega, ?_, HB.out.alloc HB.out.size _⟩
          · rw [HSD.out, HO.out, strOf_append]; rfl
          · rw [HDD.out, decOf_pos hu0, List.append_assoc, ← HDE.out]; rfl
        case measure => simp [intOf]; omega

end Go.Proofs.YtnbjpeefndcheaaDoor
