/- Several texts in one: RrB. What each proves, and its conditions, stands at its own head. -/
import Derived.Test.YtpfdnggacpehdaaGreatDoorPkDU31
import Derived.Test.YtpfdnggacpehdaaGreatDoorChecked
import Derived.Test.YtpfdnggacpehdaaGreatDoorPkDU0
import Derived.WalkKit
import Derived.OwnWalk
import Derived.RowKitTokens
import Derived.Lib.Hide
import Derived.BigQuiet
import Derived.Deep.QuietTactic
/- The document's All and Same, and what is small. Conditions: those that each theorem names. -/
namespace Go.Proofs.YtpfdnggacpehdaaGreatDoor
open Go.RowKit
set_option linter.unusedVariables false
set_option maxRecDepth 100000

theorem run_neq_raw (a b : Rw) (w : World) : (binOp .neq 98 (rawV a) (rawV b)).run Tryz.prog w = .ok (.bool (!rwEq a b)) w := by
  unfold rawV
  go_simp
  rw [ByteArray.toList_eq, ByteArray.toList_eq, show (strOf a.s).data.toList = a.s by simp [strOf], show (strOf b.s).data.toList = b.s by simp [strOf]]
  unfold rwEq
  by_cases h1 : a.num = b.num
  · by_cases h2 : a.wire = b.wire
    · by_cases h3 : a.n = b.n
      · by_cases h4 : a.s = b.s
        · simp [h1, h2, h3, h4]
        · simp [h1, h2, h3, h4]
      · have h3' : ¬ ((a.n : Int) = (b.n : Int)) := by omega
        simp [h1, h2, h3, h3']
    · simp [h1, h2]
  · simp [h1]
theorem rsame_raw (w : World) {A A' : Option Addr} {cap cap' n n' : Nat} {l m : List Rw} (h : Raws w A cap l) (h' : Raws w A' cap' m) (hn : n = l.length) (hn' : n' = m.length) :
    Calls Tryz.prog 33 #[.slice A n cap, .slice A' n' cap'] w fun e w' => e = .returned (.bool (sameR l m)) ∧ ∃ k, w' = w.drewN k := by
  have hle := h.le
  have hmx := h.max
  have hle' := h'.le
  have hmx' := h'.max
  rw [← hn] at hle
  rw [← hn'] at hle'
  have H := Lib.hid h
  have H' := Lib.hid h'
  have HN := Lib.hid hn
  have HN' := Lib.hid hn'
  clear h hn h' hn'
  by_cases hnn : n = n'
  · subst hnn
    go_enter Tryz.func33, Tryz.ntmps33
    go_wp2
    go_loopw [5] (fun x wr => ∃ k : Nat, k ≤ n ∧ x = .int .i64 (k : Int) ∧ (∃ i, wr = w.drewN i) ∧ ∀ (j : Nat) a b, j < k → l[j]? = some a → m[j]? = some b → rwEq a b = true) (fun x _ => n - (intOf x).toNat)
    case atStart => exact ⟨0, Nat.zero_le _, rfl, ⟨0, rfl⟩, fun j a b hj => absurd hj (Nat.not_lt_zero _)⟩
    case round =>
      obtain ⟨k, hk, rfl, ⟨i, rfl⟩, hall⟩ := hrel
      have HALL := Lib.hid hall
      clear hall
      by_cases hlt : k < n
      · have g1 : decide ((k : Int) < (n : Int)) = true := decide_eq_true (by omega)
        obtain ⟨a, ha⟩ : ∃ a, l[k]? = some a := ⟨_, List.getElem?_eq_getElem (by have := HN.out; omega)⟩
        obtain ⟨b, hb⟩ : ∃ b, m[k]? = some b := ⟨_, List.getElem?_eq_getElem (by have := HN'.out; omega)⟩
        obtain ⟨g, off, rfl, c0, c1, c2, c3⟩ := H.out.at_ k a ha
        obtain ⟨g', off', rfl, d0, d1, d2, d3⟩ := H'.out.at_ k b hb
        have HA := Lib.hid ha
        have HB := Lib.hid hb
        clear ha hb
        have HQ : ∀ w : World, (binOp .neq 98 (.agg #[.int .i64 a.num, .int .i64 a.wire, .int .u64 (a.n : Int), .string (strOf a.s)]) (.agg #[.int .i64 b.num, .int .i64 b.wire, .int .u64 (b.n : Int), .string (strOf b.s)])).run Tryz.prog w = .ok (.bool (!rwEq a b)) w := fun w => run_neq_raw a b w
        obtain ⟨r, hr⟩ : ∃ r, r = rwEq a b := ⟨_, rfl⟩
        rw [← hr] at HQ
        have HRR := Lib.hid hr
        clear hr
        cases r with
        | true =>
          go_wp2
          go_quiet (fail)
          go_wp2
          go_roundw
          case rel =>
            refine ⟨k + 1, by omega, by go_num, ⟨i + nq, rfl⟩, fun j x y hj hx hy => ?_⟩
            by_cases hjk : j < k
            · exact HALL.out j x y hjk hx hy
            · have : j = k := by omega
              subst this
              have e1 := HA.out.symm.trans hx
              have e2 := HB.out.symm.trans hy
              injection e1 with e1
              injection e2 with e2
              subst e1 e2
              exact HRR.out.symm
          case measure => simp [intOf]; omega
        | false =>
          go_wp2
          go_quiet (fail)
          go_wp2
          go_ret
          exact ⟨ret_bool' (sameR_off HA.out HB.out HRR.out.symm).symm, _, World.drewN_drewN _ _ _⟩
      · have g1 : decide ((k : Int) < (n : Int)) = false := decide_eq_false (by omega)
        obtain rfl : k = n := by omega
        go_wp2
        go_ret
        exact ⟨ret_bool' (sameR_all (by have := HN.out; have := HN'.out; omega) (fun j a b ha hb => HALL.out j a b (by have := (List.getElem?_eq_some_iff.mp ha).1; have := HN.out; omega) ha hb)).symm, _, rfl⟩
  · have g1 : ((n : Int) == (n' : Int)) = false := beq_false_of_ne (by omega)
    have g2 : ¬ ((n : Int) = (n' : Int)) := by omega
    have HS : Hid (sameR l m = false) := Lib.hid (sameR_length (by have := HN.out; have := HN'.out; omega))
    go_enter Tryz.func33, Tryz.ntmps33
    go_wp2
    go_ret
    exact ⟨ret_bool' HS.out.symm, 0, rfl⟩

end Go.Proofs.YtpfdnggacpehdaaGreatDoor
