/- Several texts in one: VarG. What each proves, and its conditions, stands at its own head. -/
import Derived.Test.YtpfdnggacpehdaaGreatDoorPkDU26
import Derived.Test.YtpfdnggacpehdaaGreatDoorChecked
import Derived.Lib.Strings
import Derived.Lib.Slices
import Derived.Lib.Small
import Derived.Lib.Walk
import Derived.Lib.BitFns
import Derived.Test.YtpfdnggacpehdaaGreatDoorPkDU23
import Derived.Test.YtpfdnggacpehdaaGreatDoorPkDU0
import Derived.WalkKit
import Derived.RowKitTokens
import Derived.Deep.LoopGhost
import Derived.BigQuiet
import Derived.Deep.QuietTactic
import Derived.OwnWalk
import Derived.Deep.DeepMust
import Derived.WalkSmall
/- The reference's Nums (whether two lists of numbers are the same) and All (all numbers of bytes): what they return; what was there is as it was. Conditions: those that each theorem names. -/
namespace Go.Proofs.YtpfdnggacpehdaaGreatDoor
open Go.RowKit
open Go.Lib (uvarint)

theorem info_u64 : (Tryz.prog.info? 62).map (fun i => (i.zero, i.size, i.bytes)) = some (some (.int .u64 0), 1, 8) := by kernel_rfl

theorem below_drewN' {B : Nat} {a w : World} (h : Below B a w) (n : Nat) : Below B a (w.drewN n) := ⟨h.os, h.tape, h.output, h.size, h.block⟩

theorem take_on {l l' : List Nat} {k : Nat} (h : l.take k = l'.take k) (hk : k < l.length) (hk' : k < l'.length) (he : l[k] = l'[k]) : l.take (k + 1) = l'.take (k + 1) := by
  rw [List.take_succ_eq_append_getElem hk, List.take_succ_eq_append_getElem hk', h, he]

set_option maxRecDepth 100000 in
theorem nums_any (A A' : Option Addr) (cap cap' : Nat) (l l' : List Nat) (w : World) (h : Sl w A cap (u64s l)) (h' : Sl w A' cap' (u64s l')) :
    Calls Tryz.prog 16 #[.slice A l.length cap, .slice A' l'.length cap'] w fun e w' => e = .returned (.bool (decide (l = l'))) ∧ Below w.heap.size w w' := by
  have hle := h.le
  have hmax := h.max
  have hle' := h'.le
  have hmax' := h'.max
  rw [u64s_length] at hle hle'
  unfold maxLen at hmax hmax'
  have H := Lib.hid h
  have H' := Lib.hid h'
  clear h h'
  by_cases hlen : l.length = l'.length
  · have HL := Lib.hid hlen
    obtain ⟨N, hN⟩ : ∃ N, N = l.length := ⟨_, rfl⟩
    rw [← hlen, ← hN]
    rw [← hlen, ← hN] at hle'
    rw [← hN] at hle
    have HN := Lib.hid hN
    clear hN hlen
    go_enter Tryz.func16, Tryz.ntmps16
    go_wp2
    go_loopw [5] (fun i wr => ∃ k : Nat, k ≤ N ∧ i = .int .i64 k ∧ Below w.heap.size w wr ∧ Hid (l.take k = l'.take k)) (fun i _ => N - (intOf i).toNat)
    case atStart => exact ⟨0, by omega, rfl, Below.refl _ _, rfl⟩
    case round =>
      obtain ⟨k, hk, rfl, hbel, HT⟩ := hrel
      by_cases hlt : k < N
      · have hkl : k < l.length := by have := HN.out; omega
        have hkl' : k < l'.length := by have := HN.out; have := HL.out; omega
        obtain ⟨b, off, rfl, hc⟩ := (H.out.below hbel (Nat.le_refl _)).lt (j := k) (by rw [u64s_length]; exact hkl)
        obtain ⟨b', off', rfl, hc'⟩ := (H'.out.below hbel (Nat.le_refl _)).lt (j := k) (by rw [u64s_length]; exact hkl')
        rw [show (u64s l)[k]'(by rw [u64s_length]; exact hkl) = .int .u64 (l[k] : Int) by simp [u64s]] at hc
        rw [show (u64s l')[k]'(by rw [u64s_length]; exact hkl') = .int .u64 (l'[k] : Int) by simp [u64s]] at hc'
        obtain ⟨x, hx⟩ : ∃ x, x = l[k] := ⟨_, rfl⟩
        obtain ⟨y, hy⟩ : ∃ y, y = l'[k] := ⟨_, rfl⟩
        rw [← hx] at hc
        rw [← hy] at hc'
        have HX := Lib.hid hx
        have HY := Lib.hid hy
        clear hx hy
        have g1 : (k : Int) < (N : Int) := by omega
        have g0 : (0 : Int) ≤ (k : Int) := by omega
        by_cases hxy : x = y
        · subst hxy
          have HK := Lib.hid (take_on HT.out hkl hkl' (HX.out.symm.trans HY.out))
          go_wp2
          go_quiet (fail)
          go_wp2
          go_roundw
          case rel => exact ⟨k + 1, by omega, by go_num, below_drewN' hbel _, HK.out⟩
          case measure => simp [intOf]; omega
        · have HE : Hid (decide (l = l') = false) := by
            refine decide_eq_false fun e => ?_
            subst e
            exact hxy (HX.out.trans HY.out.symm)
          have g2 : ((x : Int) == (y : Int)) = false := by simp; omega
          have g3 : ((x : Int) != (y : Int)) = true := by simp; omega
          clear hxy
          go_wp2
          go_quiet (fail)
          go_wp2
          go_ret
          exact ⟨by rw [HE.out]; rfl, below_drewN' hbel _⟩
      · have HE : Hid (decide (l = l') = true) := by
          refine decide_eq_true ?_
          have h1 := HT.out
          have h2 := HN.out
          have h3 := HL.out
          rwa [List.take_of_length_le (by omega), List.take_of_length_le (by omega)] at h1
        go_wp2
        go_ret
        exact ⟨by rw [HE.out]; rfl, hbel⟩
  · have HE : Hid (decide (l = l') = false) := decide_eq_false fun e => hlen (by rw [e])
    have g2 : ((l.length : Int) == (l'.length : Int)) = false := by simp; omega
    have g3 : ((l.length : Int) != (l'.length : Int)) = true := by simp; omega
    clear hlen
    go_enter Tryz.func16, Tryz.ntmps16
    go_wp2
    go_ret
    exact ⟨by rw [HE.out]; rfl, Below.refl _ _⟩

theorem u64s_snoc (acc : List Nat) (m : Nat) : u64s acc ++ [.int .u64 (m : Int)] = u64s (acc ++ [m]) := by simp [u64s]
theorem one_u64 (x : Int) : ∀ u ∈ [Value.int .u64 x], u.oneCell' = true := by
  intro u hu; simp at hu; subst hu; rfl
end Go.Proofs.YtpfdnggacpehdaaGreatDoor
