/- Layer 12 in plain words (no program here): what is read may be; what may be is read as it was. -/
import Derived.Test.YtdenhfhdobcfiaaDoorScMath
namespace Go.Proofs.YtdenhfhdobcfiaaDoor
open Go.RowKit
set_option linter.unusedVariables false

theorem wrap_u64of (a : Int) (h : -9223372036854775808 ≤ a ∧ a < 9223372036854775808) : wrap64 (u64of a : Int) = a := by
  rw [u64of_wrap, IntKind.wrap_u64]
  unfold wrap64
  omega
theorem u64of_wrap64 (n : Nat) (h : n < 18446744073709551616) : u64of (wrap64 (n : Int)) = n := by
  have e := u64of_wrap (wrap64 (n : Int))
  rw [IntKind.wrap_u64] at e
  unfold wrap64 at *
  omega
theorem wideI_fits (n : Nat) : -2147483648 ≤ wideI n ∧ wideI n ≤ 2147483647 := by unfold wideI; split <;> omega
theorem zagI_fits (m : Nat) (h : m < 4294967296) : -2147483648 ≤ zagI m ∧ zagI m ≤ 2147483647 := by unfold zagI; split <;> omega
theorem zagI_in (m : Nat) (h : m < 18446744073709551616) : -9223372036854775808 ≤ zagI m ∧ zagI m < 9223372036854775808 := by unfold zagI; split <;> omega
theorem zag_zigN (a : Int) : zagI (zigN a) = a := by
  unfold zigN
  split
  · unfold zagI; split <;> omega
  · unfold zagI; split <;> omega
theorem zigN_fits (a : Int) (h : -2147483648 ≤ a ∧ a ≤ 2147483647) : zigN a < 4294967296 := by unfold zigN; split <;> omega
theorem wideI_of (n : Nat) (h : n < 18446744073709551616) (hf : -2147483648 ≤ wrap64 (n : Int) ∧ wrap64 (n : Int) ≤ 2147483647) : wideI n = wrap64 (n : Int) := by
  unfold wideI
  unfold wrap64 at *
  split <;> omega
theorem wideI_low (n : Nat) : wideI (n % 4294967296) = wideI n := by unfold wideI; rw [Nat.mod_mod]
theorem fits_iff (a : Int) : fitsB a = true ↔ -2147483648 ≤ a ∧ a ≤ 2147483647 := by unfold fitsB; exact decide_eq_true_iff

theorem may_wide {ty : Int} (n : Nat) (h : 1 ≤ ty ∧ ty ≤ 15) (hw : wideT ty = true) : mayT ty n = true := by rw [mayT, if_neg (by omega), if_pos hw]
theorem may_signed {ty : Int} (n : Nat) (h : 1 ≤ ty ∧ ty ≤ 15) (hw : wideT ty = false) (hs : signedT ty = true) : mayT ty n = fitsB (wrap64 (n : Int)) := by rw [mayT, if_neg (by omega), if_neg (by simp [hw]), if_pos hs]
theorem may_plain {ty : Int} (n : Nat) (h : 1 ≤ ty ∧ ty ≤ 15) (hw : wideT ty = false) (hs : signedT ty = false) : mayT ty n = if ty = 3 ∨ ty = 8 then decide (n < 4294967296) else if ty = 7 then decide (n < 2) else decide (n = 0) := by rw [mayT, if_neg (by omega), if_neg (by simp [hw]), if_neg (by simp [hs])]

/-- What is read may be. -/
theorem may_from (ty : Int) (n : Nat) (h : 1 ≤ ty ∧ ty ≤ 15) (hn : n < 18446744073709551616) : mayT ty (fromT ty n) = true := by
  have hc : ty = 1 ∨ ty = 2 ∨ ty = 3 ∨ ty = 4 ∨ ty = 5 ∨ ty = 6 ∨ ty = 7 ∨ ty = 8 ∨ ty = 9 ∨ ty = 10 ∨ ty = 11 ∨ ty = 12 ∨ ty = 13 ∨ ty = 14 ∨ ty = 15 := by omega
  rcases hc with rfl | rfl | rfl | rfl | rfl | rfl | rfl | rfl | rfl | rfl | rfl | rfl | rfl | rfl | rfl
  · rw [may_signed _ (by omega) (by decide) (by decide), fits_iff, fromT, if_pos (by omega), wrap_u64of _ (by have := wideI_fits n; omega)]; exact wideI_fits n
  · exact may_wide _ (by omega) (by decide)
  · rw [may_plain _ (by omega) (by decide) (by decide), if_pos (by omega), fromT, if_neg (by omega), if_pos (by omega)]; exact decide_eq_true (by omega)
  · exact may_wide _ (by omega) (by decide)
  · rw [may_signed _ (by omega) (by decide) (by decide), fits_iff, fromT, if_neg (by omega), if_neg (by omega), if_pos (by omega), wrap_u64of _ (by have := zagI_fits (n % 4294967296) (by omega); omega)]; exact zagI_fits _ (by omega)
  · exact may_wide _ (by omega) (by decide)
  · rw [may_plain _ (by omega) (by decide) (by decide), if_neg (by omega), if_pos (by omega), fromT, if_neg (by omega), if_neg (by omega), if_neg (by omega), if_neg (by omega), if_pos (by omega)]; exact decide_eq_true (by split <;> omega)
  · rw [may_plain _ (by omega) (by decide) (by decide), if_pos (by omega), fromT, if_neg (by omega), if_pos (by omega)]; exact decide_eq_true (by omega)
  · exact may_wide _ (by omega) (by decide)
  · rw [may_signed _ (by omega) (by decide) (by decide), fits_iff, fromT, if_pos (by omega), wrap_u64of _ (by have := wideI_fits n; omega)]; exact wideI_fits n
  · exact may_wide _ (by omega) (by decide)
  · rw [may_plain _ (by omega) (by decide) (by decide), if_neg (by omega), if_neg (by omega), fromT, if_neg (by omega), if_neg (by omega), if_neg (by omega), if_neg (by omega), if_neg (by omega), if_neg (by decide)]; rfl
  · rw [may_plain _ (by omega) (by decide) (by decide), if_neg (by omega), if_neg (by omega), fromT, if_neg (by omega), if_neg (by omega), if_neg (by omega), if_neg (by omega), if_neg (by omega), if_neg (by decide)]; rfl
  · rw [may_signed _ (by omega) (by decide) (by decide), fits_iff, fromT, if_pos (by omega), wrap_u64of _ (by have := wideI_fits n; omega)]; exact wideI_fits n
  · rw [may_plain _ (by omega) (by decide) (by decide), if_neg (by omega), if_neg (by omega), fromT, if_neg (by omega), if_neg (by omega), if_neg (by omega), if_neg (by omega), if_neg (by omega), if_neg (by decide)]; rfl
theorem from_num {ty : Int} (n : Nat) (h : ty = 2 ∨ ty = 4 ∨ ty = 9 ∨ ty = 11) : fromT ty n = n := by
  rw [fromT, if_neg (by omega), if_neg (by omega), if_neg (by omega), if_neg (by omega), if_neg (by omega), if_pos]
  rcases h with rfl | rfl | rfl | rfl <;> decide
theorem to_num {ty : Int} (n : Nat) (h : ty = 1 ∨ ty = 2 ∨ ty = 4 ∨ ty = 7 ∨ ty = 9 ∨ ty = 11 ∨ ty = 14) : toT ty n = n := by
  rw [toT, if_neg (by omega), if_neg (by omega), if_pos]
  rcases h with rfl | rfl | rfl | rfl | rfl | rfl | rfl <;> decide
theorem from_none {ty : Int} (n : Nat) (h : ty = 12 ∨ ty = 13 ∨ ty = 15) : fromT ty n = 0 := by
  rw [fromT, if_neg (by omega), if_neg (by omega), if_neg (by omega), if_neg (by omega), if_neg (by omega), if_neg]
  rcases h with rfl | rfl | rfl <;> decide
/-- What may be is read as it was. -/
theorem from_to (ty : Int) (n : Nat) (h : 1 ≤ ty ∧ ty ≤ 15) (hn : n < 18446744073709551616) (hm : mayT ty n = true) : fromT ty (toT ty n) = n := by
  have hc : ty = 1 ∨ ty = 2 ∨ ty = 3 ∨ ty = 4 ∨ ty = 5 ∨ ty = 6 ∨ ty = 7 ∨ ty = 8 ∨ ty = 9 ∨ ty = 10 ∨ ty = 11 ∨ ty = 12 ∨ ty = 13 ∨ ty = 14 ∨ ty = 15 := by omega
  rcases hc with rfl | rfl | rfl | rfl | rfl | rfl | rfl | rfl | rfl | rfl | rfl | rfl | rfl | rfl | rfl
  · rw [may_signed _ (by omega) (by decide) (by decide), fits_iff] at hm
    rw [to_num n (by omega), fromT, if_pos (by omega), wideI_of n hn hm, u64of_wrap64 n hn]
  · rw [to_num n (by omega), from_num n (by omega)]
  · rw [may_plain _ (by omega) (by decide) (by decide), if_pos (by omega)] at hm
    have := of_decide_eq_true hm
    rw [toT, if_pos (by omega), fromT, if_neg (by omega), if_pos (by omega)]; omega
  · rw [to_num n (by omega), from_num n (by omega)]
  · rw [may_signed _ (by omega) (by decide) (by decide), fits_iff] at hm
    rw [toT, if_neg (by omega), if_pos (by omega), fromT, if_neg (by omega), if_neg (by omega), if_pos (by omega), Nat.mod_eq_of_lt (zigN_fits _ hm), zag_zigN, u64of_wrap64 n hn]
  · rw [toT, if_neg (by omega), if_pos (by omega), fromT, if_neg (by omega), if_neg (by omega), if_neg (by omega), if_pos (by omega), zag_zigN, u64of_wrap64 n hn]
  · rw [may_plain _ (by omega) (by decide) (by decide), if_neg (by omega), if_pos (by omega)] at hm
    have := of_decide_eq_true hm
    rw [to_num n (by omega), fromT, if_neg (by omega), if_neg (by omega), if_neg (by omega), if_neg (by omega), if_pos (by omega)]
    split <;> omega
  · rw [may_plain _ (by omega) (by decide) (by decide), if_pos (by omega)] at hm
    have := of_decide_eq_true hm
    rw [toT, if_pos (by omega), fromT, if_neg (by omega), if_pos (by omega)]; omega
  · rw [to_num n (by omega), from_num n (by omega)]
  · rw [may_signed _ (by omega) (by decide) (by decide), fits_iff] at hm
    rw [toT, if_pos (by omega), fromT, if_pos (by omega), wideI_low, wideI_of n hn hm, u64of_wrap64 n hn]
  · rw [to_num n (by omega), from_num n (by omega)]
  · rw [may_plain _ (by omega) (by decide) (by decide), if_neg (by omega), if_neg (by omega)] at hm
    rw [from_none _ (by omega)]; exact (of_decide_eq_true hm).symm
  · rw [may_plain _ (by omega) (by decide) (by decide), if_neg (by omega), if_neg (by omega)] at hm
    rw [from_none _ (by omega)]; exact (of_decide_eq_true hm).symm
  · rw [may_signed _ (by omega) (by decide) (by decide), fits_iff] at hm
    rw [to_num n (by omega), fromT, if_pos (by omega), wideI_of n hn hm, u64of_wrap64 n hn]
  · rw [may_plain _ (by omega) (by decide) (by decide), if_neg (by omega), if_neg (by omega)] at hm
    rw [from_none _ (by omega)]; exact (of_decide_eq_true hm).symm
/-- What types of 32 bits read hangs on the lowest 32 bits alone. -/
theorem from_low (ty : Int) (u v : Nat) (h : u % 4294967296 = v % 4294967296) (hw : wholeT ty = true) (hn : wideT ty = false) : fromT ty u = fromT ty v := by
  unfold wholeT at hw
  have h1 := of_decide_eq_true hw
  unfold wideT at hn
  have h2 := of_decide_eq_false hn
  have hc : ty = 1 ∨ ty = 3 ∨ ty = 5 ∨ ty = 8 ∨ ty = 10 := by omega
  have e : wideI u = wideI v := by rw [← wideI_low u, ← wideI_low v, h]
  rcases hc with rfl | rfl | rfl | rfl | rfl
  · rw [fromT, fromT, if_pos (by omega), if_pos (by omega), e]
  · rw [fromT, fromT, if_neg (by omega), if_pos (by omega), if_neg (by omega), if_pos (by omega), h]
  · rw [fromT, fromT, if_neg (by omega), if_neg (by omega), if_pos (by omega), if_neg (by omega), if_neg (by omega), if_pos (by omega), h]
  · rw [fromT, fromT, if_neg (by omega), if_pos (by omega), if_neg (by omega), if_pos (by omega), h]
  · rw [fromT, fromT, if_pos (by omega), if_pos (by omega), e]
theorem from_zero (ty : Int) : fromT ty 0 = 0 := by
  unfold fromT
  split
  · decide +kernel
  · split
    · rfl
    · split
      · decide +kernel
      · split
        · decide +kernel
        · split
          · rfl
          · split <;> rfl
theorem to_zero (ty : Int) : toT ty 0 = 0 := by
  unfold toT
  split
  · rfl
  · split
    · decide +kernel
    · split <;> rfl
theorem to_lt (ty : Int) (n : Nat) (h : n < 18446744073709551616) : toT ty n < 18446744073709551616 := by
  unfold toT
  split
  · omega
  · split
    · have : -9223372036854775808 ≤ wrap64 (n : Int) ∧ wrap64 (n : Int) < 9223372036854775808 := by unfold wrap64; omega
      unfold zigN; split <;> omega
    · split <;> omega
theorem or_half (l h : Nat) (hl : l < 4294967296) (hh : h < 4294967296) : bits .or .u64 ((h : Int) * 4294967296) (l : Int) = ((h * 4294967296 + l : Nat) : Int) := by
  rw [bits_join .u64 64 (by decide) wraps_u64 32 _ _ (by omega) (by omega) (by omega) (by omega) (by omega) (by omega)]
  omega
set_option maxHeartbeats 1000000 in
theorem from_live : fromT 1 4294967295 = 18446744073709551615 := by decide +kernel
end Go.Proofs.YtdenhfhdobcfiaaDoor
