/- Layer 8 in plain words (no program here): a row of bytes while digits are read into it. -/
import Derived.Test.YtfmhpicnajeflaaHexMath
namespace Go.Proofs.Ytfmhpicnajeflaa
set_option linter.unusedVariables false

theorem unhex_all : ∀ (t : List UInt8) (m : Nat), t.length = 2 * m → (∀ i, i < t.length → 0 ≤ dv (t.getD i 0)) → unhex t = some ((List.range m).map fun j => byteOf (t.getD (2 * j) 0) (t.getD (2 * j + 1) 0))
  | [], m, hm, h => by
    obtain rfl : m = 0 := by simp at hm; omega
    rfl
  | [_], m, hm, h => by simp at hm; omega
  | a :: b :: r, m, hm, h => by
    obtain ⟨q, rfl⟩ : ∃ q, m = q + 1 := ⟨m - 1, by simp at hm; omega⟩
    have ha : 0 ≤ dv a := by simpa using h 0 (by simp)
    have hb : 0 ≤ dv b := by simpa using h 1 (by simp)
    rw [unhex, if_neg (by omega), unhex_all r q (by simp at hm; omega) (fun i hi => by have := h (i + 1 + 1) (by simp; omega); simpa using this), List.range_succ_eq_map]
    simp only [Option.map_some, List.map_cons, List.map_map]
    congr 2
theorem unhex_bad : ∀ (t : List UInt8) (i : Nat), i < t.length → t.length % 2 = 0 → dv (t.getD i 0) < 0 → unhex t = none
  | [], i, hi, hl, h => by simp at hi
  | [_], i, hi, hl, h => by simp at hl
  | a :: b :: r, i, hi, hl, h => by
    rw [unhex]
    split
    · rfl
    · rename_i hn
      match i, hi, h with
      | 0, hi, h => simp at h; omega
      | 1, hi, h => simp at h; omega
      | i + 2, hi, h =>
        rw [unhex_bad r i (by simp at hi; omega) (by simp at hl; omega) (by simpa using h)]
        rfl
/-- The cell at j when k digits are read. -/
def rowC (t : List UInt8) (k j : Nat) : UInt8 := if 2 * j + 1 < k then byteOf (t.getD (2 * j) 0) (t.getD (2 * j + 1) 0) else if 2 * j < k then (dv (t.getD (2 * j) 0)).toNat.toUInt8 else 0
def rowL (t : List UInt8) (k m : Nat) : List UInt8 := (List.range m).map (rowC t k)
theorem rowL_length (t : List UInt8) (k m : Nat) : (rowL t k m).length = m := by simp [rowL]
theorem rowL_zero (t : List UInt8) (m : Nat) : rowL t 0 m = List.replicate m 0 := by
  apply List.ext_getElem
  · simp [rowL]
  · intro i h1 h2
    simp [rowL, rowC]
theorem rowL_get (t : List UInt8) (k m : Nat) : k / 2 < m → (rowL t k m)[k / 2]? = some (rowC t k (k / 2)) := by
  intro h
  simp [rowL, h]
theorem rowL_all (t : List UInt8) (m : Nat) (hm : t.length = 2 * m) (h : ∀ i, i < t.length → 0 ≤ dv (t.getD i 0)) : unhex t = some (rowL t (2 * m) m) := by
  rw [unhex_all t m hm h]
  congr 1
  apply List.ext_getElem
  · simp [rowL]
  · intro i h1 h2
    have hi : i < m := by simpa using h1
    simp [rowL, rowC, show 2 * i + 1 < 2 * m by omega]
/-- What the cell becomes by one more digit. -/
theorem rowC_next (t : List UInt8) (k : Nat) (c : UInt8) (hc : t.getD k 0 = c) (h : ∀ i, i ≤ k → 0 ≤ dv (t.getD i 0)) : ((rowC t (k + 1) (k / 2)).toNat : Int) = ((rowC t k (k / 2)).toNat : Int) * 16 + dv c := by
  have hk := h k (Nat.le_refl _)
  rw [hc] at hk
  have hl := dv_lt c
  by_cases he : k % 2 = 0
  · have e : 2 * (k / 2) = k := by omega
    unfold rowC
    rw [e, if_neg (by omega), if_pos (by omega), if_neg (by omega), if_neg (by omega), hc]
    simp
    omega
  · have e : 2 * (k / 2) + 1 = k := by omega
    have e2 : 2 * (k / 2) = k - 1 := by omega
    have hp := h (k - 1) (by omega)
    have hpl := dv_lt (t.getD (k - 1) 0)
    unfold rowC byteOf
    rw [e, if_pos (by omega), if_neg (by omega), if_pos (by omega), e2, hc]
    simp
    simp at hp hpl
    omega
theorem rowL_next (t : List UInt8) (k m : Nat) : rowL t (k + 1) m = (rowL t k m).set (k / 2) (rowC t (k + 1) (k / 2)) := by
  apply List.ext_getElem
  · simp [rowL]
  · intro i h1 h2
    rw [List.getElem_set]
    split
    · rename_i h; subst h; simp [rowL]
    · rename_i h
      simp [rowL]
      unfold rowC
      by_cases g1 : 2 * i + 1 < k
      · rw [if_pos g1, if_pos (by omega)]
      · rw [if_neg g1, if_neg (by omega)]
        by_cases g2 : 2 * i < k
        · omega
        · rw [if_neg g2, if_neg (by omega)]
end Go.Proofs.Ytfmhpicnajeflaa
