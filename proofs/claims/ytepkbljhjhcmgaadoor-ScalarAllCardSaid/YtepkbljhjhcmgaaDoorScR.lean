/- The program's Of, over its table; what is asked of the layer holds (`scalar_ok`). Conditions: ScEnv; those that each theorem names. -/
import Derived.Test.YtepkbljhjhcmgaaDoorScQ
import Derived.Test.YtepkbljhjhcmgaaDoorRiA
namespace Go.Proofs.YtepkbljhjhcmgaaDoor
open Go.RowKit
set_option linter.unusedVariables false
set_option maxRecDepth 100000

theorem ofFrom_none (s : List UInt8) : ∀ (l : List (List UInt8)) (k : Nat), (∀ t ∈ l, t ≠ s) → ofFrom l k s = 0
  | [], k, _ => rfl
  | t :: r, k, h => by
    unfold ofFrom
    rw [if_neg (h t (by simp))]
    exact ofFrom_none s r (k + 1) (fun t ht => h t (by simp [ht]))
theorem ofFrom_first (s : List UInt8) : ∀ (l : List (List UInt8)) (k j : Nat), (∀ i, i < j → l[i]? ≠ some s) → l[j]? = some s → ofFrom l k s = k + j
  | [], k, j, _, h => by simp at h
  | t :: r, k, 0, _, h => by
    simp at h
    unfold ofFrom
    rw [if_pos h]; omega
  | t :: r, k, j + 1, hn, h => by
    have h0 := hn 0 (by omega)
    simp at h0
    unfold ofFrom
    rw [if_neg h0, ofFrom_first s r (k + 1) j (fun i hi => by have := hn (i + 1) (by omega); simpa using this) (by simpa using h)]
    omega
theorem rowW_word {k : Nat} (h0 : 0 < k) (h : k < 14) : (typesL.drop 1)[k - 1]? = some (rowW k) := by
  rw [List.getElem?_drop, show 1 + (k - 1) = k by omega]
  unfold rowW
  rw [List.getElem?_eq_getElem (show k < typesL.length by simpa [typesL] using h)]
  rfl
theorem of_first (s : List UInt8) (k : Nat) (hk : k < 16) (hn : ∀ j, j < k → rowW j ≠ s) (h : rowW k = s) : ofT s = k := by
  by_cases h0 : k = 0
  · subst h0
    have hs : s = [] := h.symm
    subst hs
    decide
  · by_cases h14 : k < 14
    · unfold ofT
      rw [ofFrom_first s _ 1 (k - 1) (fun i hi => by
        have := rowW_word (k := i + 1) (by omega) (by omega)
        rw [show i + 1 - 1 = i by omega] at this
        rw [this]
        exact fun e => hn (i + 1) (by omega) (Option.some.inj e)) (by rw [rowW_word (by omega) h14, h])]
      omega
    · exfalso
      have hs : s = [] := by
        rw [← h]
        unfold rowW
        rw [List.getElem?_eq_none (show typesL.length ≤ k by simpa [typesL] using h14)]
        rfl
      exact hn 0 (by omega) (by rw [hs]; rfl)
theorem of_none (s : List UInt8) (hn : ∀ j, j < 16 → rowW j ≠ s) : ofT s = 0 := by
  unfold ofT
  refine ofFrom_none s _ 1 (fun t ht => ?_)
  obtain ⟨i, hi⟩ := List.mem_iff_getElem?.1 ht
  have hlt := (List.getElem?_eq_some_iff.1 hi).1
  have h13 : i < 13 := by simpa [typesL] using hlt
  have := rowW_word (k := i + 1) (by omega) (by omega)
  rw [show i + 1 - 1 = i by omega, hi] at this
  rw [Option.some.inj this]
  exact hn (i + 1) (by omega)

theorem pof_word (s : List UInt8) (w : World) (env : ScEnv w) : Calls Tryd.prog 21 #[.string (strOf s)] w fun e w' => e = .returned (.int .i64 (ofT s : Int)) ∧ Below w.heap.size w w' := by
  have ENV := Lib.hid env
  have HNONE := Lib.hid (of_none s)
  have HFIRST := Lib.hid (of_first s)
  obtain ⟨str, hstr⟩ : ∃ str, str = strOf s := ⟨_, rfl⟩
  have HS := Lib.hid hstr
  rw [← hstr]
  clear env hstr
  go_enter Tryd.func21, Tryd.ntmps21
  go_wp2
  go_loopw [4] (fun x wr => ∃ k : Nat, x = .int .i64 (k : Int) ∧ k ≤ 16 ∧ wr = w ∧ ∀ j, j < k → rowW j ≠ s) (fun x _ => 17 - (intOf x).toNat)
  case atStart => exact ⟨0, rfl, by omega, rfl, fun j hj => absurd hj (Nat.not_lt_zero _)⟩
  case round =>
    obtain ⟨k, rfl, hk, rfl, hall⟩ := hrel
    have HALL := Lib.hid hall
    clear hall
    by_cases h16 : k < 16
    · have g1 : decide ((k : Int) < 16) = true := decide_eq_true (by omega)
      have c0 := ENV.out.c0 k h16
      by_cases he : rowW k = s
      · have hc : ((strOf (rowW k)).toList == str.toList) = true := by rw [HS.out, str_list, str_list]; simpa using he
        have HE := Lib.hid (HFIRST.out k h16 HALL.out he)
        clear he hk
        obtain ⟨t, ht⟩ : ∃ t, t = strOf (rowW k) := ⟨_, rfl⟩
        rw [← ht] at c0 hc
        clear ht
        go_wp2
        go_ret
        exact ⟨by rw [HE.out]; rfl, Below.refl _ _⟩
      · have hc : ((strOf (rowW k)).toList == str.toList) = false := by rw [HS.out, str_list, str_list]; simpa using he
        have HE := Lib.hid he
        clear he
        obtain ⟨t, ht⟩ : ∃ t, t = strOf (rowW k) := ⟨_, rfl⟩
        rw [← ht] at c0 hc
        clear ht
        go_wp2
        go_roundw
        case rel =>
          refine ⟨k + 1, by go_num, by omega, trivial, fun j hj => ?_⟩
          by_cases hjk : j < k
          · exact HALL.out j hjk
          · obtain rfl : j = k := by omega
            exact HE.out
        case measure => simp [intOf]; omega
    · have g1 : decide ((k : Int) < 16) = false := decide_eq_false (by omega)
      obtain rfl : k = 16 := by omega
      go_wp2
      go_ret
      exact ⟨by rw [HNONE.out HALL.out]; rfl, Below.refl _ _⟩
end Go.Proofs.YtepkbljhjhcmgaaDoor
