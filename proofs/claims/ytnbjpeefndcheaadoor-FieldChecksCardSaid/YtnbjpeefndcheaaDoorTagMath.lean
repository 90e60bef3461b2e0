/- What stands ahead of a field, as plain functions (no program here). -/
import Derived.Test.YtnbjpeefndcheaaDoorInts
namespace Go.Proofs.YtnbjpeefndcheaaDoor

def isWire (t : Int) : Bool := t == 0 || (t == 1 || (t == 2 || t == 5))
def numOk (n : Int) : Bool := decide (1 ≤ n ∧ n ≤ 536870911)
def rightB (n t : Int) : Bool := numOk n && isWire t
def tagN (n t : Int) : Nat := if rightB n t = true then (8 * n + t).toNat else 0
def splitOk (u : Nat) : Bool := rightB (u / 8 : Nat) (u % 8 : Nat)
def splitN (u : Nat) : Nat := if splitOk u = true then u / 8 else 0
def splitW (u : Nat) : Nat := if splitOk u = true then u % 8 else 0
def fieldB (n : Int) : Bool := numOk n && decide (n < 19000 ∨ 19999 < n)

theorem isWire_iff (t : Int) : isWire t = true ↔ (t = 0 ∨ t = 1 ∨ t = 2 ∨ t = 5) := by simp [isWire]
theorem numOk_iff (n : Int) : numOk n = true ↔ (1 ≤ n ∧ n ≤ 536870911) := by simp [numOk]
theorem rightB_iff (n t : Int) : rightB n t = true ↔ (1 ≤ n ∧ n ≤ 536870911) ∧ (t = 0 ∨ t = 1 ∨ t = 2 ∨ t = 5) := by
  rw [rightB, Bool.and_eq_true, numOk_iff, isWire_iff]
theorem tagN_lt (n t : Int) : tagN n t < 4294967296 := by
  unfold tagN; split
  · rename_i h; rw [rightB_iff] at h; omega
  · omega
theorem tag_split (u : Nat) (h : splitOk u = true) : tagN (splitN u) (splitW u) = u := by
  have h2 := h
  unfold splitOk at h2
  rw [splitN, splitW, if_pos h, if_pos h, tagN, if_pos h2]
  omega
theorem right_split (u : Nat) : rightB (splitN u) (splitW u) = splitOk u := by
  cases h : splitOk u with
  | true => have h2 := h; unfold splitOk at h2; rw [splitN, splitW, if_pos h, if_pos h, h2]
  | false => rw [splitN, splitW, h, if_neg (by simp), if_neg (by simp)]; rfl
theorem split_tag (n t : Int) (h : rightB n t = true) : splitOk (tagN n t) = true ∧ (splitN (tagN n t) : Int) = n ∧ (splitW (tagN n t) : Int) = t := by
  have h2 := h
  rw [rightB_iff] at h2
  have e : tagN n t = (8 * n + t).toNat := by rw [tagN, if_pos h]
  have e1 : ((tagN n t / 8 : Nat) : Int) = n := by rw [e]; omega
  have e2 : ((tagN n t % 8 : Nat) : Int) = t := by rw [e]; omega
  have h3 : splitOk (tagN n t) = true := by unfold splitOk; rw [e1, e2, h]
  refine ⟨h3, ?_, ?_⟩
  · rw [splitN, if_pos h3, e1]
  · rw [splitW, if_pos h3, e2]
end Go.Proofs.YtnbjpeefndcheaaDoor
