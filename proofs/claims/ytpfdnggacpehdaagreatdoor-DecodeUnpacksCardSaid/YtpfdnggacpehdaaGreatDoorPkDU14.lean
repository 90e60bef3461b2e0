/- Several texts in one: StrBs. What each proves, and its conditions, stands at its own head. -/
import Derived.Test.YtpfdnggacpehdaaGreatDoorPkDU0
import Derived.Lib.ConvBytes
/- '[]byte(s)': what it answers, in memory of its own. Conditions: those that each theorem names. -/
namespace Go.Proofs.YtpfdnggacpehdaaGreatDoor
open Go.RowKit
set_option linter.unusedVariables false

theorem str_size (t : List UInt8) : (strOf t).size = t.length := by simp [strOf, ByteArray.size]
theorem run_bytes (t : List UInt8) (w : World) : (convert 9 26 (.string (strOf t))).run Tryz.prog w = .ok (.slice (some ⟨w.heap.size, 0, none⟩) t.length (grownCap w t.length 0 5)) (Lib.bytesWorld w 5 (strOf t)) := by
  have h := Lib.run_convert_string_bytes (P := Tryz.prog) w 9 26 5 (strOf t) Tryz.underlying9 Tryz.underlying26 Tryz.underlying5
  rw [str_size] at h
  exact h
theorem bytes_below (w : World) (t : List UInt8) : Below w.heap.size w (Lib.bytesWorld w 5 (strOf t)) :=
  ⟨rfl, rfl, rfl, by rw [Lib.bytesWorld_size]; omega, fun k hk => Lib.bytesWorld_at_old w _ _ k hk⟩
theorem bytes_bs (w : World) (t : List UInt8) (h : t.length ≤ maxLen) : Bs (Lib.bytesWorld w 5 (strOf t)) (some ⟨w.heap.size, 0, none⟩) (grownCap w t.length 0 5) t := by
  refine ⟨grownCap_ge w _ _ _, grownCap_le_maxLen w _ _ _ h, (fun h => by cases h), fun j c hj => ⟨_, _, rfl, ?_⟩⟩
  have hlt := (List.getElem?_eq_some_iff.1 hj).1
  rw [Nat.zero_add, Lib.bytesWorld_cell w _ _ j (by rw [str_size]; exact hlt)]
  simp [strOf, List.getD, hj]
end Go.Proofs.YtpfdnggacpehdaaGreatDoor
