/- What a bound on the bulk of what comes in gives: a slice's length, a text's. Conditions: those that each theorem names. -/
import Derived.Test.YtfmhpicnajeflaaRows
namespace Go.Proofs.Ytfmhpicnajeflaa.bulks
set_option linter.unusedVariables false

theorem one_le {H : Type} (d : DataW H) : 1 ≤ Rows.uptoBulk d := by
  cases d with
  | lit l => cases l <;> simp [Rows.uptoBulk]
  | _ => simp [Rows.uptoBulk]
theorem in_le {H : Type} {d : DataW H} : ∀ {l : List (DataW H)}, d ∈ l → Rows.uptoBulk d ≤ Rows.uptoBulkAll l
  | [], h => by cases h
  | x :: r, h => by
    simp only [Rows.uptoBulkAll]
    rcases List.mem_cons.1 h with rfl | h
    · omega
    · have := in_le h
      omega
theorem many_le {H : Type} : ∀ l : List (DataW H), l.length ≤ Rows.uptoBulkAll l
  | [] => Nat.zero_le _
  | x :: r => by
    have h1 := one_le x
    have h2 := many_le r
    simp only [Rows.uptoBulkAll, List.length_cons]
    omega
theorem small {H : Type} {l : List (DataW H)} (hk : Rows.uptoSmall H l = true) : Rows.uptoBulkAll l ≤ 1048576 := of_decide_eq_true hk
theorem slice_in {H : Type} {l : List (DataW H)} (hk : Rows.uptoSmall H l = true) {d : DataW H} (hd : d ∈ l) {a b : List (DataW H)} (he : d = .slice a b) : a.length ≤ 1048576 := by
  have h1 := small hk
  have h2 := in_le hd
  rw [he] at h2
  have h3 := many_le a
  simp only [Rows.uptoBulk] at h2
  omega
theorem string_in {H : Type} {l : List (DataW H)} (hk : Rows.uptoSmall H l = true) {b : List UInt8} (hd : DataW.lit (.string b) ∈ l) : b.length ≤ 1048576 := by
  have h1 := small hk
  have h2 := in_le hd
  simp only [Rows.uptoBulk] at h2
  omega
end Go.Proofs.Ytfmhpicnajeflaa.bulks
