/- Several texts in one: SxD. What each proves, and its conditions, stands at its own head. -/
import Derived.Test.YtmajhjkibmbikaaPkK17
import Derived.Test.YtmajhjkibmbikaaPkK25
import Derived.Test.YtmajhjkibmbikaaPkK16
import Derived.Test.YtmajhjkibmbikaaPkK6
import Derived.Lib.AppendZerosOnto
/- slices.Grow of no list, slices.Concat of two lists of texts, strings.Clone. Conditions: those that each theorem names. -/
namespace Go.Proofs.Ytmajhjkibmbikaa
open Go.RowKit
set_option linter.unusedVariables false
set_option maxRecDepth 100000

theorem sclone_any (s : ByteArray) (w : World) (hs : s.size ≤ 1000000) : Calls Try.prog 53 #[.string s] w fun e w' => e = .returned (.string s) ∧ Below w.heap.size w w' := by
  have H : Hid (∀ w, Calls Try.prog 63 #[.string s] w fun e w' => e = .returned (.string s) ∧ Below w.heap.size w w') := Lib.hid (fun w => Any.stringslite_Clone lcl_lays s w (by omega))
  clear hs
  go_enter Try.func53, Try.ntmps53
  go_wp2_with (go_at_call 63; refine (H.out _).mono ?_; rintro e w2 ⟨rfl, hb⟩)
  go_ret
  exact ⟨rfl, hb⟩

end Go.Proofs.Ytmajhjkibmbikaa
