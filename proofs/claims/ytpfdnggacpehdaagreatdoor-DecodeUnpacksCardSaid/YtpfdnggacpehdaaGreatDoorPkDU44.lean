/- Several texts in one: VdU. What each proves, and its conditions, stands at its own head. -/
import Derived.Test.YtpfdnggacpehdaaGreatDoorPkDU12
import Derived.Test.YtpfdnggacpehdaaGreatDoorPkDU0
import Derived.Lib.Hide
/- unicode/utf8's tables as a law's row lays them (`U8Env`); which texts are valid. Conditions: U8Env; those that each theorem names. -/
namespace Go.Proofs.YtpfdnggacpehdaaGreatDoor
open Go.RowKit Go.Shelf
set_option linter.unusedVariables false
set_option maxRecDepth 100000

def U8Env (w : World) : Prop := Lib.Utf8Tabs 1 2 w
theorem U8Env.goesOn {w w' : World} (h : U8Env w) (hb : Below w.heap.size w w') : U8Env w' := Utf8Tabs_below h hb
theorem pvalid_any (s : List UInt8) (hs : s.length ≤ 140737488351232) (w : World) (env : U8Env w) : Calls Tryz.prog 117 #[.string (strOf s)] w fun e w' => e = .returned (.bool (Lib.validD s)) ∧ Below w.heap.size w w' := by
  have h := Any.utf8_ValidString lvs_lays (strOf s) w (by have : (strOf s).size = s.length := by simp [strOf, ByteArray.size]
                                                          omega) env
  have e : (strOf s).data.toList = s := by simp [strOf]
  rw [e] at h
  exact h
theorem u8_made {W : World} {l : List (String × DataW Unit)} (h : laidMet Tryz.prog l W) (h3 : ("unicode/utf8.first", Lib.firstData) ∈ l) (h4 : ("unicode/utf8.acceptRanges", Lib.acceptData) ∈ l) : U8Env W :=
  utf8Tabs_of_readsT (U8Types.of196 lvs_lays) ⟨by kernel_rfl, by kernel_rfl, by kernel_rfl, by kernel_rfl, by kernel_rfl, by kernel_rfl, by kernel_rfl⟩ (Lib.laidMet.reads h h3) (Lib.laidMet.reads h h4)
end Go.Proofs.YtpfdnggacpehdaaGreatDoor
