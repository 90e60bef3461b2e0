/- Several texts in one: RsB. What each proves, and its conditions, stands at its own head. -/
import Derived.Test.YtpbhokmpbcmdcaaGreatDoorPkc25
import Derived.Test.YtpbhokmpbcmdcaaGreatDoorPkc0
import Derived.Test.YtpbhokmpbcmdcaaGreatDoorPkc4
import Derived.Test.YtpbhokmpbcmdcaaGreatDoorPkc2
/- The document's Word, Of, May. Conditions: those that each theorem names. -/
namespace Go.Proofs.YtpbhokmpbcmdcaaGreatDoor
open Go.RowKit
set_option linter.unusedVariables false
set_option maxRecDepth 100000

def typesRow : Array Value := (txts typesL).toArray
theorem ofFrom_drop (s : List UInt8) {k : Nat} {t : List UInt8} (h : typesL[k]? = some t) : ofFrom (typesL.drop k) k s = if t = s then k else ofFrom (typesL.drop (k + 1)) (k + 1) s := by
  obtain ⟨hk, rfl⟩ := List.getElem?_eq_some_iff.mp h
  rw [List.drop_eq_getElem_cons hk, ofFrom]
end Go.Proofs.YtpbhokmpbcmdcaaGreatDoor
