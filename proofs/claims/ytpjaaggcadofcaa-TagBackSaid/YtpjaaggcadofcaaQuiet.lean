/- A call that leaves the world as it was leaves all that was there. -/
import Derived.Test.YtpjaaggcadofcaaChecked
import Derived.WalkKit
import Derived.Below
namespace Go.Proofs.Ytpjaaggcadofcaa
open Go.RowKit
theorem quiet_below {k : Nat} {args : Array Value} {w : World} (h : Calls Try.prog k args w fun e w' => e = .returned (.bool true) ∧ w = w') :
    Calls Try.prog k args w fun e w' => e = .returned (.bool true) ∧ Below w.heap.size w w' :=
  h.mono fun _ _ ⟨he, hw⟩ => ⟨he, hw ▸ Below.refl _ _⟩
end Go.Proofs.Ytpjaaggcadofcaa
