/- A function of the library, with all that it calls, laid at this seat: internal/strconv.small. Conditions: none. -/
import Derived.Shelf.Strconv.Itoa1
import Derived.Test.YtnbjpeefndcheaaDoorChecked
namespace Go.Proofs.YtnbjpeefndcheaaDoor
open Go.Shelf

def lsm_ren : Ren := ⟨fun | 283 => 46 | n => n, fun | 3 => 3 | 4 => 4 | 9 => 9 | n => n, fun n => n⟩
theorem lsm_lays : Lays.n283 Tryd.prog lsm_ren := {
  mixed := by kernel_rfl
  f283 := Tryd.func46.trans (congrArg some (by kernel_rfl))
  t3 := Tryd.underlying3
  a3 := Tryd.isAgg3
  z3 := Tryd.sizeOf3
  v3 := Tryd.zeroValue3
  t4 := Tryd.underlying4
  a4 := Tryd.isAgg4
  z4 := Tryd.sizeOf4
  v4 := Tryd.zeroValue4
  t9 := Tryd.underlying9
  a9 := Tryd.isAgg9
  z9 := Tryd.sizeOf9
  v9 := Tryd.zeroValue9 }
end Go.Proofs.YtnbjpeefndcheaaDoor
