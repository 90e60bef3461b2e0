/- Several texts in one: LyFb. What each proves, and its conditions, stands at its own head. -/
import Derived.Shelf.Strconv.Itoa2
import Derived.Test.YtjogamffdbedkaaGreatDoorChecked
/- A function of the library, with all that it calls, laid at this seat: internal/strconv.formatBase10. Conditions: none. -/
namespace Go.Proofs.YtjogamffdbedkaaGreatDoor
open Go.Shelf

def lfb_ren : Ren := ⟨fun | 285 => 145 | n => n, fun | 0 => 0 | 3 => 3 | 4 => 4 | 5 => 5 | 9 => 9 | 37 => 45 | 51 => 144 | 53 => 63 | n => n, fun n => n⟩
theorem lfb_lays : Lays.n285 Tryz.prog lfb_ren := {
  mixed := by kernel_rfl
  f285 := Tryz.func145.trans (congrArg some (by kernel_rfl))
  t0 := Tryz.underlying0
  a0 := Tryz.isAgg0
  z0 := Tryz.sizeOf0
  v0 := Tryz.zeroValue0
  t3 := Tryz.underlying3
  a3 := Tryz.isAgg3
  z3 := Tryz.sizeOf3
  v3 := Tryz.zeroValue3
  t4 := Tryz.underlying4
  a4 := Tryz.isAgg4
  z4 := Tryz.sizeOf4
  v4 := Tryz.zeroValue4
  t5 := Tryz.underlying5
  a5 := Tryz.isAgg5
  z5 := Tryz.sizeOf5
  v5 := Tryz.zeroValue5
  t9 := Tryz.underlying9
  a9 := Tryz.isAgg9
  z9 := Tryz.sizeOf9
  v9 := Tryz.zeroValue9
  t37 := Tryz.underlying45
  a37 := Tryz.isAgg45
  z37 := Tryz.sizeOf45
  v37 := Tryz.zeroValue45
  t51 := Tryz.underlying144
  a51 := Tryz.isAgg144
  z51 := Tryz.sizeOf144
  v51 := Tryz.zeroValue144
  t53 := Tryz.underlying63
  a53 := Tryz.isAgg63
  z53 := Tryz.sizeOf63
  v53 := Tryz.zeroValue63 }
end Go.Proofs.YtjogamffdbedkaaGreatDoor
