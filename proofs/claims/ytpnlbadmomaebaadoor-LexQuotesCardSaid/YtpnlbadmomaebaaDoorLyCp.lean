/- A function of the library, with all that it calls, laid at this seat: strings.CutPrefix. Conditions: none. -/
import Derived.Shelf.Small.Wraps
import Derived.Test.YtpnlbadmomaebaaDoorChecked
namespace Go.Proofs.YtpnlbadmomaebaaDoor
open Go.Shelf

def lcp_ren : Ren := ⟨fun | 103 => 40 | 206 => 23 | 210 => 57 | n => n, fun | 3 => 3 | 4 => 4 | 9 => 9 | 24 => 59 | n => n, fun n => n⟩
theorem lcp_lays : Lays.n103 Tryd.prog lcp_ren := {
  mixed := by kernel_rfl
  f103 := Tryd.func40.trans (congrArg some (by kernel_rfl))
  f206 := Tryd.func23.trans (congrArg some (by kernel_rfl))
  f210 := Tryd.func57.trans (congrArg some (by kernel_rfl))
  t3 := Tryd.underlying3
  a3 := Tryd.isAgg3
  z3 := Tryd.sizeOf3
  v3 := Tryd.zeroValue3
  t4 := Tryd.underlying4
  a4 := Tryd.isAgg4
  z4 := Tryd.sizeOf4
  v4 := Tryd.zeroValue4
  t9 := Tryd.underlying9
  a9 := Tryd.isAgg9
  z9 := Tryd.sizeOf9
  v9 := Tryd.zeroValue9
  t24 := Tryd.underlying59
  a24 := Tryd.isAgg59
  z24 := Tryd.sizeOf59
  v24 := Tryd.zeroValue59 }
end Go.Proofs.YtpnlbadmomaebaaDoor
