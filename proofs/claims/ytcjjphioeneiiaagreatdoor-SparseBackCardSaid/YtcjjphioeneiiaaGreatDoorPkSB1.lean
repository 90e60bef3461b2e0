/- Several texts in one: LyNd, LySm. What each proves, and its conditions, stands at its own head. -/
import Derived.Shelf.Strconv.Itoa1
import Derived.Test.YtcjjphioeneiiaaGreatDoorChecked
/- A function of the library, with all that it calls, laid at this seat: internal/strconv.numDigits. Conditions: none. -/
namespace Go.Proofs.YtcjjphioeneiiaaGreatDoor
open Go.Shelf

def lnd_ren : Ren := ⟨fun | 129 => 171 | 284 => 285 | 317 => 296 | 318 => 297 | n => n, fun | 0 => 0 | 3 => 3 | 4 => 4 | 5 => 5 | 9 => 9 | 46 => 124 | 53 => 60 | 212 => 262 | n => n, fun | 17 => 4 | n => n⟩
theorem lnd_lays : LaysM.n284 Tryz.prog lnd_ren := {
 mixed := by kernel_rfl
 f129 := Tryz.func171.trans (congrArg some (by kernel_rfl))
 f284 := Tryz.func285.trans (congrArg some (by kernel_rfl))
 f317 := Tryz.func296.trans (congrArg some (by kernel_rfl))
 f318 := Tryz.func297.trans (congrArg some (by kernel_rfl))
 t0 := Tryz.underlying0
 a0 := Tryz.isAgg0
 z0 := Tryz.sizeOf0
 v0 := Tryz.zeroValue0
 t3 := Tryz.underlying3
 a3 := Tryz.isAgg3
 z3 := Tryz.sizeOf3
 v3 := Tryz.zeroValue3
 t4 := Tryz.underlying4
 a4 := Tryz.isAgg4
 z4 := Tryz.sizeOf4
 v4 := Tryz.zeroValue4
 t5 := Tryz.underlying5
 a5 := Tryz.isAgg5
 z5 := Tryz.sizeOf5
 v5 := Tryz.zeroValue5
 t9 := Tryz.underlying9
 a9 := Tryz.isAgg9
 z9 := Tryz.sizeOf9
 v9 := Tryz.zeroValue9
 t46 := Tryz.underlying124
 a46 := Tryz.isAgg124
 z46 := Tryz.sizeOf124
 v46 := Tryz.zeroValue124
 t53 := Tryz.underlying60
 a53 := Tryz.isAgg60
 z53 := Tryz.sizeOf60
 v53 := Tryz.zeroValue60
 t212 := Tryz.underlying262
 a212 := Tryz.isAgg262
 z212 := Tryz.sizeOf262
 v212 := Tryz.zeroValue262
 g17 := by kernel_rfl
 i0 := by kernel_rfl
 i3 := by kernel_rfl
 i4 := by kernel_rfl
 i5 := by kernel_rfl
 i9 := by kernel_rfl
 i46 := by kernel_rfl
 i53 := by kernel_rfl
 i212 := by kernel_rfl
 m17 := by kernel_rfl }
end Go.Proofs.YtcjjphioeneiiaaGreatDoor

/- A function of the library, with all that it calls, laid at this seat: internal/strconv.small. Conditions: none. -/
namespace Go.Proofs.YtcjjphioeneiiaaGreatDoor
open Go.Shelf

def lsm_ren : Ren := ⟨fun | 283 => 284 | n => n, fun | 3 => 3 | 4 => 4 | 9 => 9 | n => n, fun n => n⟩
theorem lsm_lays : Lays.n283 Tryz.prog lsm_ren := {
 mixed := by kernel_rfl
 f283 := Tryz.func284.trans (congrArg some (by kernel_rfl))
 t3 := Tryz.underlying3
 a3 := Tryz.isAgg3
 z3 := Tryz.sizeOf3
 v3 := Tryz.zeroValue3
 t4 := Tryz.underlying4
 a4 := Tryz.isAgg4
 z4 := Tryz.sizeOf4
 v4 := Tryz.zeroValue4
 t9 := Tryz.underlying9
 a9 := Tryz.isAgg9
 z9 := Tryz.sizeOf9
 v9 := Tryz.zeroValue9 }
end Go.Proofs.YtcjjphioeneiiaaGreatDoor
