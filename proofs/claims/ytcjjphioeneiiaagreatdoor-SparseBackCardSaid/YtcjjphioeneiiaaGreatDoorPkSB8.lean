/- Several texts in one: LyCl, LyCp, LyCt, LyFb. What each proves, and its conditions, stands at its own head. -/
import Derived.Shelf.Strconv.Clone
import Derived.Test.YtcjjphioeneiiaaGreatDoorChecked
import Derived.Shelf.Small.Wraps
import Derived.Shelf.Strings.Cut
import Derived.Shelf.Strconv.Itoa2
/- A function of the library, with all that it calls, laid at this seat: internal/stringslite.Clone. Conditions: none. -/
namespace Go.Proofs.YtcjjphioeneiiaaGreatDoor
open Go.Shelf

def lcl_ren : Ren := ⟨fun | 316 => 181 | n => n, fun | 0 => 0 | 3 => 3 | 4 => 4 | 5 => 5 | 9 => 9 | 37 => 172 | 127 => 225 | n => n, fun n => n⟩
theorem lcl_lays : LaysM.n316 Tryz.prog lcl_ren := {
 mixed := by kernel_rfl
 f316 := Tryz.func181.trans (congrArg some (by kernel_rfl))
 t0 := Tryz.underlying0
 a0 := Tryz.isAgg0
 z0 := Tryz.sizeOf0
 v0 := Tryz.zeroValue0
 t3 := Tryz.underlying3
 a3 := Tryz.isAgg3
 z3 := Tryz.sizeOf3
 v3 := Tryz.zeroValue3
 t4 := Tryz.underlying4
 a4 := Tryz.isAgg4
 z4 := Tryz.sizeOf4
 v4 := Tryz.zeroValue4
 t9 := Tryz.underlying9
 a9 := Tryz.isAgg9
 z9 := Tryz.sizeOf9
 v9 := Tryz.zeroValue9
 t37 := Tryz.underlying172
 a37 := Tryz.isAgg172
 z37 := Tryz.sizeOf172
 v37 := Tryz.zeroValue172
 t127 := Tryz.underlying225
 a127 := Tryz.isAgg225
 z127 := Tryz.sizeOf225
 v127 := Tryz.zeroValue225
 t5 := Tryz.underlying5
 a5 := Tryz.isAgg5
 z5 := Tryz.sizeOf5
 v5 := Tryz.zeroValue5
 i0 := by kernel_rfl
 i3 := by kernel_rfl
 i4 := by kernel_rfl
 i5 := by kernel_rfl
 i9 := by kernel_rfl
 i37 := by kernel_rfl
 i127 := by kernel_rfl }
end Go.Proofs.YtcjjphioeneiiaaGreatDoor

/- A function of the library, with all that it calls, laid at this seat: strings.CutPrefix. Conditions: none. -/
namespace Go.Proofs.YtcjjphioeneiiaaGreatDoor
open Go.Shelf

def lcp_ren : Ren := ⟨fun | 103 => 175 | 206 => 101 | 210 => 237 | n => n, fun | 3 => 3 | 4 => 4 | 9 => 9 | 24 => 174 | n => n, fun n => n⟩
theorem lcp_lays : Lays.n103 Tryz.prog lcp_ren := {
 mixed := by kernel_rfl
 f103 := Tryz.func175.trans (congrArg some (by kernel_rfl))
 f206 := Tryz.func101.trans (congrArg some (by kernel_rfl))
 f210 := Tryz.func237.trans (congrArg some (by kernel_rfl))
 t3 := Tryz.underlying3
 a3 := Tryz.isAgg3
 z3 := Tryz.sizeOf3
 v3 := Tryz.zeroValue3
 t4 := Tryz.underlying4
 a4 := Tryz.isAgg4
 z4 := Tryz.sizeOf4
 v4 := Tryz.zeroValue4
 t9 := Tryz.underlying9
 a9 := Tryz.isAgg9
 z9 := Tryz.sizeOf9
 v9 := Tryz.zeroValue9
 t24 := Tryz.underlying174
 a24 := Tryz.isAgg174
 z24 := Tryz.sizeOf174
 v24 := Tryz.zeroValue174 }
end Go.Proofs.YtcjjphioeneiiaaGreatDoor

/- A function of the library, with all that it calls, laid at this seat: strings.Cut. Conditions: none. -/
namespace Go.Proofs.YtcjjphioeneiiaaGreatDoor
open Go.Shelf

def lct_ren : Ren := ⟨fun | 145 => 178 | 217 => 172 | 219 => 265 | 220 => 241 | 224 => 289 | 225 => 288 | 266 => 236 | 267 => 290 | 314 => 300 | n => n, fun | 3 => 3 | 4 => 4 | 5 => 5 | 9 => 9 | 46 => 124 | 51 => 170 | 59 => 183 | 146 => 264 | n => n, fun | 1 => 1 | n => n⟩
theorem lct_lays : Lays.n145 Tryz.prog lct_ren := {
 mixed := by kernel_rfl
 f145 := Tryz.func178.trans (congrArg some (by kernel_rfl))
 f217 := Tryz.func172.trans (congrArg some (by kernel_rfl))
 f219 := Tryz.func265.trans (congrArg some (by kernel_rfl))
 f220 := Tryz.func241.trans (congrArg some (by kernel_rfl))
 f224 := Tryz.func289.trans (congrArg some (by kernel_rfl))
 f225 := Tryz.func288.trans (congrArg some (by kernel_rfl))
 f266 := Tryz.func236.trans (congrArg some (by kernel_rfl))
 f267 := Tryz.func290.trans (congrArg some (by kernel_rfl))
 f314 := Tryz.func300.trans (congrArg some (by kernel_rfl))
 t3 := Tryz.underlying3
 a3 := Tryz.isAgg3
 z3 := Tryz.sizeOf3
 v3 := Tryz.zeroValue3
 t4 := Tryz.underlying4
 a4 := Tryz.isAgg4
 z4 := Tryz.sizeOf4
 v4 := Tryz.zeroValue4
 t5 := Tryz.underlying5
 a5 := Tryz.isAgg5
 z5 := Tryz.sizeOf5
 v5 := Tryz.zeroValue5
 t9 := Tryz.underlying9
 a9 := Tryz.isAgg9
 z9 := Tryz.sizeOf9
 v9 := Tryz.zeroValue9
 t46 := Tryz.underlying124
 a46 := Tryz.isAgg124
 z46 := Tryz.sizeOf124
 v46 := Tryz.zeroValue124
 t51 := Tryz.underlying170
 a51 := Tryz.isAgg170
 z51 := Tryz.sizeOf170
 v51 := Tryz.zeroValue170
 t59 := Tryz.underlying183
 a59 := Tryz.isAgg183
 z59 := Tryz.sizeOf183
 v59 := Tryz.zeroValue183
 t146 := Tryz.underlying264
 a146 := Tryz.isAgg264
 z146 := Tryz.sizeOf264
 v146 := Tryz.zeroValue264
 g1 := by kernel_rfl }
end Go.Proofs.YtcjjphioeneiiaaGreatDoor

/- A function of the library, with all that it calls, laid at this seat: internal/strconv.formatBase10. Conditions: none. -/
namespace Go.Proofs.YtcjjphioeneiiaaGreatDoor
open Go.Shelf

def lfb_ren : Ren := ⟨fun | 285 => 286 | n => n, fun | 0 => 0 | 3 => 3 | 4 => 4 | 5 => 5 | 9 => 9 | 37 => 172 | 51 => 170 | 53 => 60 | n => n, fun n => n⟩
theorem lfb_lays : Lays.n285 Tryz.prog lfb_ren := {
 mixed := by kernel_rfl
 f285 := Tryz.func286.trans (congrArg some (by kernel_rfl))
 t0 := Tryz.underlying0
 a0 := Tryz.isAgg0
 z0 := Tryz.sizeOf0
 v0 := Tryz.zeroValue0
 t3 := Tryz.underlying3
 a3 := Tryz.isAgg3
 z3 := Tryz.sizeOf3
 v3 := Tryz.zeroValue3
 t4 := Tryz.underlying4
 a4 := Tryz.isAgg4
 z4 := Tryz.sizeOf4
 v4 := Tryz.zeroValue4
 t5 := Tryz.underlying5
 a5 := Tryz.isAgg5
 z5 := Tryz.sizeOf5
 v5 := Tryz.zeroValue5
 t9 := Tryz.underlying9
 a9 := Tryz.isAgg9
 z9 := Tryz.sizeOf9
 v9 := Tryz.zeroValue9
 t37 := Tryz.underlying172
 a37 := Tryz.isAgg172
 z37 := Tryz.sizeOf172
 v37 := Tryz.zeroValue172
 t51 := Tryz.underlying170
 a51 := Tryz.isAgg170
 z51 := Tryz.sizeOf170
 v51 := Tryz.zeroValue170
 t53 := Tryz.underlying60
 a53 := Tryz.isAgg60
 z53 := Tryz.sizeOf60
 v53 := Tryz.zeroValue60 }
end Go.Proofs.YtcjjphioeneiiaaGreatDoor
