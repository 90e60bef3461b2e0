/- Several texts in one: LyHp, LyIb, LyPu. What each proves, and its conditions, stands at its own head. -/
import Derived.Shelf.Strings.Prefix
import Derived.Test.YtcjjphioeneiiaaGreatDoorChecked
import Derived.Shelf.Small.Strs
import Derived.Shelf.Pu.ErrVarParseUint
/- A function of the library, with all that it calls, laid at this seat: strings.HasPrefix. Conditions: none. -/
namespace Go.Proofs.YtcjjphioeneiiaaGreatDoor
open Go.Shelf

def lhp_ren : Ren := ⟨fun | 99 => 51 | 206 => 101 | n => n, fun | 3 => 3 | 4 => 4 | 9 => 9 | n => n, fun n => n⟩
theorem lhp_lays : Lays.n99 Tryz.prog lhp_ren := {
 mixed := by kernel_rfl
 f99 := Tryz.func51.trans (congrArg some (by kernel_rfl))
 f206 := Tryz.func101.trans (congrArg some (by kernel_rfl))
 t3 := Tryz.underlying3
 a3 := Tryz.isAgg3
 z3 := Tryz.sizeOf3
 v3 := Tryz.zeroValue3
 t4 := Tryz.underlying4
 a4 := Tryz.isAgg4
 z4 := Tryz.sizeOf4
 v4 := Tryz.zeroValue4
 t9 := Tryz.underlying9
 a9 := Tryz.isAgg9
 z9 := Tryz.sizeOf9
 v9 := Tryz.zeroValue9 }
end Go.Proofs.YtcjjphioeneiiaaGreatDoor

/- A function of the library, with all that it calls, laid at this seat: strings.IndexByte. Conditions: none. -/
namespace Go.Proofs.YtcjjphioeneiiaaGreatDoor
open Go.Shelf

def lib_ren : Ren := ⟨fun | 137 => 102 | 217 => 172 | 266 => 236 | n => n, fun | 3 => 3 | 5 => 5 | 9 => 9 | n => n, fun n => n⟩
theorem lib_lays : Lays.n137 Tryz.prog lib_ren := {
 mixed := by kernel_rfl
 f137 := Tryz.func102.trans (congrArg some (by kernel_rfl))
 f217 := Tryz.func172.trans (congrArg some (by kernel_rfl))
 f266 := Tryz.func236.trans (congrArg some (by kernel_rfl))
 t3 := Tryz.underlying3
 a3 := Tryz.isAgg3
 z3 := Tryz.sizeOf3
 v3 := Tryz.zeroValue3
 t5 := Tryz.underlying5
 a5 := Tryz.isAgg5
 z5 := Tryz.sizeOf5
 v5 := Tryz.zeroValue5
 t9 := Tryz.underlying9
 a9 := Tryz.isAgg9
 z9 := Tryz.sizeOf9
 v9 := Tryz.zeroValue9 }
end Go.Proofs.YtcjjphioeneiiaaGreatDoor

/- A function of the library, with all that it calls, laid at this seat: strconv.ParseUint. Conditions: none. -/
namespace Go.Proofs.YtcjjphioeneiiaaGreatDoor
open Go.Shelf

def lpu_ren : Ren := ⟨fun | 14 => 176 | 16 => 238 | 17 => 239 | 19 => 258 | 20 => 259 | 21 => 260 | 22 => 261 | 23 => 262 | 24 => 263 | 25 => 181 | 26 => 282 | 27 => 283 | 28 => 295 | 29 => 302 | 30 => 284 | 31 => 285 | 32 => 286 | 33 => 287 | 34 => 296 | 35 => 171 | 36 => 297 | 37 => 298 | 38 => 299 | 39 => 303 | 40 => 304 | n => n, fun | 0 => 0 | 2 => 2 | 3 => 3 | 4 => 4 | 5 => 5 | 9 => 9 | 20 => 20 | 21 => 21 | 22 => 60 | 24 => 177 | 25 => 178 | 34 => 235 | 36 => 124 | 37 => 172 | 39 => 237 | 44 => 249 | 47 => 225 | 48 => 258 | 50 => 260 | 52 => 251 | 55 => 253 | 59 => 262 | 60 => 170 | 61 => 263 | 65 => 268 | 66 => 269 | 67 => 100 | n => n, fun | 0 => 2 | 1 => 3 | 2 => 4 | 3 => 5 | 4 => 6 | n => n⟩
theorem lpu_lays : LaysPu.n14 Tryz.prog lpu_ren := {
 mixed := by kernel_rfl
 f14 := Tryz.func176.trans (congrArg some (by kernel_rfl))
 f16 := Tryz.func238.trans (congrArg some (by kernel_rfl))
 f17 := Tryz.func239.trans (congrArg some (by kernel_rfl))
 f19 := Tryz.func258.trans (congrArg some (by kernel_rfl))
 f20 := Tryz.func259.trans (congrArg some (by kernel_rfl))
 f21 := Tryz.func260.trans (congrArg some (by kernel_rfl))
 f22 := Tryz.func261.trans (congrArg some (by kernel_rfl))
 f23 := Tryz.func262.trans (congrArg some (by kernel_rfl))
 f24 := Tryz.func263.trans (congrArg some (by kernel_rfl))
 f25 := Tryz.func181.trans (congrArg some (by kernel_rfl))
 f26 := Tryz.func282.trans (congrArg some (by kernel_rfl))
 f27 := Tryz.func283.trans (congrArg some (by kernel_rfl))
 f28 := Tryz.func295.trans (congrArg some (by kernel_rfl))
 f29 := Tryz.func302.trans (congrArg some (by kernel_rfl))
 f30 := Tryz.func284.trans (congrArg some (by kernel_rfl))
 f31 := Tryz.func285.trans (congrArg some (by kernel_rfl))
 f32 := Tryz.func286.trans (congrArg some (by kernel_rfl))
 f33 := Tryz.func287.trans (congrArg some (by kernel_rfl))
 f34 := Tryz.func296.trans (congrArg some (by kernel_rfl))
 f35 := Tryz.func171.trans (congrArg some (by kernel_rfl))
 f36 := Tryz.func297.trans (congrArg some (by kernel_rfl))
 f37 := Tryz.func298.trans (congrArg some (by kernel_rfl))
 f38 := Tryz.func299.trans (congrArg some (by kernel_rfl))
 f39 := Tryz.func303.trans (congrArg some (by kernel_rfl))
 f40 := Tryz.func304.trans (congrArg some (by kernel_rfl))
 t0 := Tryz.underlying0
 a0 := Tryz.isAgg0
 z0 := Tryz.sizeOf0
 v0 := Tryz.zeroValue0
 i0 := by kernel_rfl
 t2 := Tryz.underlying2
 a2 := Tryz.isAgg2
 z2 := Tryz.sizeOf2
 v2 := Tryz.zeroValue2
 i2 := by kernel_rfl
 t3 := Tryz.underlying3
 a3 := Tryz.isAgg3
 z3 := Tryz.sizeOf3
 v3 := Tryz.zeroValue3
 i3 := by kernel_rfl
 t4 := Tryz.underlying4
 a4 := Tryz.isAgg4
 z4 := Tryz.sizeOf4
 v4 := Tryz.zeroValue4
 i4 := by kernel_rfl
 t5 := Tryz.underlying5
 a5 := Tryz.isAgg5
 z5 := Tryz.sizeOf5
 v5 := Tryz.zeroValue5
 i5 := by kernel_rfl
 t9 := Tryz.underlying9
 a9 := Tryz.isAgg9
 z9 := Tryz.sizeOf9
 v9 := Tryz.zeroValue9
 i9 := by kernel_rfl
 t20 := Tryz.underlying20
 a20 := Tryz.isAgg20
 z20 := Tryz.sizeOf20
 v20 := Tryz.zeroValue20
 i20 := by kernel_rfl
 t21 := Tryz.underlying21
 a21 := Tryz.isAgg21
 z21 := Tryz.sizeOf21
 v21 := Tryz.zeroValue21
 i21 := by kernel_rfl
 t22 := Tryz.underlying60
 a22 := Tryz.isAgg60
 z22 := Tryz.sizeOf60
 v22 := Tryz.zeroValue60
 i22 := by kernel_rfl
 t24 := Tryz.underlying177
 a24 := Tryz.isAgg177
 z24 := Tryz.sizeOf177
 v24 := Tryz.zeroValue177
 i24 := by kernel_rfl
 t25 := Tryz.underlying178
 a25 := Tryz.isAgg178
 z25 := Tryz.sizeOf178
 v25 := Tryz.zeroValue178
 i25 := by kernel_rfl
 t34 := Tryz.underlying235
 a34 := Tryz.isAgg235
 z34 := Tryz.sizeOf235
 v34 := Tryz.zeroValue235
 i34 := by kernel_rfl
 c34 := by kernel_rfl
 t36 := Tryz.underlying124
 a36 := Tryz.isAgg124
 z36 := Tryz.sizeOf124
 v36 := Tryz.zeroValue124
 i36 := by kernel_rfl
 t37 := Tryz.underlying172
 a37 := Tryz.isAgg172
 z37 := Tryz.sizeOf172
 v37 := Tryz.zeroValue172
 i37 := by kernel_rfl
 t39 := Tryz.underlying237
 a39 := Tryz.isAgg237
 z39 := Tryz.sizeOf237
 v39 := Tryz.zeroValue237
 i39 := by kernel_rfl
 t44 := Tryz.underlying249
 a44 := Tryz.isAgg249
 z44 := Tryz.sizeOf249
 v44 := Tryz.zeroValue249
 i44 := by kernel_rfl
 t47 := Tryz.underlying225
 a47 := Tryz.isAgg225
 z47 := Tryz.sizeOf225
 v47 := Tryz.zeroValue225
 i47 := by kernel_rfl
 t48 := Tryz.underlying258
 a48 := Tryz.isAgg258
 z48 := Tryz.sizeOf258
 v48 := Tryz.zeroValue258
 i48 := by kernel_rfl
 t50 := Tryz.underlying260
 a50 := Tryz.isAgg260
 z50 := Tryz.sizeOf260
 v50 := Tryz.zeroValue260
 i50 := by kernel_rfl
 t52 := Tryz.underlying251
 a52 := Tryz.isAgg251
 z52 := Tryz.sizeOf251
 v52 := Tryz.zeroValue251
 i52 := by kernel_rfl
 t55 := Tryz.underlying253
 a55 := Tryz.isAgg253
 z55 := Tryz.sizeOf253
 v55 := Tryz.zeroValue253
 i55 := by kernel_rfl
 t59 := Tryz.underlying262
 a59 := Tryz.isAgg262
 z59 := Tryz.sizeOf262
 v59 := Tryz.zeroValue262
 i59 := by kernel_rfl
 t60 := Tryz.underlying170
 a60 := Tryz.isAgg170
 z60 := Tryz.sizeOf170
 v60 := Tryz.zeroValue170
 i60 := by kernel_rfl
 t61 := Tryz.underlying263
 a61 := Tryz.isAgg263
 z61 := Tryz.sizeOf263
 t65 := Tryz.underlying268
 a65 := Tryz.isAgg268
 z65 := Tryz.sizeOf268
 v65 := Tryz.zeroValue268
 i65 := by kernel_rfl
 t66 := Tryz.underlying269
 a66 := Tryz.isAgg269
 z66 := Tryz.sizeOf269
 v66 := Tryz.zeroValue269
 i66 := by kernel_rfl
 t67 := Tryz.underlying100
 a67 := Tryz.isAgg100
 z67 := Tryz.sizeOf100
 v67 := Tryz.zeroValue100
 i67 := by kernel_rfl
 g0 := by kernel_rfl
 m0 := by kernel_rfl
 g1 := by kernel_rfl
 m1 := by kernel_rfl
 g2 := by kernel_rfl
 m2 := by kernel_rfl
 g3 := by kernel_rfl
 m3 := by kernel_rfl
 g4 := by kernel_rfl
 m4 := by kernel_rfl }
end Go.Proofs.YtcjjphioeneiiaaGreatDoor
