/- Several texts in one: SbS, SbT, SrI, SrS. What each proves, and its conditions, stands at its own head. -/
import Derived.Shelf.Strings.BuilderK
import Derived.Shelf.Strings.BuilderX
import Derived.Test.YtcjjphioeneiiaaGreatDoorChecked
import Derived.Shelf.Sort.Plain
import Derived.Shelf.Slices.In.SortNone
/- Of the library's strings.Builder, laid at this seat: (*strings.Builder).String. Conditions: none. -/
namespace Go.Proofs.YtcjjphioeneiiaaGreatDoor
open Go.Shelf

def sbs_ren : Ren := ⟨fun | 169 => 180 | n => n, fun | 0 => 0 | 3 => 3 | 5 => 5 | 9 => 9 | 37 => 172 | 70 => 180 | 72 => 182 | 127 => 225 | n => n, fun n => n⟩
theorem sbs_lays : Lays.n169 Tryz.prog sbs_ren := {
 mixed := by kernel_rfl
 f169 := Tryz.func180.trans (congrArg some (by kernel_rfl))
 t0 := Tryz.underlying0
 a0 := Tryz.isAgg0
 z0 := Tryz.sizeOf0
 v0 := Tryz.zeroValue0
 t3 := Tryz.underlying3
 a3 := Tryz.isAgg3
 z3 := Tryz.sizeOf3
 v3 := Tryz.zeroValue3
 t9 := Tryz.underlying9
 a9 := Tryz.isAgg9
 z9 := Tryz.sizeOf9
 v9 := Tryz.zeroValue9
 t37 := Tryz.underlying172
 a37 := Tryz.isAgg172
 z37 := Tryz.sizeOf172
 v37 := Tryz.zeroValue172
 t70 := Tryz.underlying180
 a70 := Tryz.isAgg180
 z70 := Tryz.sizeOf180
 v70 := Tryz.zeroValue180
 t72 := Tryz.underlying182
 a72 := Tryz.isAgg182
 z72 := Tryz.sizeOf182
 v72 := Tryz.zeroValue182
 t127 := Tryz.underlying225
 a127 := Tryz.isAgg225
 z127 := Tryz.sizeOf225
 v127 := Tryz.zeroValue225 }
theorem sbs_extra : Builder.Extra Tryz.prog sbs_ren := {
 sizeBuilder := by kernel_rfl
 liesBuilder := by kernel_rfl
 t5 := Tryz.underlying5
 a5 := Tryz.isAgg5
 z5 := Tryz.sizeOf5
 v5 := Tryz.zeroValue5
 infoByte := by kernel_rfl
 cellsByte := by kernel_rfl
 sizeByte := by kernel_rfl
 neB5 := by decide }
end Go.Proofs.YtcjjphioeneiiaaGreatDoor

/- Of the library's strings.Builder, laid at this seat: (*strings.Builder).WriteString. Conditions: none. -/
namespace Go.Proofs.YtcjjphioeneiiaaGreatDoor
open Go.Shelf

def sbt_ren : Ren := ⟨fun | 166 => 179 | 240 => 242 | 276 => 266 | n => n, fun | 0 => 0 | 3 => 3 | 4 => 4 | 5 => 5 | 9 => 9 | 20 => 20 | 37 => 172 | 70 => 180 | 72 => 182 | 75 => 177 | 80 => 100 | 164 => 240 | n => n, fun n => n⟩
theorem sbt_lays : Lays.n166 Tryz.prog sbt_ren := {
 mixed := by kernel_rfl
 f166 := Tryz.func179.trans (congrArg some (by kernel_rfl))
 f240 := Tryz.func242.trans (congrArg some (by kernel_rfl))
 f276 := Tryz.func266.trans (congrArg some (by kernel_rfl))
 t0 := Tryz.underlying0
 a0 := Tryz.isAgg0
 z0 := Tryz.sizeOf0
 v0 := Tryz.zeroValue0
 t3 := Tryz.underlying3
 a3 := Tryz.isAgg3
 z3 := Tryz.sizeOf3
 v3 := Tryz.zeroValue3
 t4 := Tryz.underlying4
 a4 := Tryz.isAgg4
 z4 := Tryz.sizeOf4
 v4 := Tryz.zeroValue4
 t9 := Tryz.underlying9
 a9 := Tryz.isAgg9
 z9 := Tryz.sizeOf9
 v9 := Tryz.zeroValue9
 t20 := Tryz.underlying20
 a20 := Tryz.isAgg20
 z20 := Tryz.sizeOf20
 v20 := Tryz.zeroValue20
 t37 := Tryz.underlying172
 a37 := Tryz.isAgg172
 z37 := Tryz.sizeOf172
 v37 := Tryz.zeroValue172
 t70 := Tryz.underlying180
 a70 := Tryz.isAgg180
 z70 := Tryz.sizeOf180
 v70 := Tryz.zeroValue180
 t72 := Tryz.underlying182
 a72 := Tryz.isAgg182
 z72 := Tryz.sizeOf182
 v72 := Tryz.zeroValue182
 t75 := Tryz.underlying177
 a75 := Tryz.isAgg177
 z75 := Tryz.sizeOf177
 v75 := Tryz.zeroValue177
 t164 := Tryz.underlying240
 a164 := Tryz.isAgg240
 z164 := Tryz.sizeOf240
 v164 := Tryz.zeroValue240 }
theorem sbt_extra : Builder.Extra Tryz.prog sbt_ren := {
 sizeBuilder := by kernel_rfl
 liesBuilder := by kernel_rfl
 t5 := Tryz.underlying5
 a5 := Tryz.isAgg5
 z5 := Tryz.sizeOf5
 v5 := Tryz.zeroValue5
 infoByte := by kernel_rfl
 cellsByte := by kernel_rfl
 sizeByte := by kernel_rfl
 neB5 := by decide }
end Go.Proofs.YtcjjphioeneiiaaGreatDoor

/- A function of the library, with all that it calls, laid at this seat: slices.Sort[[]int,int]. Conditions: none. -/
namespace Go.Proofs.YtcjjphioeneiiaaGreatDoor
open Go.Shelf

def srti_ren : Ren := ⟨fun | 125 => 98 | 128 => 170 | 129 => 171 | 189 => 45 | 215 => 159 | 216 => 167 | 257 => 97 | 294 => 161 | 295 => 162 | 296 => 163 | 297 => 164 | 298 => 165 | 299 => 166 | 300 => 168 | 301 => 169 | 328 => 231 | 329 => 232 | 330 => 233 | 331 => 234 | 332 => 235 | 343 => 257 | n => n, fun | 0 => 0 | 3 => 3 | 4 => 4 | 5 => 5 | 9 => 9 | 28 => 41 | 46 => 124 | 51 => 170 | 53 => 60 | 131 => 167 | 182 => 161 | 183 => 162 | 218 => 217 | 222 => 221 | 228 => 232 | 229 => 233 | n => n, fun n => n⟩
theorem srti_lays : Lays.n189 Tryz.prog srti_ren := {
 mixed := by kernel_rfl
 f125 := Tryz.func98.trans (congrArg some (by kernel_rfl))
 f128 := Tryz.func170.trans (congrArg some (by kernel_rfl))
 f129 := Tryz.func171.trans (congrArg some (by kernel_rfl))
 f189 := Tryz.func45.trans (congrArg some (by kernel_rfl))
 f215 := Tryz.func159.trans (congrArg some (by kernel_rfl))
 f216 := Tryz.func167.trans (congrArg some (by kernel_rfl))
 f257 := Tryz.func97.trans (congrArg some (by kernel_rfl))
 f294 := Tryz.func161.trans (congrArg some (by kernel_rfl))
 f295 := Tryz.func162.trans (congrArg some (by kernel_rfl))
 f296 := Tryz.func163.trans (congrArg some (by kernel_rfl))
 f297 := Tryz.func164.trans (congrArg some (by kernel_rfl))
 f298 := Tryz.func165.trans (congrArg some (by kernel_rfl))
 f299 := Tryz.func166.trans (congrArg some (by kernel_rfl))
 f300 := Tryz.func168.trans (congrArg some (by kernel_rfl))
 f301 := Tryz.func169.trans (congrArg some (by kernel_rfl))
 f328 := Tryz.func231.trans (congrArg some (by kernel_rfl))
 f329 := Tryz.func232.trans (congrArg some (by kernel_rfl))
 f330 := Tryz.func233.trans (congrArg some (by kernel_rfl))
 f331 := Tryz.func234.trans (congrArg some (by kernel_rfl))
 f332 := Tryz.func235.trans (congrArg some (by kernel_rfl))
 f343 := Tryz.func257.trans (congrArg some (by kernel_rfl))
 t0 := Tryz.underlying0
 a0 := Tryz.isAgg0
 z0 := Tryz.sizeOf0
 v0 := Tryz.zeroValue0
 t3 := Tryz.underlying3
 a3 := Tryz.isAgg3
 z3 := Tryz.sizeOf3
 v3 := Tryz.zeroValue3
 t4 := Tryz.underlying4
 a4 := Tryz.isAgg4
 z4 := Tryz.sizeOf4
 v4 := Tryz.zeroValue4
 t5 := Tryz.underlying5
 a5 := Tryz.isAgg5
 z5 := Tryz.sizeOf5
 v5 := Tryz.zeroValue5
 t9 := Tryz.underlying9
 a9 := Tryz.isAgg9
 z9 := Tryz.sizeOf9
 v9 := Tryz.zeroValue9
 t28 := Tryz.underlying41
 a28 := Tryz.isAgg41
 z28 := Tryz.sizeOf41
 v28 := Tryz.zeroValue41
 t46 := Tryz.underlying124
 a46 := Tryz.isAgg124
 z46 := Tryz.sizeOf124
 v46 := Tryz.zeroValue124
 t51 := Tryz.underlying170
 a51 := Tryz.isAgg170
 z51 := Tryz.sizeOf170
 v51 := Tryz.zeroValue170
 t53 := Tryz.underlying60
 a53 := Tryz.isAgg60
 z53 := Tryz.sizeOf60
 v53 := Tryz.zeroValue60
 t131 := Tryz.underlying167
 a131 := Tryz.isAgg167
 z131 := Tryz.sizeOf167
 v131 := Tryz.zeroValue167
 t182 := Tryz.underlying161
 a182 := Tryz.isAgg161
 z182 := Tryz.sizeOf161
 v182 := Tryz.zeroValue161
 t183 := Tryz.underlying162
 a183 := Tryz.isAgg162
 z183 := Tryz.sizeOf162
 v183 := Tryz.zeroValue162
 t218 := Tryz.underlying217
 a218 := Tryz.isAgg217
 z218 := Tryz.sizeOf217
 v218 := Tryz.zeroValue217
 t222 := Tryz.underlying221
 a222 := Tryz.isAgg221
 z222 := Tryz.sizeOf221
 v222 := Tryz.zeroValue221
 t228 := Tryz.underlying232
 a228 := Tryz.isAgg232
 z228 := Tryz.sizeOf232
 v228 := Tryz.zeroValue232
 t229 := Tryz.underlying233
 a229 := Tryz.isAgg233
 z229 := Tryz.sizeOf233
 v229 := Tryz.zeroValue233 }
end Go.Proofs.YtcjjphioeneiiaaGreatDoor

/- A function of the library, with all that it calls, laid at this seat: slices.Sort[[]string,string]. Conditions: none. -/
namespace Go.Proofs.YtcjjphioeneiiaaGreatDoor
open Go.Shelf

def srts_ren : Ren := ⟨fun | 125 => 98 | 128 => 170 | 129 => 171 | 190 => 207 | 258 => 249 | 302 => 269 | 303 => 270 | 304 => 271 | 305 => 272 | 306 => 273 | 307 => 274 | 308 => 275 | 309 => 276 | 310 => 277 | 329 => 232 | 330 => 233 | 333 => 292 | 334 => 293 | 335 => 294 | 336 => 156 | 344 => 301 | n => n, fun | 0 => 0 | 3 => 3 | 4 => 4 | 5 => 5 | 9 => 9 | 31 => 78 | 46 => 124 | 51 => 170 | 53 => 60 | 131 => 167 | 182 => 161 | 183 => 162 | 218 => 217 | 222 => 221 | 228 => 232 | 229 => 233 | n => n, fun n => n⟩
theorem srts_lays : Lays.n190 Tryz.prog srts_ren := {
 mixed := by kernel_rfl
 f125 := Tryz.func98.trans (congrArg some (by kernel_rfl))
 f128 := Tryz.func170.trans (congrArg some (by kernel_rfl))
 f129 := Tryz.func171.trans (congrArg some (by kernel_rfl))
 f190 := Tryz.func207.trans (congrArg some (by kernel_rfl))
 f258 := Tryz.func249.trans (congrArg some (by kernel_rfl))
 f302 := Tryz.func269.trans (congrArg some (by kernel_rfl))
 f303 := Tryz.func270.trans (congrArg some (by kernel_rfl))
 f304 := Tryz.func271.trans (congrArg some (by kernel_rfl))
 f305 := Tryz.func272.trans (congrArg some (by kernel_rfl))
 f306 := Tryz.func273.trans (congrArg some (by kernel_rfl))
 f307 := Tryz.func274.trans (congrArg some (by kernel_rfl))
 f308 := Tryz.func275.trans (congrArg some (by kernel_rfl))
 f309 := Tryz.func276.trans (congrArg some (by kernel_rfl))
 f310 := Tryz.func277.trans (congrArg some (by kernel_rfl))
 f329 := Tryz.func232.trans (congrArg some (by kernel_rfl))
 f330 := Tryz.func233.trans (congrArg some (by kernel_rfl))
 f333 := Tryz.func292.trans (congrArg some (by kernel_rfl))
 f334 := Tryz.func293.trans (congrArg some (by kernel_rfl))
 f335 := Tryz.func294.trans (congrArg some (by kernel_rfl))
 f336 := Tryz.func156.trans (congrArg some (by kernel_rfl))
 f344 := Tryz.func301.trans (congrArg some (by kernel_rfl))
 t0 := Tryz.underlying0
 a0 := Tryz.isAgg0
 z0 := Tryz.sizeOf0
 v0 := Tryz.zeroValue0
 t3 := Tryz.underlying3
 a3 := Tryz.isAgg3
 z3 := Tryz.sizeOf3
 v3 := Tryz.zeroValue3
 t4 := Tryz.underlying4
 a4 := Tryz.isAgg4
 z4 := Tryz.sizeOf4
 v4 := Tryz.zeroValue4
 t5 := Tryz.underlying5
 a5 := Tryz.isAgg5
 z5 := Tryz.sizeOf5
 v5 := Tryz.zeroValue5
 t9 := Tryz.underlying9
 a9 := Tryz.isAgg9
 z9 := Tryz.sizeOf9
 v9 := Tryz.zeroValue9
 t31 := Tryz.underlying78
 a31 := Tryz.isAgg78
 z31 := Tryz.sizeOf78
 v31 := Tryz.zeroValue78
 t46 := Tryz.underlying124
 a46 := Tryz.isAgg124
 z46 := Tryz.sizeOf124
 v46 := Tryz.zeroValue124
 t51 := Tryz.underlying170
 a51 := Tryz.isAgg170
 z51 := Tryz.sizeOf170
 v51 := Tryz.zeroValue170
 t53 := Tryz.underlying60
 a53 := Tryz.isAgg60
 z53 := Tryz.sizeOf60
 v53 := Tryz.zeroValue60
 t131 := Tryz.underlying167
 a131 := Tryz.isAgg167
 z131 := Tryz.sizeOf167
 v131 := Tryz.zeroValue167
 t182 := Tryz.underlying161
 a182 := Tryz.isAgg161
 z182 := Tryz.sizeOf161
 v182 := Tryz.zeroValue161
 t183 := Tryz.underlying162
 a183 := Tryz.isAgg162
 z183 := Tryz.sizeOf162
 v183 := Tryz.zeroValue162
 t218 := Tryz.underlying217
 a218 := Tryz.isAgg217
 z218 := Tryz.sizeOf217
 v218 := Tryz.zeroValue217
 t222 := Tryz.underlying221
 a222 := Tryz.isAgg221
 z222 := Tryz.sizeOf221
 v222 := Tryz.zeroValue221
 t228 := Tryz.underlying232
 a228 := Tryz.isAgg232
 z228 := Tryz.sizeOf232
 v228 := Tryz.zeroValue232
 t229 := Tryz.underlying233
 a229 := Tryz.isAgg233
 z229 := Tryz.sizeOf233
 v229 := Tryz.zeroValue233 }
end Go.Proofs.YtcjjphioeneiiaaGreatDoor
