/- Several texts in one: CardKit. What each proves, and its conditions, stands at its own head. -/
import Derived.Test.YtcjjphioeneiiaaGreatDoorPkSB20
import Derived.Test.YtcjjphioeneiiaaGreatDoorPkSB21
/- `LexEnv` out of what a row lists. Conditions: those that each theorem names. -/
namespace Go.Proofs.YtcjjphioeneiiaaGreatDoor
open Go.RowKit
set_option linter.unusedVariables false
set_option maxRecDepth 100000

theorem ge_syn : (Tryz.prog.globals[2]?).map (·.type) = some 177 := by kernel_rfl
theorem ge_rng : (Tryz.prog.globals[3]?).map (·.type) = some 177 := by kernel_rfl
theorem ce_es : Tryz.prog.cellsOf 260 = 1 := by kernel_rfl
theorem ce_st : Tryz.prog.cellsOf 9 = 1 := by kernel_rfl
theorem es_star : "*" ++ "errors.errorString" = "*errors.errorString" := by decide
theorem es_row (u : TypeId) (h : Tryz.prog.typeName? 3 u = some "*errors.errorString") : u = 258 :=
 typeName_ptr_named (nm := "errors.errorString") (by rw [es_star]; kernel_rfl) (by kernel_rfl) (by decide) u (by rw [es_star]; exact h)
/-- The environment, from the three listed variables wherever they stand on the list, and the world's shape. -/
theorem env_made {W : World} {r1 r2 r3 : List (String × DataW Unit)} {t1 t2 : List UInt8}
 (h1 : laidMet Tryz.prog (("internal/strconv.uint64pow10", Lib.tabData .u64 Lib.pow10Tab) :: r1) W)
 (h2 : laidMet Tryz.prog (("strconv.ErrSyntax", .iface "*errors.errorString" (.ptr (.agg [.lit (.string t1)]))) :: r2) W)
 (h3 : laidMet Tryz.prog (("strconv.ErrRange", .iface "*errors.errorString" (.ptr (.agg [.lit (.string t2)]))) :: r3) W)
 (hsh : W.ShapedOpen Tryz.prog) : LexEnv W := by
 obtain ⟨a1, _, v1, _, _, _⟩ := laid_sentinel h2 gv_syn ge_syn Tryz.underlying177 es_row Tryz.underlying258 Tryz.underlying260 rfl rfl Tryz.underlying9 ce_es ce_st
 obtain ⟨a2, _, v2, _, _, _⟩ := laid_sentinel h3 gv_rng ge_rng Tryz.underlying177 es_row Tryz.underlying258 Tryz.underlying260 rfl rfl Tryz.underlying9 ce_es ce_st
 exact ⟨dec_made h1, ⟨_, _, v1⟩, ⟨_, _, v2⟩,
  cell_of_shapedOpen_int (P := Tryz.prog) (g := 1) (t := 3) (zero := #[.int .i64 0]) hsh (of_decide_eq_true (by kernel_rfl)) (by kernel_rfl) rfl (by kernel_rfl) (by kernel_rfl) Tryz.underlying3⟩
end Go.Proofs.YtcjjphioeneiiaaGreatDoor
