/- Several texts in one: ScP. What each proves, and its conditions, stands at its own head. -/
import Derived.Test.YtmdekdmcnnbofaaDoorChecked
import Derived.Test.YtmdekdmcnnbofaaDoorPkVD11
import Derived.Test.YtmdekdmcnnbofaaDoorPkVD0
import Derived.WalkKit
import Derived.RowKitTokens
import Derived.OwnWalk
import Derived.OpenShut
import Derived.LaidLaws
import Derived.Lib.LaidTab
import Derived.Shelf.Vars
import Derived.Stop.Joined
import Derived.Lib.Hide
/- The program's table of types as a law's row lays it (`ScEnv`), and its rows in plain words. Conditions: those that each theorem names. -/
namespace Go.Proofs.YtmdekdmcnnbofaaDoor
open Go.RowKit
set_option linter.unusedVariables false
set_option maxRecDepth 100000

def rowW (i : Nat) : List UInt8 := (typesL[i]?).getD []
def rowI (i : Nat) : Int := (([0, 0, 0, 0, 0, 0, 0, 0, 5, 1, 5, 1, 2, 2, 0, 2] : List Int)[i]?).getD 0
def rowM (i : Nat) : Int := (([0, 7, 15, 3, 11, 7, 15, 1, 3, 11, 7, 15, 0, 0, 5, 0] : List Int)[i]?).getD 0
def rowX (i : Nat) : Int := (([0, 0, 0, 4294967295, 0, 0, 0, 1, 4294967295, 0, 0, 0, 0, 0, 0, 0] : List Int)[i]?).getD 0
def rowC (i : Nat) : List Value := [.string (strOf (rowW i)), .int .i64 (rowI i), .int .i64 (rowM i), .int .u64 (rowX i)]
/-- The table, row for row. -/
structure ScEnv (w : World) : Prop where
  c0 : ∀ i : Nat, i < 16 → w.cell? ⟨2, i * 4, none⟩ = some (.string (strOf (rowW i)))
  c1 : ∀ i : Nat, i < 16 → w.cell? ⟨2, i * 4 + 1, none⟩ = some (.int .i64 (rowI i))
  c2 : ∀ i : Nat, i < 16 → w.cell? ⟨2, i * 4 + 2, none⟩ = some (.int .i64 (rowM i))
  c3 : ∀ i : Nat, i < 16 → w.cell? ⟨2, i * 4 + 3, none⟩ = some (.int .u64 (rowX i))
theorem cell_goes {w w' : World} {p : Addr} {v : Value} (h : w.cell? p = some v) (hb : Below w.heap.size w w') : w'.cell? p = some v := (hb.cell (World.block_lt_of_cell? w _ h)).trans h
theorem ScEnv.rides {w w' : World} (h : ScEnv w) (hb : Below w.heap.size w w') : ScEnv w' :=
  ⟨fun i hi => cell_goes (h.c0 i hi) hb, fun i hi => cell_goes (h.c1 i hi) hb, fun i hi => cell_goes (h.c2 i hi) hb, fun i hi => cell_goes (h.c3 i hi) hb⟩

theorem gv_sc : Tryd.prog.globalNamed "ecdysis/scalar.rows" = some 2 := by kernel_rfl
theorem ge_sc : (Tryd.prog.globals[2]?).map (·.type) = some 94 := by kernel_rfl
theorem ce_row : Tryd.prog.cellsOf 81 = 4 := by kernel_rfl
theorem ce_rows : Tryd.prog.cellsOf 94 = 64 := by kernel_rfl
theorem ce_str1 : Tryd.prog.cellsOf 9 = 1 := by kernel_rfl
theorem ce_int1 : Tryd.prog.cellsOf 3 = 1 := by kernel_rfl
theorem ce_u641 : Tryd.prog.cellsOf 36 = 1 := by kernel_rfl
def rowD {H : Type} (i : Nat) : DataW H := .agg [.lit (.string (rowW i)), .lit (.int .i64 (rowI i)), .lit (.int .i64 (rowM i)), .lit (.int .u64 (rowX i))]
def rowsD {H : Type} : DataW H := .agg ((List.range 16).map rowD)

theorem row_of {H : Type} {enc : TypeId × Value → H} {w : World} {base : Nat} {sp : Nat → Bool} {held : Bool} {m : Nat} {cs : List Value} {y : DataW H × List MemPlace} (i : Nat)
    (hf : DataW.trod enc Tryd.prog w base sp held m 81 cs = some y) (hy : y.1 = rowD i) : cs = rowC i := by
  obtain ⟨ys, m, rfl, ex, hl, hn, he⟩ := DataW.trod_struct Tryd.underlying81 hf
  rw [ce_row] at hl
  match cs, hl, ys, hn with
  | [v0, v1, v2, v3], _, [y0, y1, y2, y3], _ =>
    have g0 : DataW.trod enc Tryd.prog w base sp held m 9 (([v0, v1, v2, v3].drop 0).take (Tryd.prog.cellsOf 9)) = some y0 := he 0 _ rfl
    have g1 : DataW.trod enc Tryd.prog w base sp held m 3 (([v0, v1, v2, v3].drop 1).take (Tryd.prog.cellsOf 3)) = some y1 := he 1 _ rfl
    have g2 : DataW.trod enc Tryd.prog w base sp held m 3 (([v0, v1, v2, v3].drop 2).take (Tryd.prog.cellsOf 3)) = some y2 := he 2 _ rfl
    have g3 : DataW.trod enc Tryd.prog w base sp held m 36 (([v0, v1, v2, v3].drop 3).take (Tryd.prog.cellsOf 36)) = some y3 := he 3 _ rfl
    rw [ce_str1] at g0
    rw [ce_int1] at g1 g2
    rw [ce_u641] at g3
    simp only [List.drop_zero, List.drop_succ_cons, List.take_succ_cons, List.take_zero] at g0 g1 g2 g3
    obtain ⟨s0, q0, z0, _⟩ := DataW.trod_string Tryd.underlying9 g0
    obtain ⟨n1, q1, z1, w1⟩ := DataW.trod_int Tryd.underlying3 g1
    obtain ⟨n2, q2, z2, w2⟩ := DataW.trod_int Tryd.underlying3 g2
    obtain ⟨n3, q3, z3, w3⟩ := DataW.trod_int Tryd.underlying36 g3
    simp at q0 q1 q2 q3
    subst q0 q1 q2 q3
    have e := (congrArg Prod.fst ex).symm.trans hy
    simp only [List.map_cons, List.map_nil, z0, z1, z2, z3, rowD] at e
    simp only [DataW.agg.injEq, List.cons.injEq, DataW.lit.injEq, Lit.string.injEq, Lit.int.injEq, true_and, and_true] at e
    obtain ⟨e0, e1, e2, e3⟩ := e
    unfold rowC
    rw [← e0, e1, e2, e3]
    have : s0 = strOf s0.data.toList := by cases s0; simp [strOf]
    rw [← this]
theorem sc_made {W : World} {r1 : List (String × DataW Unit)} (h : laidMet Tryd.prog (("ecdysis/scalar.rows", rowsD) :: r1) W) : ScEnv W := by
  obtain ⟨ps, ⟨g', t', cs, fuel, p, q, hg', ht', hvar, hd, _, _⟩, _⟩ := h
  obtain rfl := Option.some.inj (gv_sc.symm.trans hg')
  obtain rfl := Option.some.inj (ge_sc.symm.trans ht')
  obtain ⟨ys, m, rfl, ex, hl, hn, he⟩ := DataW.trod_array Tryd.underlying94 hd
  rw [ce_rows] at hl
  rw [ce_row] at he
  have e2 : (ys.map Prod.fst) = (List.range 16).map rowD := by
    have e := congrArg Prod.fst ex
    simp only [rowsD, DataW.agg.injEq] at e
    exact e.symm
  have hrow : ∀ i, i < 16 → (cs.toList.drop (i * 4)).take 4 = rowC i := by
    intro i hi
    have h1 := he i hi
    have h2 := congrArg (·[i]?) e2
    have hy : ∃ y, ys[i]? = some y := ⟨_, List.getElem?_eq_getElem (by omega)⟩
    obtain ⟨y, hy⟩ := hy
    rw [hy] at h1
    refine row_of i h1 ?_
    simp only [List.getElem?_map, hy, Option.map_some] at h2
    rw [List.getElem?_range hi] at h2
    exact Option.some.inj h2
  have hcell : ∀ i j, i < 16 → j < 4 → W.cell? ⟨2, i * 4 + j, none⟩ = (rowC i)[j]? := by
    intro i j hi hj
    rw [World.var?_cell gv_sc hvar (i * 4 + j), ← hrow i hi, List.getElem?_take, if_pos hj, List.getElem?_drop]
    simp
  exact ⟨fun i hi => hcell i 0 hi (by omega), fun i hi => hcell i 1 hi (by omega), fun i hi => hcell i 2 hi (by omega), fun i hi => hcell i 3 hi (by omega)⟩
end Go.Proofs.YtmdekdmcnnbofaaDoor
