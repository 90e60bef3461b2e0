/- Several texts in one: RsB, ScP, ScQ, ScR. What each proves, and its conditions, stands at its own head. -/
import Derived.Test.YtcjjphioeneiiaaGreatDoorPkSB11
import Derived.Test.YtcjjphioeneiiaaGreatDoorChecked
import Derived.Lib.BitFns
import Derived.Laws.BitsLemmas
import Derived.Lib.EndianBits
import Derived.RowKit
import Derived.Test.YtcjjphioeneiiaaGreatDoorPkSB0
import Derived.WalkKit
import Derived.RowKitTokens
import Derived.Lib.Hide
import Derived.Test.YtcjjphioeneiiaaGreatDoorPkSB2
import Derived.OwnWalk
import Derived.OpenShut
import Derived.LaidLaws
import Derived.Lib.LaidTab
import Derived.Shelf.Vars
import Derived.Stop.Joined
import Derived.Stop.LaidErr
/- The document's Word, Of, May. Conditions: those that each theorem names. -/
namespace Go.Proofs.YtcjjphioeneiiaaGreatDoor
open Go.RowKit
set_option linter.unusedVariables false
set_option maxRecDepth 100000

def typesRow : Array Value := (txts typesL).toArray
theorem rswords_any (w : World) : Calls Tryz.prog 146 #[] w fun e w' => e = .returned (.slice (some ⟨w.heap.size, 0, none⟩) 14 14) ∧ w'.heap[w.heap.size]? = some (.cells typesRow 9 (0, 0)) ∧ Below w.heap.size w w' := by
 go_enter Tryz.func146, Tryz.ntmps146
 go_wp2
 go_ret
 exact ⟨rfl, heap_alloc_new w _, (Below.refl _ w).alloc (Nat.le_refl _) _⟩
set_option maxHeartbeats 4000000 in
theorem rsword_any (ty : Int) (w : World) : Calls Tryz.prog 100 #[.int .i64 ty] w fun e w' => e = .returned (.string (strOf (wordT ty))) ∧ Below w.heap.size w w' := by
 rcases ty_cases ty with rfl | rfl | rfl | rfl | rfl | rfl | rfl | rfl | rfl | rfl | rfl | rfl | rfl | rfl | rfl | h | h
 ·go_enter Tryz.func100, Tryz.ntmps100
  go_wp2_with (go_at_call 146; refine (rswords_any _).mono ?_; rintro e w' ⟨rfl, hw, hb⟩; have c : w'.cell? ⟨w.heap.size, 1, none⟩ = some (.string (strOf (wordT 1))) := (obj_cell hw 1).trans rfl; clear hw)
  go_ret
  exact ⟨rfl, hb⟩
 ·go_enter Tryz.func100, Tryz.ntmps100
  go_wp2_with (go_at_call 146; refine (rswords_any _).mono ?_; rintro e w' ⟨rfl, hw, hb⟩; have c : w'.cell? ⟨w.heap.size, 2, none⟩ = some (.string (strOf (wordT 2))) := (obj_cell hw 2).trans rfl; clear hw)
  go_ret
  exact ⟨rfl, hb⟩
 ·go_enter Tryz.func100, Tryz.ntmps100
  go_wp2_with (go_at_call 146; refine (rswords_any _).mono ?_; rintro e w' ⟨rfl, hw, hb⟩; have c : w'.cell? ⟨w.heap.size, 3, none⟩ = some (.string (strOf (wordT 3))) := (obj_cell hw 3).trans rfl; clear hw)
  go_ret
  exact ⟨rfl, hb⟩
 ·go_enter Tryz.func100, Tryz.ntmps100
  go_wp2_with (go_at_call 146; refine (rswords_any _).mono ?_; rintro e w' ⟨rfl, hw, hb⟩; have c : w'.cell? ⟨w.heap.size, 4, none⟩ = some (.string (strOf (wordT 4))) := (obj_cell hw 4).trans rfl; clear hw)
  go_ret
  exact ⟨rfl, hb⟩
 ·go_enter Tryz.func100, Tryz.ntmps100
  go_wp2_with (go_at_call 146; refine (rswords_any _).mono ?_; rintro e w' ⟨rfl, hw, hb⟩; have c : w'.cell? ⟨w.heap.size, 5, none⟩ = some (.string (strOf (wordT 5))) := (obj_cell hw 5).trans rfl; clear hw)
  go_ret
  exact ⟨rfl, hb⟩
 ·go_enter Tryz.func100, Tryz.ntmps100
  go_wp2_with (go_at_call 146; refine (rswords_any _).mono ?_; rintro e w' ⟨rfl, hw, hb⟩; have c : w'.cell? ⟨w.heap.size, 6, none⟩ = some (.string (strOf (wordT 6))) := (obj_cell hw 6).trans rfl; clear hw)
  go_ret
  exact ⟨rfl, hb⟩
 ·go_enter Tryz.func100, Tryz.ntmps100
  go_wp2_with (go_at_call 146; refine (rswords_any _).mono ?_; rintro e w' ⟨rfl, hw, hb⟩; have c : w'.cell? ⟨w.heap.size, 7, none⟩ = some (.string (strOf (wordT 7))) := (obj_cell hw 7).trans rfl; clear hw)
  go_ret
  exact ⟨rfl, hb⟩
 ·go_enter Tryz.func100, Tryz.ntmps100
  go_wp2_with (go_at_call 146; refine (rswords_any _).mono ?_; rintro e w' ⟨rfl, hw, hb⟩; have c : w'.cell? ⟨w.heap.size, 8, none⟩ = some (.string (strOf (wordT 8))) := (obj_cell hw 8).trans rfl; clear hw)
  go_ret
  exact ⟨rfl, hb⟩
 ·go_enter Tryz.func100, Tryz.ntmps100
  go_wp2_with (go_at_call 146; refine (rswords_any _).mono ?_; rintro e w' ⟨rfl, hw, hb⟩; have c : w'.cell? ⟨w.heap.size, 9, none⟩ = some (.string (strOf (wordT 9))) := (obj_cell hw 9).trans rfl; clear hw)
  go_ret
  exact ⟨rfl, hb⟩
 ·go_enter Tryz.func100, Tryz.ntmps100
  go_wp2_with (go_at_call 146; refine (rswords_any _).mono ?_; rintro e w' ⟨rfl, hw, hb⟩; have c : w'.cell? ⟨w.heap.size, 10, none⟩ = some (.string (strOf (wordT 10))) := (obj_cell hw 10).trans rfl; clear hw)
  go_ret
  exact ⟨rfl, hb⟩
 ·go_enter Tryz.func100, Tryz.ntmps100
  go_wp2_with (go_at_call 146; refine (rswords_any _).mono ?_; rintro e w' ⟨rfl, hw, hb⟩; have c : w'.cell? ⟨w.heap.size, 11, none⟩ = some (.string (strOf (wordT 11))) := (obj_cell hw 11).trans rfl; clear hw)
  go_ret
  exact ⟨rfl, hb⟩
 ·go_enter Tryz.func100, Tryz.ntmps100
  go_wp2_with (go_at_call 146; refine (rswords_any _).mono ?_; rintro e w' ⟨rfl, hw, hb⟩; have c : w'.cell? ⟨w.heap.size, 12, none⟩ = some (.string (strOf (wordT 12))) := (obj_cell hw 12).trans rfl; clear hw)
  go_ret
  exact ⟨rfl, hb⟩
 ·go_enter Tryz.func100, Tryz.ntmps100
  go_wp2_with (go_at_call 146; refine (rswords_any _).mono ?_; rintro e w' ⟨rfl, hw, hb⟩; have c : w'.cell? ⟨w.heap.size, 13, none⟩ = some (.string (strOf (wordT 13))) := (obj_cell hw 13).trans rfl; clear hw)
  go_ret
  exact ⟨rfl, hb⟩
 ·go_enter Tryz.func100, Tryz.ntmps100
  go_wp2
  go_ret
  exact ⟨rfl, Below.refl _ _⟩
 ·go_enter Tryz.func100, Tryz.ntmps100
  go_wp2
  go_ret
  exact ⟨rfl, Below.refl _ _⟩
 ·rw [out_word (by omega)]
  have n1 : ¬ ty = 1 := by omega
  have e1 : (ty == 1) = false := beq_false_of_ne n1
  have n2 : ¬ ty = 2 := by omega
  have e2 : (ty == 2) = false := beq_false_of_ne n2
  have n3 : ¬ ty = 3 := by omega
  have e3 : (ty == 3) = false := beq_false_of_ne n3
  have n4 : ¬ ty = 4 := by omega
  have e4 : (ty == 4) = false := beq_false_of_ne n4
  have n5 : ¬ ty = 5 := by omega
  have e5 : (ty == 5) = false := beq_false_of_ne n5
  have n6 : ¬ ty = 6 := by omega
  have e6 : (ty == 6) = false := beq_false_of_ne n6
  have n7 : ¬ ty = 7 := by omega
  have e7 : (ty == 7) = false := beq_false_of_ne n7
  have n8 : ¬ ty = 8 := by omega
  have e8 : (ty == 8) = false := beq_false_of_ne n8
  have n9 : ¬ ty = 9 := by omega
  have e9 : (ty == 9) = false := beq_false_of_ne n9
  have n10 : ¬ ty = 10 := by omega
  have e10 : (ty == 10) = false := beq_false_of_ne n10
  have n11 : ¬ ty = 11 := by omega
  have e11 : (ty == 11) = false := beq_false_of_ne n11
  have n12 : ¬ ty = 12 := by omega
  have e12 : (ty == 12) = false := beq_false_of_ne n12
  have n13 : ¬ ty = 13 := by omega
  have e13 : (ty == 13) = false := beq_false_of_ne n13
  have n14 : ¬ ty = 14 := by omega
  have e14 : (ty == 14) = false := beq_false_of_ne n14
  have n15 : ¬ ty = 15 := by omega
  have e15 : (ty == 15) = false := beq_false_of_ne n15
  have a1 : decide (1 ≤ ty) = false := decide_eq_false (by omega)
  have b1 : decide (ty ≤ 1) = true := decide_eq_true (by omega)
  have c1 : decide (ty < 1) = true := decide_eq_true (by omega)
  have d1 : decide (1 < ty) = false := decide_eq_false (by omega)
  have a6 : decide (6 ≤ ty) = false := decide_eq_false (by omega)
  have b6 : decide (ty ≤ 6) = true := decide_eq_true (by omega)
  have c6 : decide (ty < 6) = true := decide_eq_true (by omega)
  have d6 : decide (6 < ty) = false := decide_eq_false (by omega)
  have a7 : decide (7 ≤ ty) = false := decide_eq_false (by omega)
  have b7 : decide (ty ≤ 7) = true := decide_eq_true (by omega)
  have c7 : decide (ty < 7) = true := decide_eq_true (by omega)
  have d7 : decide (7 < ty) = false := decide_eq_false (by omega)
  have a8 : decide (8 ≤ ty) = false := decide_eq_false (by omega)
  have b8 : decide (ty ≤ 8) = true := decide_eq_true (by omega)
  have c8 : decide (ty < 8) = true := decide_eq_true (by omega)
  have d8 : decide (8 < ty) = false := decide_eq_false (by omega)
  have a11 : decide (11 ≤ ty) = false := decide_eq_false (by omega)
  have b11 : decide (ty ≤ 11) = true := decide_eq_true (by omega)
  have c11 : decide (ty < 11) = true := decide_eq_true (by omega)
  have d11 : decide (11 < ty) = false := decide_eq_false (by omega)
  have a13 : decide (13 ≤ ty) = false := decide_eq_false (by omega)
  have b13 : decide (ty ≤ 13) = true := decide_eq_true (by omega)
  have c13 : decide (ty < 13) = true := decide_eq_true (by omega)
  have d13 : decide (13 < ty) = false := decide_eq_false (by omega)
  have a15 : decide (15 ≤ ty) = false := decide_eq_false (by omega)
  have b15 : decide (ty ≤ 15) = true := decide_eq_true (by omega)
  have c15 : decide (ty < 15) = true := decide_eq_true (by omega)
  have d15 : decide (15 < ty) = false := decide_eq_false (by omega)
  go_enter Tryz.func100, Tryz.ntmps100
  go_wp2
  go_ret
  exact ⟨rfl, Below.refl _ _⟩
 ·rw [out_word (by omega)]
  have n1 : ¬ ty = 1 := by omega
  have e1 : (ty == 1) = false := beq_false_of_ne n1
  have n2 : ¬ ty = 2 := by omega
  have e2 : (ty == 2) = false := beq_false_of_ne n2
  have n3 : ¬ ty = 3 := by omega
  have e3 : (ty == 3) = false := beq_false_of_ne n3
  have n4 : ¬ ty = 4 := by omega
  have e4 : (ty == 4) = false := beq_false_of_ne n4
  have n5 : ¬ ty = 5 := by omega
  have e5 : (ty == 5) = false := beq_false_of_ne n5
  have n6 : ¬ ty = 6 := by omega
  have e6 : (ty == 6) = false := beq_false_of_ne n6
  have n7 : ¬ ty = 7 := by omega
  have e7 : (ty == 7) = false := beq_false_of_ne n7
  have n8 : ¬ ty = 8 := by omega
  have e8 : (ty == 8) = false := beq_false_of_ne n8
  have n9 : ¬ ty = 9 := by omega
  have e9 : (ty == 9) = false := beq_false_of_ne n9
  have n10 : ¬ ty = 10 := by omega
  have e10 : (ty == 10) = false := beq_false_of_ne n10
  have n11 : ¬ ty = 11 := by omega
  have e11 : (ty == 11) = false := beq_false_of_ne n11
  have n12 : ¬ ty = 12 := by omega
  have e12 : (ty == 12) = false := beq_false_of_ne n12
  have n13 : ¬ ty = 13 := by omega
  have e13 : (ty == 13) = false := beq_false_of_ne n13
  have n14 : ¬ ty = 14 := by omega
  have e14 : (ty == 14) = false := beq_false_of_ne n14
  have n15 : ¬ ty = 15 := by omega
  have e15 : (ty == 15) = false := beq_false_of_ne n15
  have a1 : decide (1 ≤ ty) = true := decide_eq_true (by omega)
  have b1 : decide (ty ≤ 1) = false := decide_eq_false (by omega)
  have c1 : decide (ty < 1) = false := decide_eq_false (by omega)
  have d1 : decide (1 < ty) = true := decide_eq_true (by omega)
  have a6 : decide (6 ≤ ty) = true := decide_eq_true (by omega)
  have b6 : decide (ty ≤ 6) = false := decide_eq_false (by omega)
  have c6 : decide (ty < 6) = false := decide_eq_false (by omega)
  have d6 : decide (6 < ty) = true := decide_eq_true (by omega)
  have a7 : decide (7 ≤ ty) = true := decide_eq_true (by omega)
  have b7 : decide (ty ≤ 7) = false := decide_eq_false (by omega)
  have c7 : decide (ty < 7) = false := decide_eq_false (by omega)
  have d7 : decide (7 < ty) = true := decide_eq_true (by omega)
  have a8 : decide (8 ≤ ty) = true := decide_eq_true (by omega)
  have b8 : decide (ty ≤ 8) = false := decide_eq_false (by omega)
  have c8 : decide (ty < 8) = false := decide_eq_false (by omega)
  have d8 : decide (8 < ty) = true := decide_eq_true (by omega)
  have a11 : decide (11 ≤ ty) = true := decide_eq_true (by omega)
  have b11 : decide (ty ≤ 11) = false := decide_eq_false (by omega)
  have c11 : decide (ty < 11) = false := decide_eq_false (by omega)
  have d11 : decide (11 < ty) = true := decide_eq_true (by omega)
  have a13 : decide (13 ≤ ty) = true := decide_eq_true (by omega)
  have b13 : decide (ty ≤ 13) = false := decide_eq_false (by omega)
  have c13 : decide (ty < 13) = false := decide_eq_false (by omega)
  have d13 : decide (13 < ty) = true := decide_eq_true (by omega)
  have a15 : decide (15 ≤ ty) = true := decide_eq_true (by omega)
  have b15 : decide (ty ≤ 15) = false := decide_eq_false (by omega)
  have c15 : decide (ty < 15) = false := decide_eq_false (by omega)
  have d15 : decide (15 < ty) = true := decide_eq_true (by omega)
  go_enter Tryz.func100, Tryz.ntmps100
  go_wp2
  go_ret
  exact ⟨rfl, Below.refl _ _⟩

end Go.Proofs.YtcjjphioeneiiaaGreatDoor

/- The program's table of types as a law's row lays it (`ScEnv`), and its rows in plain words. Conditions: those that each theorem names. -/
namespace Go.Proofs.YtcjjphioeneiiaaGreatDoor
open Go.RowKit
set_option linter.unusedVariables false
set_option maxRecDepth 100000

def rowW (i : Nat) : List UInt8 := (typesL[i]?).getD []
def rowI (i : Nat) : Int := (([0, 0, 0, 0, 0, 0, 0, 0, 5, 1, 5, 1, 2, 2, 0, 2] : List Int)[i]?).getD 0
def rowM (i : Nat) : Int := (([0, 7, 15, 3, 11, 7, 15, 1, 3, 11, 7, 15, 0, 0, 5, 0] : List Int)[i]?).getD 0
def rowX (i : Nat) : Int := (([0, 0, 0, 4294967295, 0, 0, 0, 1, 4294967295, 0, 0, 0, 0, 0, 0, 0] : List Int)[i]?).getD 0
def rowC (i : Nat) : List Value := [.string (strOf (rowW i)), .int .i64 (rowI i), .int .i64 (rowM i), .int .u64 (rowX i)]
/-- The table, row for row. -/
structure ScEnv (w : World) : Prop where
 c0 : ∀ i : Nat, i < 16 → w.cell? ⟨0, i * 4, none⟩ = some (.string (strOf (rowW i)))
 c1 : ∀ i : Nat, i < 16 → w.cell? ⟨0, i * 4 + 1, none⟩ = some (.int .i64 (rowI i))
 c2 : ∀ i : Nat, i < 16 → w.cell? ⟨0, i * 4 + 2, none⟩ = some (.int .i64 (rowM i))
 c3 : ∀ i : Nat, i < 16 → w.cell? ⟨0, i * 4 + 3, none⟩ = some (.int .u64 (rowX i))
theorem cell_goes {w w' : World} {p : Addr} {v : Value} (h : w.cell? p = some v) (hb : Below w.heap.size w w') : w'.cell? p = some v := (hb.cell (World.block_lt_of_cell? w _ h)).trans h
theorem ScEnv.rides {w w' : World} (h : ScEnv w) (hb : Below w.heap.size w w') : ScEnv w' :=
 ⟨fun i hi => cell_goes (h.c0 i hi) hb, fun i hi => cell_goes (h.c1 i hi) hb, fun i hi => cell_goes (h.c2 i hi) hb, fun i hi => cell_goes (h.c3 i hi) hb⟩

theorem gv_sc : Tryz.prog.globalNamed "ecdysis/scalar.rows" = some 0 := by kernel_rfl
theorem ge_sc : (Tryz.prog.globals[0]?).map (·.type) = some 228 := by kernel_rfl
theorem ce_row : Tryz.prog.cellsOf 227 = 4 := by kernel_rfl
theorem ce_rows : Tryz.prog.cellsOf 228 = 64 := by kernel_rfl
theorem ce_str1 : Tryz.prog.cellsOf 9 = 1 := by kernel_rfl
theorem ce_int1 : Tryz.prog.cellsOf 3 = 1 := by kernel_rfl
theorem ce_u641 : Tryz.prog.cellsOf 60 = 1 := by kernel_rfl
def rowD {H : Type} (i : Nat) : DataW H := .agg [.lit (.string (rowW i)), .lit (.int .i64 (rowI i)), .lit (.int .i64 (rowM i)), .lit (.int .u64 (rowX i))]
def rowsD {H : Type} : DataW H := .agg ((List.range 16).map rowD)

theorem row_of {H : Type} {enc : TypeId × Value → H} {w : World} {base : Nat} {sp : Nat → Bool} {held : Bool} {m : Nat} {cs : List Value} {y : DataW H × List MemPlace} (i : Nat)
 (hf : DataW.trod enc Tryz.prog w base sp held m 227 cs = some y) (hy : y.1 = rowD i) : cs = rowC i := by
 obtain ⟨ys, m, rfl, ex, hl, hn, he⟩ := DataW.trod_struct Tryz.underlying227 hf
 rw [ce_row] at hl
 match cs, hl, ys, hn with
 | [v0, v1, v2, v3], _, [y0, y1, y2, y3], _ =>
   have g0 : DataW.trod enc Tryz.prog w base sp held m 9 (([v0, v1, v2, v3].drop 0).take (Tryz.prog.cellsOf 9)) = some y0 := he 0 _ rfl
   have g1 : DataW.trod enc Tryz.prog w base sp held m 3 (([v0, v1, v2, v3].drop 1).take (Tryz.prog.cellsOf 3)) = some y1 := he 1 _ rfl
   have g2 : DataW.trod enc Tryz.prog w base sp held m 3 (([v0, v1, v2, v3].drop 2).take (Tryz.prog.cellsOf 3)) = some y2 := he 2 _ rfl
   have g3 : DataW.trod enc Tryz.prog w base sp held m 60 (([v0, v1, v2, v3].drop 3).take (Tryz.prog.cellsOf 60)) = some y3 := he 3 _ rfl
   rw [ce_str1] at g0
   rw [ce_int1] at g1 g2
   rw [ce_u641] at g3
   simp only [List.drop_zero, List.drop_succ_cons, List.take_succ_cons, List.take_zero] at g0 g1 g2 g3
   obtain ⟨s0, q0, z0, _⟩ := DataW.trod_string Tryz.underlying9 g0
   obtain ⟨n1, q1, z1, w1⟩ := DataW.trod_int Tryz.underlying3 g1
   obtain ⟨n2, q2, z2, w2⟩ := DataW.trod_int Tryz.underlying3 g2
   obtain ⟨n3, q3, z3, w3⟩ := DataW.trod_int Tryz.underlying60 g3
   simp at q0 q1 q2 q3
   subst q0 q1 q2 q3
   have e := (congrArg Prod.fst ex).symm.trans hy
   simp only [List.map_cons, List.map_nil, z0, z1, z2, z3, rowD] at e
   simp only [DataW.agg.injEq, List.cons.injEq, DataW.lit.injEq, Lit.string.injEq, Lit.int.injEq, true_and, and_true] at e
   obtain ⟨e0, e1, e2, e3⟩ := e
   unfold rowC
   rw [← e0, e1, e2, e3]
   have : s0 = strOf s0.data.toList := by cases s0; simp [strOf]
   rw [← this]
theorem sc_made {W : World} {r1 : List (String × DataW Unit)} (h : laidMet Tryz.prog (("ecdysis/scalar.rows", rowsD) :: r1) W) : ScEnv W := by
 obtain ⟨ps, ⟨g', t', cs, fuel, p, q, hg', ht', hvar, hd, _, _⟩, _⟩ := h
 obtain rfl := Option.some.inj (gv_sc.symm.trans hg')
 obtain rfl := Option.some.inj (ge_sc.symm.trans ht')
 obtain ⟨ys, m, rfl, ex, hl, hn, he⟩ := DataW.trod_array Tryz.underlying228 hd
 rw [ce_rows] at hl
 rw [ce_row] at he
 have e2 : (ys.map Prod.fst) = (List.range 16).map rowD := by
  have e := congrArg Prod.fst ex
  simp only [rowsD, DataW.agg.injEq] at e
  exact e.symm
 have hrow : ∀ i, i < 16 → (cs.toList.drop (i * 4)).take 4 = rowC i := by
  intro i hi
  have h1 := he i hi
  have h2 := congrArg (·[i]?) e2
  have hy : ∃ y, ys[i]? = some y := ⟨_, List.getElem?_eq_getElem (by omega)⟩
  obtain ⟨y, hy⟩ := hy
  rw [hy] at h1
  refine row_of i h1 ?_
  simp only [List.getElem?_map, hy, Option.map_some] at h2
  rw [List.getElem?_range hi] at h2
  exact Option.some.inj h2
 have hcell : ∀ i j, i < 16 → j < 4 → W.cell? ⟨0, i * 4 + j, none⟩ = (rowC i)[j]? := by
  intro i j hi hj
  rw [World.var?_cell gv_sc hvar (i * 4 + j), ← hrow i hi, List.getElem?_take, if_pos hj, List.getElem?_drop]
  simp
 exact ⟨fun i hi => hcell i 0 hi (by omega), fun i hi => hcell i 1 hi (by omega), fun i hi => hcell i 2 hi (by omega), fun i hi => hcell i 3 hi (by omega)⟩
end Go.Proofs.YtcjjphioeneiiaaGreatDoor

/- The program's answers on types, over its table. Conditions: ScEnv; those that each theorem names. -/
namespace Go.Proofs.YtcjjphioeneiiaaGreatDoor
open Go.RowKit
set_option linter.unusedVariables false
set_option maxRecDepth 100000

def tyI (ty : Int) : Nat := if 0 < ty ∧ ty < 16 then ty.toNat else 0
def knownB (ty : Int) : Bool := decide (0 < ty) && decide (ty < 16)
def rowV (i : Nat) : Value := .agg #[.string (strOf (rowW i)), .int .i64 (rowI i), .int .i64 (rowM i), .int .u64 (rowX i)]

theorem pknown_any (ty : Int) (w : World) : Calls Tryz.prog 291 #[.int .i64 ty] w fun e w' => e = .returned (.bool (knownB ty)) ∧ w' = w := by
 by_cases h1 : 0 < ty
 ·by_cases h2 : ty < 16
  ·have a1 : decide (0 < ty) = true := decide_eq_true h1
   have a2 : decide (ty < 16) = true := decide_eq_true h2
   go_enter Tryz.func291, Tryz.ntmps291
   go_wp2
   go_ret
   exact ⟨by unfold knownB; rw [a1, a2]; rfl, rfl⟩
  ·have a1 : decide (0 < ty) = true := decide_eq_true h1
   have a2 : decide (ty < 16) = false := decide_eq_false h2
   go_enter Tryz.func291, Tryz.ntmps291
   go_wp2
   go_ret
   exact ⟨by unfold knownB; rw [a1, a2]; rfl, rfl⟩
 ·have a1 : decide (0 < ty) = false := decide_eq_false h1
  go_enter Tryz.func291, Tryz.ntmps291
  go_wp2
  go_ret
  exact ⟨by unfold knownB; rw [a1]; rfl, rfl⟩

theorem pof_any (ty : Int) (w : World) (env : ScEnv w) : Calls Tryz.prog 267 #[.int .i64 ty] w fun e w' => e = .returned (rowV (tyI ty)) ∧ Below w.heap.size w w' := by
 by_cases h : knownB ty = true
 ·have HK := Lib.hid (fun w => pknown_any ty w)
  rw [h] at HK
  have h2 : 0 < ty ∧ ty < 16 := by unfold knownB at h; simpa using h
  have hi : tyI ty = ty.toNat := by unfold tyI; rw [if_pos h2]
  rw [hi]
  obtain ⟨k, hk⟩ : ∃ k, k = ty.toNat := ⟨_, rfl⟩
  obtain rfl : ty = (k : Int) := by omega
  have hk16 : k < 16 := by omega
  rw [← hk]
  have c0 := fun o => cell?_alloc_old o (env.c0 k hk16)
  have c1 := fun o => cell?_alloc_old o (env.c1 k hk16)
  have c2 := fun o => cell?_alloc_old o (env.c2 k hk16)
  have c3 := fun o => cell?_alloc_old o (env.c3 k hk16)
  clear hk hi h env
  go_enter Tryz.func267, Tryz.ntmps267
  go_wp2_with (go_at_call 291; refine (HK.out _).mono ?_; rintro e w' ⟨rfl, rfl⟩)
  refine bodyPost_ret (v := rowV k) ?_ rfl ⟨rfl, (Below.refl _ _).alloc (Nat.le_refl _) _⟩
  have hres : Tryz.f267.results = #[.cell 2 227] := by kernel_rfl
  simp only [results, hres, rowV]
  go_simp
 ·have HK := Lib.hid (fun w => pknown_any ty w)
  have h := eq_false_of_ne_true h
  rw [h] at HK
  have hi : tyI ty = 0 := by unfold tyI; rw [if_neg (fun h2 => by unfold knownB at h; simp [h2.1, h2.2] at h)]
  rw [hi]
  have c0 := fun o => cell?_alloc_old o (env.c0 0 (by omega))
  have c1 := fun o => cell?_alloc_old o (env.c1 0 (by omega))
  have c2 := fun o => cell?_alloc_old o (env.c2 0 (by omega))
  have c3 := fun o => cell?_alloc_old o (env.c3 0 (by omega))
  simp only [Nat.zero_mul, Nat.zero_add] at c0 c1 c2 c3
  clear hi h env
  go_enter Tryz.func267, Tryz.ntmps267
  go_wp2_with (go_at_call 291; refine (HK.out _).mono ?_; rintro e w' ⟨rfl, rfl⟩)
  refine bodyPost_ret (v := rowV 0) ?_ rfl ⟨rfl, (Below.refl _ _).alloc (Nat.le_refl _) _⟩
  have hres : Tryz.f267.results = #[.cell 2 227] := by kernel_rfl
  simp only [results, hres, rowV]
  go_simp

def hasB (m k : Int) : Bool := bits BinOp.and IntKind.i64 m k != 0
theorem phas_any (i : Nat) (k : Int) (w : World) : Calls Tryz.prog 268 #[rowV i, .int .i64 k] w fun e w' => e = .returned (.bool (hasB (rowM i) k)) ∧ Below w.heap.size w w' := by
 unfold rowV hasB
 obtain ⟨m, hm⟩ : ∃ m, m = rowM i := ⟨_, rfl⟩
 obtain ⟨x, hx⟩ : ∃ x, x = rowX i := ⟨_, rfl⟩
 obtain ⟨a, ha⟩ : ∃ a, a = rowI i := ⟨_, rfl⟩
 obtain ⟨s, hs⟩ : ∃ s, s = strOf (rowW i) := ⟨_, rfl⟩
 rw [← hm, ← hx, ← ha, ← hs]
 clear hm hx ha hs
 obtain ⟨b, hb⟩ : ∃ b, b = bits BinOp.and IntKind.i64 m k := ⟨_, rfl⟩
 rw [← hb]
 by_cases h0 : b = 0
 ·rw [h0] at hb ⊢
  have hb' := hb.symm
  clear hb
  go_enter Tryz.func268, Tryz.ntmps268
  go_wp2
  go_ret
  exact ⟨rfl, (Below.refl _ _).alloc (Nat.le_refl _) _⟩
 ·have h1 : (b != 0) = true := by simpa using h0
  have h2 : (b == 0) = false := beq_false_of_ne h0
  have hb' := hb.symm
  clear hb
  go_enter Tryz.func268, Tryz.ntmps268
  go_wp2
  go_ret
  exact ⟨by rw [h1]; rfl, (Below.refl _ _).alloc (Nat.le_refl _) _⟩

theorem has_Number (ty : Int) : hasB (rowM (tyI ty)) 1 = numberT ty := by
 rcases ty_cases ty with rfl | rfl | rfl | rfl | rfl | rfl | rfl | rfl | rfl | rfl | rfl | rfl | rfl | rfl | rfl | h | h
 all_goals first | (decide +kernel) | (rw [out_number (by omega), show tyI ty = 0 by unfold tyI; rw [if_neg (by omega)]]; decide +kernel)
theorem pnumber_any (ty : Int) (w : World) (env : ScEnv w) : Calls Tryz.prog 248 #[.int .i64 ty] w fun e w' => e = .returned (.bool (numberT ty)) ∧ Below w.heap.size w w' := by
 have H1 := Lib.hid (pof_any ty w env)
 have H2 := Lib.hid (fun w => phas_any (tyI ty) 1 w)
 rw [has_Number] at H2
 clear env
 go_enter Tryz.func248, Tryz.ntmps248
 go_wp2_with (first
  | (go_at_call 267; refine H1.out.mono ?_; rintro e w1 ⟨rfl, hb1⟩)
  | (go_at_call 268; refine (H2.out _).mono ?_; rintro e w2 ⟨rfl, hb2⟩))
 go_ret
 exact ⟨rfl, hb1.trans (hb2.mono hb1.size)⟩

end Go.Proofs.YtcjjphioeneiiaaGreatDoor

/- The program's Of, over its table; what is asked of the layer holds (`scalar_ok`). Conditions: ScEnv; those that each theorem names. -/
namespace Go.Proofs.YtcjjphioeneiiaaGreatDoor
open Go.RowKit
set_option linter.unusedVariables false
set_option maxRecDepth 100000

theorem ofFrom_none (s : List UInt8) : ∀ (l : List (List UInt8)) (k : Nat), (∀ t ∈ l, t ≠ s) → ofFrom l k s = 0
 | [], k, _ => rfl
 | t :: r, k, h => by
   unfold ofFrom
   rw [if_neg (h t (by simp))]
   exact ofFrom_none s r (k + 1) (fun t ht => h t (by simp [ht]))
theorem ofFrom_first (s : List UInt8) : ∀ (l : List (List UInt8)) (k j : Nat), (∀ i, i < j → l[i]? ≠ some s) → l[j]? = some s → ofFrom l k s = k + j
 | [], k, j, _, h => by simp at h
 | t :: r, k, 0, _, h => by
   simp at h
   unfold ofFrom
   rw [if_pos h]; omega
 | t :: r, k, j + 1, hn, h => by
   have h0 := hn 0 (by omega)
   simp at h0
   unfold ofFrom
   rw [if_neg h0, ofFrom_first s r (k + 1) j (fun i hi => by have := hn (i + 1) (by omega); simpa using this) (by simpa using h)]
   omega
theorem rowW_word {k : Nat} (h0 : 0 < k) (h : k < 14) : (typesL.drop 1)[k - 1]? = some (rowW k) := by
 rw [List.getElem?_drop, show 1 + (k - 1) = k by omega]
 unfold rowW
 rw [List.getElem?_eq_getElem (show k < typesL.length by simpa [typesL] using h)]
 rfl
theorem of_first (s : List UInt8) (k : Nat) (hk : k < 16) (hn : ∀ j, j < k → rowW j ≠ s) (h : rowW k = s) : ofT s = k := by
 by_cases h0 : k = 0
 ·subst h0
  have hs : s = [] := h.symm
  subst hs
  decide
 ·by_cases h14 : k < 14
  ·unfold ofT
   rw [ofFrom_first s _ 1 (k - 1) (fun i hi => by
    have := rowW_word (k := i + 1) (by omega) (by omega)
    rw [show i + 1 - 1 = i by omega] at this
    rw [this]
    exact fun e => hn (i + 1) (by omega) (Option.some.inj e)) (by rw [rowW_word (by omega) h14, h])]
   omega
  ·exfalso
   have hs : s = [] := by
    rw [← h]
    unfold rowW
    rw [List.getElem?_eq_none (show typesL.length ≤ k by simpa [typesL] using h14)]
    rfl
   exact hn 0 (by omega) (by rw [hs]; rfl)
theorem of_none (s : List UInt8) (hn : ∀ j, j < 16 → rowW j ≠ s) : ofT s = 0 := by
 unfold ofT
 refine ofFrom_none s _ 1 (fun t ht => ?_)
 obtain ⟨i, hi⟩ := List.mem_iff_getElem?.1 ht
 have hlt := (List.getElem?_eq_some_iff.1 hi).1
 have h13 : i < 13 := by simpa [typesL] using hlt
 have := rowW_word (k := i + 1) (by omega) (by omega)
 rw [show i + 1 - 1 = i by omega, hi] at this
 rw [Option.some.inj this]
 exact hn (i + 1) (by omega)

theorem pof_word (s : List UInt8) (w : World) (env : ScEnv w) : Calls Tryz.prog 188 #[.string (strOf s)] w fun e w' => e = .returned (.int .i64 (ofT s : Int)) ∧ Below w.heap.size w w' := by
 have ENV := Lib.hid env
 have HNONE := Lib.hid (of_none s)
 have HFIRST := Lib.hid (of_first s)
 obtain ⟨str, hstr⟩ : ∃ str, str = strOf s := ⟨_, rfl⟩
 have HS := Lib.hid hstr
 rw [← hstr]
 clear env hstr
 go_enter Tryz.func188, Tryz.ntmps188
 go_wp2
 go_loopw [4] (fun x wr => ∃ k : Nat, x = .int .i64 (k : Int) ∧ k ≤ 16 ∧ wr = w ∧ ∀ j, j < k → rowW j ≠ s) (fun x _ => 17 - (intOf x).toNat)
 case atStart => exact ⟨0, rfl, by omega, rfl, fun j hj => absurd hj (Nat.not_lt_zero _)⟩
 case round =>
  obtain ⟨k, rfl, hk, rfl, hall⟩ := hrel
  have HALL := Lib.hid hall
  clear hall
  by_cases h16 : k < 16
  ·have g1 : decide ((k : Int) < 16) = true := decide_eq_true (by omega)
   have c0 := ENV.out.c0 k h16
   by_cases he : rowW k = s
   ·have hc : ((strOf (rowW k)).toList == str.toList) = true := by rw [HS.out, str_list, str_list]; simpa using he
    have HE := Lib.hid (HFIRST.out k h16 HALL.out he)
    clear he hk
    obtain ⟨t, ht⟩ : ∃ t, t = strOf (rowW k) := ⟨_, rfl⟩
    rw [← ht] at c0 hc
    clear ht
    go_wp2
    go_ret
    exact ⟨by rw [HE.out]; rfl, Below.refl _ _⟩
   ·have hc : ((strOf (rowW k)).toList == str.toList) = false := by rw [HS.out, str_list, str_list]; simpa using he
    have HE := Lib.hid he
    clear he
    obtain ⟨t, ht⟩ : ∃ t, t = strOf (rowW k) := ⟨_, rfl⟩
    rw [← ht] at c0 hc
    clear ht
    go_wp2
    go_roundw
    case rel =>
     refine ⟨k + 1, by go_num, by omega, trivial, fun j hj => ?_⟩
     by_cases hjk : j < k
     ·exact HALL.out j hjk
     ·obtain rfl : j = k := by omega
      exact HE.out
    case measure => simp [intOf]; omega
  ·have g1 : decide ((k : Int) < 16) = false := decide_eq_false (by omega)
   obtain rfl : k = 16 := by omega
   go_wp2
   go_ret
   exact ⟨by rw [HNONE.out HALL.out]; rfl, Below.refl _ _⟩
end Go.Proofs.YtcjjphioeneiiaaGreatDoor
