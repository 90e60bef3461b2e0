/- Several texts in one: RsB. What each proves, and its conditions, stands at its own head. -/
import Derived.Test.YtjogamffdbedkaaGreatDoorPkA14
import Derived.Test.YtjogamffdbedkaaGreatDoorChecked
import Derived.Lib.BitFns
import Derived.Laws.BitsLemmas
import Derived.Lib.EndianBits
import Derived.RowKit
import Derived.Test.YtjogamffdbedkaaGreatDoorPkA0
import Derived.WalkKit
import Derived.RowKitTokens
import Derived.Lib.Hide
import Derived.Test.YtjogamffdbedkaaGreatDoorPkA4
import Derived.Test.YtjogamffdbedkaaGreatDoorPkA2
/- The document's Word, Of, May. Conditions: those that each theorem names. -/
namespace Go.Proofs.YtjogamffdbedkaaGreatDoor
open Go.RowKit
set_option linter.unusedVariables false
set_option maxRecDepth 100000

def typesRow : Array Value := (txts typesL).toArray
theorem rswords_any (w : World) : Calls Tryz.prog 65 #[] w fun e w' => e = .returned (.slice (some ⟨w.heap.size, 0, none⟩) 14 14) ∧ w'.heap[w.heap.size]? = some (.cells typesRow 9 (0, 0)) ∧ Below w.heap.size w w' := by
  go_enter Tryz.func65, Tryz.ntmps65
  go_wp2
  go_ret
  exact ⟨rfl, heap_alloc_new w _, (Below.refl _ w).alloc (Nat.le_refl _) _⟩
set_option maxHeartbeats 4000000 in
theorem rsword_any (ty : Int) (w : World) : Calls Tryz.prog 37 #[.int .i64 ty] w fun e w' => e = .returned (.string (strOf (wordT ty))) ∧ Below w.heap.size w w' := by
  rcases ty_cases ty with rfl | rfl | rfl | rfl | rfl | rfl | rfl | rfl | rfl | rfl | rfl | rfl | rfl | rfl | rfl | h | h
  · go_enter Tryz.func37, Tryz.ntmps37
    go_wp2_with (go_at_call 65; refine (rswords_any _).mono ?_; rintro e w' ⟨rfl, hw, hb⟩; have c : w'.cell? ⟨w.heap.size, 1, none⟩ = some (.string (strOf (wordT 1))) := (obj_cell hw 1).trans rfl; clear hw)
    go_ret
    exact ⟨rfl, hb⟩
  · go_enter Tryz.func37, Tryz.ntmps37
    go_wp2_with (go_at_call 65; refine (rswords_any _).mono ?_; rintro e w' ⟨rfl, hw, hb⟩; have c : w'.cell? ⟨w.heap.size, 2, none⟩ = some (.string (strOf (wordT 2))) := (obj_cell hw 2).trans rfl; clear hw)
    go_ret
    exact ⟨rfl, hb⟩
  · go_enter Tryz.func37, Tryz.ntmps37
    go_wp2_with (go_at_call 65; refine (rswords_any _).mono ?_; rintro e w' ⟨rfl, hw, hb⟩; have c : w'.cell? ⟨w.heap.size, 3, none⟩ = some (.string (strOf (wordT 3))) := (obj_cell hw 3).trans rfl; clear hw)
    go_ret
    exact ⟨rfl, hb⟩
  · go_enter Tryz.func37, Tryz.ntmps37
    go_wp2_with (go_at_call 65; refine (rswords_any _).mono ?_; rintro e w' ⟨rfl, hw, hb⟩; have c : w'.cell? ⟨w.heap.size, 4, none⟩ = some (.string (strOf (wordT 4))) := (obj_cell hw 4).trans rfl; clear hw)
    go_ret
    exact ⟨rfl, hb⟩
  · go_enter Tryz.func37, Tryz.ntmps37
    go_wp2_with (go_at_call 65; refine (rswords_any _).mono ?_; rintro e w' ⟨rfl, hw, hb⟩; have c : w'.cell? ⟨w.heap.size, 5, none⟩ = some (.string (strOf (wordT 5))) := (obj_cell hw 5).trans rfl; clear hw)
    go_ret
    exact ⟨rfl, hb⟩
  · go_enter Tryz.func37, Tryz.ntmps37
    go_wp2_with (go_at_call 65; refine (rswords_any _).mono ?_; rintro e w' ⟨rfl, hw, hb⟩; have c : w'.cell? ⟨w.heap.size, 6, none⟩ = some (.string (strOf (wordT 6))) := (obj_cell hw 6).trans rfl; clear hw)
    go_ret
    exact ⟨rfl, hb⟩
  · go_enter Tryz.func37, Tryz.ntmps37
    go_wp2_with (go_at_call 65; refine (rswords_any _).mono ?_; rintro e w' ⟨rfl, hw, hb⟩; have c : w'.cell? ⟨w.heap.size, 7, none⟩ = some (.string (strOf (wordT 7))) := (obj_cell hw 7).trans rfl; clear hw)
    go_ret
    exact ⟨rfl, hb⟩
  · go_enter Tryz.func37, Tryz.ntmps37
    go_wp2_with (go_at_call 65; refine (rswords_any _).mono ?_; rintro e w' ⟨rfl, hw, hb⟩; have c : w'.cell? ⟨w.heap.size, 8, none⟩ = some (.string (strOf (wordT 8))) := (obj_cell hw 8).trans rfl; clear hw)
    go_ret
    exact ⟨rfl, hb⟩
  · go_enter Tryz.func37, Tryz.ntmps37
    go_wp2_with (go_at_call 65; refine (rswords_any _).mono ?_; rintro e w' ⟨rfl, hw, hb⟩; have c : w'.cell? ⟨w.heap.size, 9, none⟩ = some (.string (strOf (wordT 9))) := (obj_cell hw 9).trans rfl; clear hw)
    go_ret
    exact ⟨rfl, hb⟩
  · go_enter Tryz.func37, Tryz.ntmps37
    go_wp2_with (go_at_call 65; refine (rswords_any _).mono ?_; rintro e w' ⟨rfl, hw, hb⟩; have c : w'.cell? ⟨w.heap.size, 10, none⟩ = some (.string (strOf (wordT 10))) := (obj_cell hw 10).trans rfl; clear hw)
    go_ret
    exact ⟨rfl, hb⟩
  · go_enter Tryz.func37, Tryz.ntmps37
    go_wp2_with (go_at_call 65; refine (rswords_any _).mono ?_; rintro e w' ⟨rfl, hw, hb⟩; have c : w'.cell? ⟨w.heap.size, 11, none⟩ = some (.string (strOf (wordT 11))) := (obj_cell hw 11).trans rfl; clear hw)
    go_ret
    exact ⟨rfl, hb⟩
  · go_enter Tryz.func37, Tryz.ntmps37
    go_wp2_with (go_at_call 65; refine (rswords_any _).mono ?_; rintro e w' ⟨rfl, hw, hb⟩; have c : w'.cell? ⟨w.heap.size, 12, none⟩ = some (.string (strOf (wordT 12))) := (obj_cell hw 12).trans rfl; clear hw)
    go_ret
    exact ⟨rfl, hb⟩
  · go_enter Tryz.func37, Tryz.ntmps37
    go_wp2_with (go_at_call 65; refine (rswords_any _).mono ?_; rintro e w' ⟨rfl, hw, hb⟩; have c : w'.cell? ⟨w.heap.size, 13, none⟩ = some (.string (strOf (wordT 13))) := (obj_cell hw 13).trans rfl; clear hw)
    go_ret
    exact ⟨rfl, hb⟩
  · go_enter Tryz.func37, Tryz.ntmps37
    go_wp2
    go_ret
    exact ⟨rfl, Below.refl _ _⟩
  · go_enter Tryz.func37, Tryz.ntmps37
    go_wp2
    go_ret
    exact ⟨rfl, Below.refl _ _⟩
  · rw [out_word (by omega)]
    have n1 : ¬ ty = 1 := by omega
    have e1 : (ty == 1) = false := beq_false_of_ne n1
    have n2 : ¬ ty = 2 := by omega
    have e2 : (ty == 2) = false := beq_false_of_ne n2
    have n3 : ¬ ty = 3 := by omega
    have e3 : (ty == 3) = false := beq_false_of_ne n3
    have n4 : ¬ ty = 4 := by omega
    have e4 : (ty == 4) = false := beq_false_of_ne n4
    have n5 : ¬ ty = 5 := by omega
    have e5 : (ty == 5) = false := beq_false_of_ne n5
    have n6 : ¬ ty = 6 := by omega
    have e6 : (ty == 6) = false := beq_false_of_ne n6
    have n7 : ¬ ty = 7 := by omega
    have e7 : (ty == 7) = false := beq_false_of_ne n7
    have n8 : ¬ ty = 8 := by omega
    have e8 : (ty == 8) = false := beq_false_of_ne n8
    have n9 : ¬ ty = 9 := by omega
    have e9 : (ty == 9) = false := beq_false_of_ne n9
    have n10 : ¬ ty = 10 := by omega
    have e10 : (ty == 10) = false := beq_false_of_ne n10
    have n11 : ¬ ty = 11 := by omega
    have e11 : (ty == 11) = false := beq_false_of_ne n11
    have n12 : ¬ ty = 12 := by omega
    have e12 : (ty == 12) = false := beq_false_of_ne n12
    have n13 : ¬ ty = 13 := by omega
    have e13 : (ty == 13) = false := beq_false_of_ne n13
    have n14 : ¬ ty = 14 := by omega
    have e14 : (ty == 14) = false := beq_false_of_ne n14
    have n15 : ¬ ty = 15 := by omega
    have e15 : (ty == 15) = false := beq_false_of_ne n15
    have a1 : decide (1 ≤ ty) = false := decide_eq_false (by omega)
    have b1 : decide (ty ≤ 1) = true := decide_eq_true (by omega)
    have c1 : decide (ty < 1) = true := decide_eq_true (by omega)
    have d1 : decide (1 < ty) = false := decide_eq_false (by omega)
    have a6 : decide (6 ≤ ty) = false := decide_eq_false (by omega)
    have b6 : decide (ty ≤ 6) = true := decide_eq_true (by omega)
    have c6 : decide (ty < 6) = true := decide_eq_true (by omega)
    have d6 : decide (6 < ty) = false := decide_eq_false (by omega)
    have a7 : decide (7 ≤ ty) = false := decide_eq_false (by omega)
    have b7 : decide (ty ≤ 7) = true := decide_eq_true (by omega)
    have c7 : decide (ty < 7) = true := decide_eq_true (by omega)
    have d7 : decide (7 < ty) = false := decide_eq_false (by omega)
    have a8 : decide (8 ≤ ty) = false := decide_eq_false (by omega)
    have b8 : decide (ty ≤ 8) = true := decide_eq_true (by omega)
    have c8 : decide (ty < 8) = true := decide_eq_true (by omega)
    have d8 : decide (8 < ty) = false := decide_eq_false (by omega)
    have a11 : decide (11 ≤ ty) = false := decide_eq_false (by omega)
    have b11 : decide (ty ≤ 11) = true := decide_eq_true (by omega)
    have c11 : decide (ty < 11) = true := decide_eq_true (by omega)
    have d11 : decide (11 < ty) = false := decide_eq_false (by omega)
    have a13 : decide (13 ≤ ty) = false := decide_eq_false (by omega)
    have b13 : decide (ty ≤ 13) = true := decide_eq_true (by omega)
    have c13 : decide (ty < 13) = true := decide_eq_true (by omega)
    have d13 : decide (13 < ty) = false := decide_eq_false (by omega)
    have a15 : decide (15 ≤ ty) = false := decide_eq_false (by omega)
    have b15 : decide (ty ≤ 15) = true := decide_eq_true (by omega)
    have c15 : decide (ty < 15) = true := decide_eq_true (by omega)
    have d15 : decide (15 < ty) = false := decide_eq_false (by omega)
    go_enter Tryz.func37, Tryz.ntmps37
    go_wp2
    go_ret
    exact ⟨rfl, Below.refl _ _⟩
  · rw [out_word (by omega)]
    have n1 : ¬ ty = 1 := by omega
    have e1 : (ty == 1) = false := beq_false_of_ne n1
    have n2 : ¬ ty = 2 := by omega
    have e2 : (ty == 2) = false := beq_false_of_ne n2
    have n3 : ¬ ty = 3 := by omega
    have e3 : (ty == 3) = false := beq_false_of_ne n3
    have n4 : ¬ ty = 4 := by omega
    have e4 : (ty == 4) = false := beq_false_of_ne n4
    have n5 : ¬ ty = 5 := by omega
    have e5 : (ty == 5) = false := beq_false_of_ne n5
    have n6 : ¬ ty = 6 := by omega
    have e6 : (ty == 6) = false := beq_false_of_ne n6
    have n7 : ¬ ty = 7 := by omega
    have e7 : (ty == 7) = false := beq_false_of_ne n7
    have n8 : ¬ ty = 8 := by omega
    have e8 : (ty == 8) = false := beq_false_of_ne n8
    have n9 : ¬ ty = 9 := by omega
    have e9 : (ty == 9) = false := beq_false_of_ne n9
    have n10 : ¬ ty = 10 := by omega
    have e10 : (ty == 10) = false := beq_false_of_ne n10
    have n11 : ¬ ty = 11 := by omega
    have e11 : (ty == 11) = false := beq_false_of_ne n11
    have n12 : ¬ ty = 12 := by omega
    have e12 : (ty == 12) = false := beq_false_of_ne n12
    have n13 : ¬ ty = 13 := by omega
    have e13 : (ty == 13) = false := beq_false_of_ne n13
    have n14 : ¬ ty = 14 := by omega
    have e14 : (ty == 14) = false := beq_false_of_ne n14
    have n15 : ¬ ty = 15 := by omega
    have e15 : (ty == 15) = false := beq_false_of_ne n15
    have a1 : decide (1 ≤ ty) = true := decide_eq_true (by omega)
    have b1 : decide (ty ≤ 1) = false := decide_eq_false (by omega)
    have c1 : decide (ty < 1) = false := decide_eq_false (by omega)
    have d1 : decide (1 < ty) = true := decide_eq_true (by omega)
    have a6 : decide (6 ≤ ty) = true := decide_eq_true (by omega)
    have b6 : decide (ty ≤ 6) = false := decide_eq_false (by omega)
    have c6 : decide (ty < 6) = false := decide_eq_false (by omega)
    have d6 : decide (6 < ty) = true := decide_eq_true (by omega)
    have a7 : decide (7 ≤ ty) = true := decide_eq_true (by omega)
    have b7 : decide (ty ≤ 7) = false := decide_eq_false (by omega)
    have c7 : decide (ty < 7) = false := decide_eq_false (by omega)
    have d7 : decide (7 < ty) = true := decide_eq_true (by omega)
    have a8 : decide (8 ≤ ty) = true := decide_eq_true (by omega)
    have b8 : decide (ty ≤ 8) = false := decide_eq_false (by omega)
    have c8 : decide (ty < 8) = false := decide_eq_false (by omega)
    have d8 : decide (8 < ty) = true := decide_eq_true (by omega)
    have a11 : decide (11 ≤ ty) = true := decide_eq_true (by omega)
    have b11 : decide (ty ≤ 11) = false := decide_eq_false (by omega)
    have c11 : decide (ty < 11) = false := decide_eq_false (by omega)
    have d11 : decide (11 < ty) = true := decide_eq_true (by omega)
    have a13 : decide (13 ≤ ty) = true := decide_eq_true (by omega)
    have b13 : decide (ty ≤ 13) = false := decide_eq_false (by omega)
    have c13 : decide (ty < 13) = false := decide_eq_false (by omega)
    have d13 : decide (13 < ty) = true := decide_eq_true (by omega)
    have a15 : decide (15 ≤ ty) = true := decide_eq_true (by omega)
    have b15 : decide (ty ≤ 15) = false := decide_eq_false (by omega)
    have c15 : decide (ty < 15) = false := decide_eq_false (by omega)
    have d15 : decide (15 < ty) = true := decide_eq_true (by omega)
    go_enter Tryz.func37, Tryz.ntmps37
    go_wp2
    go_ret
    exact ⟨rfl, Below.refl _ _⟩

end Go.Proofs.YtjogamffdbedkaaGreatDoor
