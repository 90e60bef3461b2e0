/- Several texts in one: FlP. What each proves, and its conditions, stands at its own head. -/
import Derived.Test.YtloheacncefkgaaGreatDoorPkEU20
import Derived.Test.YtloheacncefkgaaGreatDoorPkEU22
import Derived.Laws.RangeAny
import Derived.Lib.OthersKept
import Derived.LoopTactic
import Derived.Test.YtloheacncefkgaaGreatDoorPkEU0
import Derived.WalkKit
import Derived.OwnWalk
import Derived.RowKitTokens
import Derived.Lib.Hide
import Derived.Test.YtloheacncefkgaaGreatDoorPkEU18
import Derived.Shelf.Strconv.Itoa1
import Derived.Test.YtloheacncefkgaaGreatDoorChecked
import Derived.Shelf.Strconv.Itoa2
import Derived.Test.YtloheacncefkgaaGreatDoorPkEU2
import Derived.Lib.ParseIntB
import Derived.Lib.ReplaceLaws
import Derived.Lib.IndexMore
import Derived.Lib.ItoaNum
import Derived.Lib.Strings
import Derived.IntWalk
import Derived.Lib.AppendIntMem
import Derived.Lib.SmallJoins
import Derived.Test.YtloheacncefkgaaGreatDoorPkEU14
import Derived.Deep.RegionHeld3
/- The program's layer 14: Check, and what it calls. Conditions: those that each theorem names. -/
namespace Go.Proofs.YtloheacncefkgaaGreatDoor
open Go.RowKit
set_option linter.unusedVariables false
set_option maxRecDepth 100000

theorem fpmany_any (f : Fd) (w : World) (env : ScEnv w) : Calls Tryz.prog 114 #[fdV f] w fun e w' => e = .returned (.bool (f.rep && numberT f.ty)) ∧ Below w.heap.size w w' := by
 have HM := Lib.hid (fun u hb => pnumber_any f.ty u (env.rides (w' := u) hb))
 have HB : Hid (∀ o, Below w.heap.size w (w.alloc o)) := Lib.hid (fun o => (Below.refl _ w).alloc (Nat.le_refl _) o)
 obtain ⟨name, num, ty, ref, rep, loose, one⟩ := f
 unfold fdV
 dsimp only at HM ⊢
 obtain ⟨nb, hnb⟩ : ∃ nb, nb = numberT ty := ⟨_, rfl⟩
 rw [← hnb] at HM ⊢
 clear hnb env
 cases rep
 ·go_enter Tryz.func114, Tryz.ntmps114
  go_wp2
  go_ret
  exact ⟨rfl, HB.out _⟩
 ·go_enter Tryz.func114, Tryz.ntmps114
  go_wp2_with (go_at_call 38; refine (HM.out _ (HB.out _)).mono ?_; rintro e w2 ⟨rfl, hb⟩; have HB2 := Lib.hid ((HB.out _).trans (hb.mono (HB.out _).size)); clear hb)
  go_ret
  exact ⟨rfl, HB2.out⟩
theorem fppacked_any (f : Fd) (w : World) (env : ScEnv w) : Calls Tryz.prog 71 #[fdV f] w fun e w' => e = .returned (.bool (packedT f)) ∧ Below w.heap.size w w' := by
 have HM := Lib.hid (fun u hb => fpmany_any f u (env.rides (w' := u) hb))
 have HO : Hid (packedT f = (f.rep && numberT f.ty && !f.loose)) := Lib.hid (by unfold packedT; rw [Bool.and_assoc])
 obtain ⟨name, num, ty, ref, rep, loose, one⟩ := f
 unfold fdV at HM ⊢
 dsimp only at HM HO ⊢
 obtain ⟨mb, hmb⟩ : ∃ mb, mb = (rep && numberT ty) := ⟨_, rfl⟩
 obtain ⟨sn, hsn⟩ : ∃ s, s = strOf name := ⟨_, rfl⟩
 obtain ⟨sr, hsr⟩ : ∃ s, s = strOf ref := ⟨_, rfl⟩
 obtain ⟨so, hso⟩ : ∃ s, s = strOf one := ⟨_, rfl⟩
 rw [← hmb] at HM HO
 rw [← hsn, ← hsr, ← hso] at HM ⊢
 have HB : Hid (Below w.heap.size w (w.alloc (.cells #[.string sn, .int .i64 num, .int .i64 ty, .string sr, .bool rep, .bool loose, .string so] 44))) := Lib.hid ((Below.refl _ w).alloc (Nat.le_refl _) _)
 have HX : Hid ((w.alloc (.cells #[.string sn, .int .i64 num, .int .i64 ty, .string sr, .bool rep, .bool loose, .string so] 44)).heap[w.heap.size]? = some (.cells #[.string sn, .int .i64 num, .int .i64 ty, .string sr, .bool rep, .bool loose, .string so] 44 (0, 0))) := Lib.hid (heap_alloc_new w _)
 clear env hmb hsn hsr hso
 cases mb <;> cases loose
 all_goals
  go_enter Tryz.func71, Tryz.ntmps71
  go_wp2_with (go_at_call 114; refine (HM.out _ HB.out).mono ?_; rintro e w1 ⟨rfl, hb⟩; have hx := (hb.block w.heap.size (lt_of_block HX.out)).trans HX.out; have r5 := obj_cell hx 5; replace HB := Lib.hid (HB.out.trans (hb.mono HB.out.size)); clear hb hx)
  go_ret
  exact ⟨by rw [HO.out]; rfl, HB.out⟩
theorem fphidden_any (f : Fd) (w : World) : Calls Tryz.prog 105 #[fdV f] w fun e w' => e = .returned (.bool (hiddenT f)) ∧ Below w.heap.size w w' := by
 have HO : Hid (hiddenT f = (!f.rep && (decide (f.one = []) && decide (f.ty ≠ 15)))) := Lib.hid rfl
 have HB : Hid (∀ o, Below w.heap.size w (w.alloc o)) := Lib.hid (fun o => (Below.refl _ w).alloc (Nat.le_refl _) o)
 have he := empty_facts f.one
 obtain ⟨name, num, ty, ref, rep, loose, one⟩ := f
 unfold fdV
 dsimp only at HO he ⊢
 obtain ⟨oe, hoe⟩ : ∃ oe, oe = decide (one = []) := ⟨_, rfl⟩
 obtain ⟨so, hso⟩ : ∃ so, so = strOf one := ⟨_, rfl⟩
 rw [← hoe] at HO he
 rw [← hso] at he ⊢
 clear hoe hso
 have ho : (oe = true ∧ so.toList = [] ∧ so.toList.isEmpty = true) ∨ (oe = false ∧ ¬ so.toList = [] ∧ so.toList.isEmpty = false) := by
  cases oe with
  | true => exact .inl ⟨rfl, beq_iff_eq.1 he, by rw [beq_iff_eq.1 he]; rfl⟩
  | false => exact .inr ⟨rfl, (fun e => by rw [e] at he; cases he), (by rw [List.isEmpty_eq_false_iff]; intro e; rw [e] at he; cases he)⟩
 by_cases h15 : ty = 15
 ·subst h15
  rcases ho with ⟨rfl, o3, o2⟩ | ⟨rfl, o3, o2⟩ <;> cases rep
  all_goals
   go_enter Tryz.func105, Tryz.ntmps105
   go_wp2
   go_ret
   exact ⟨by rw [HO.out]; rfl, HB.out _⟩
 ·have e15 : (ty == 15) = false := beq_false_of_ne h15
  have e15b : (ty != 15) = true := bne_iff_ne.2 h15
  rw [decide_eq_true h15] at HO
  rcases ho with ⟨rfl, o3, o2⟩ | ⟨rfl, o3, o2⟩ <;> cases rep
  all_goals
   go_enter Tryz.func105, Tryz.ntmps105
   go_wp2
   go_ret
   exact ⟨by rw [HO.out]; rfl, HB.out _⟩
end Go.Proofs.YtloheacncefkgaaGreatDoor

