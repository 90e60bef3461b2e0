/- Several texts in one: FlP. What each proves, and its conditions, stands at its own head. -/
import Derived.Test.YtpfdnggacpehdaaGreatDoorPkDU15
import Derived.Test.YtpfdnggacpehdaaGreatDoorPkDU20
import Derived.Laws.RangeAny
import Derived.Lib.OthersKept
import Derived.LoopTactic
import Derived.Test.YtpfdnggacpehdaaGreatDoorPkDU0
import Derived.WalkKit
import Derived.OwnWalk
import Derived.RowKitTokens
import Derived.Lib.Hide
import Derived.Test.YtpfdnggacpehdaaGreatDoorPkDU13
import Derived.Shelf.Strconv.Itoa1
import Derived.Test.YtpfdnggacpehdaaGreatDoorChecked
import Derived.Shelf.Strconv.Itoa2
import Derived.Test.YtpfdnggacpehdaaGreatDoorPkDU2
import Derived.Lib.ParseIntB
import Derived.Lib.ReplaceLaws
import Derived.Lib.IndexMore
import Derived.Lib.ItoaNum
import Derived.Lib.Strings
import Derived.IntWalk
import Derived.Lib.AppendIntMem
import Derived.Lib.SmallJoins
import Derived.Deep.RegionHeld3
import Derived.Deep.RegionWith
/- The program's layer 14: Check, and what it calls. Conditions: those that each theorem names. -/
namespace Go.Proofs.YtpfdnggacpehdaaGreatDoor
open Go.RowKit
set_option linter.unusedVariables false
set_option maxRecDepth 100000

theorem fphidden_any (f : Fd) (w : World) : Calls Tryz.prog 113 #[fdV f] w fun e w' => e = .returned (.bool (hiddenT f)) ∧ Below w.heap.size w w' := by
  have HO : Hid (hiddenT f = (!f.rep && (decide (f.one = []) && decide (f.ty ≠ 15)))) := Lib.hid rfl
  have HB : Hid (∀ o, Below w.heap.size w (w.alloc o)) := Lib.hid (fun o => (Below.refl _ w).alloc (Nat.le_refl _) o)
  have he := empty_facts f.one
  obtain ⟨name, num, ty, ref, rep, loose, one⟩ := f
  unfold fdV
  dsimp only at HO he ⊢
  obtain ⟨oe, hoe⟩ : ∃ oe, oe = decide (one = []) := ⟨_, rfl⟩
  obtain ⟨so, hso⟩ : ∃ so, so = strOf one := ⟨_, rfl⟩
  rw [← hoe] at HO he
  rw [← hso] at he ⊢
  clear hoe hso
  have ho : (oe = true ∧ so.toList = [] ∧ so.toList.isEmpty = true) ∨ (oe = false ∧ ¬ so.toList = [] ∧ so.toList.isEmpty = false) := by
    cases oe with
    | true => exact .inl ⟨rfl, beq_iff_eq.1 he, by rw [beq_iff_eq.1 he]; rfl⟩
    | false => exact .inr ⟨rfl, (fun e => by rw [e] at he; cases he), (by rw [List.isEmpty_eq_false_iff]; intro e; rw [e] at he; cases he)⟩
  by_cases h15 : ty = 15
  · subst h15
    rcases ho with ⟨rfl, o3, o2⟩ | ⟨rfl, o3, o2⟩ <;> cases rep
    all_goals
      go_enter Tryz.func113, Tryz.ntmps113
      go_wp2
      go_ret
      exact ⟨by rw [HO.out]; rfl, HB.out _⟩
  · have e15 : (ty == 15) = false := beq_false_of_ne h15
    have e15b : (ty != 15) = true := bne_iff_ne.2 h15
    rw [decide_eq_true h15] at HO
    rcases ho with ⟨rfl, o3, o2⟩ | ⟨rfl, o3, o2⟩ <;> cases rep
    all_goals
      go_enter Tryz.func113, Tryz.ntmps113
      go_wp2
      go_ret
      exact ⟨by rw [HO.out]; rfl, HB.out _⟩
end Go.Proofs.YtpfdnggacpehdaaGreatDoor

