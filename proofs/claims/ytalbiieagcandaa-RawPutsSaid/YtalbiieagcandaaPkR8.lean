/- Several texts in one: EmA. What each proves, and its conditions, stands at its own head. -/
import Derived.Test.YtalbiieagcandaaPkR7
import Derived.WalkKit
import Derived.OwnWalk
import Derived.RowKitTokens
import Derived.Lib.Hide
import Derived.BigQuiet
import Derived.Deep.QuietTactic
import Derived.Lib.Small
import Derived.Lib.Walk
import Derived.IntWalk
/- The calls on a writer that only look: ready, Len, Deep; New; the nil writer. Conditions: those that each theorem names. -/
namespace Go.Proofs.Ytalbiieagcandaa
open Go.RowKit
set_option linter.unusedVariables false
set_option maxRecDepth 100000

section
variable {B p : Nat} {S : Nat → Prop} {made : Bool} {s : Ws} {w : World}
theorem ready_any (h : Wr B w p S made s) : Calls Try.prog 90 #[.pointer (some ⟨p, 0, none⟩)] w fun e w' => e = .returned (.bool made) ∧ w = w' := by
  obtain ⟨vb, vf, vo, ps, h⟩ := h
  have c0 := obj_cell h.obj 0
  clear h
  go_enter Try.func90, Try.ntmps90
  go_wp2
  go_ret
  exact ⟨rfl, rfl⟩
theorem wdeep_any (h : Wr B w p S made s) : Calls Try.prog 42 #[.pointer (some ⟨p, 0, none⟩)] w fun e w' => e = .returned (.int .i64 (s.op.length : Int)) ∧ w = w' := by
  obtain ⟨vb, vf, vo, ps, h⟩ := h
  obtain ⟨A, cap, rfl, h1, h2, _, _⟩ := own_form h.op
  have c3 := obj_cell h.obj 3
  clear h
  obtain ⟨n, hn⟩ : ∃ n, n = s.op.length := ⟨_, rfl⟩
  rw [← hn] at c3 h1 ⊢
  unfold maxLen at h2
  clear hn
  go_enter Try.func42, Try.ntmps42
  go_wp2
  go_ret
  exact ⟨rfl, rfl⟩
end
theorem ready_nil (w : World) : Calls Try.prog 90 #[.pointer none] w fun e w' => e = .returned (.bool false) ∧ w = w' := by
  go_enter Try.func90, Try.ntmps90
  go_wp2
  go_ret
  exact ⟨rfl, rfl⟩
theorem deep_nil (w : World) : Calls Try.prog 42 #[.pointer none] w fun e w' => e = .returned (.int .i64 0) ∧ w = w' := by
  go_enter Try.func42, Try.ntmps42
  go_wp2
  go_ret
  exact ⟨rfl, rfl⟩
/-- A new block that is a writer of nothing. -/
theorem wr_new (w : World) (made : Bool) : Wr w.heap.size (w.alloc (.cells #[.bool made, .slice none 0 0, .slice none 0 0, .slice none 0 0, .int .i64 0] 66)) w.heap.size (fun k => k = w.heap.size) made ⟨[], [], [], 0⟩ :=
  ⟨.slice none 0 0, .slice none 0 0, .slice none 0 0, [], ⟨heap_alloc_new w _, World.ownsRow_nil _ _ _ _, World.ownsRow_nil _ _ _ _, World.ownsRow_nil _ _ _ _, rfl, (fun q hq => by cases hq), rfl, (fun k e => by cases e), (fun k e => by cases e), (fun k e => by cases e), (fun k e => by subst e; simp)⟩⟩
theorem wnew_any (w : World) : Calls Try.prog 23 #[] w fun e w' => e = .returned (.pointer (some ⟨w.heap.size, 0, none⟩)) ∧ w' = w.alloc (.cells #[.bool true, .slice none 0 0, .slice none 0 0, .slice none 0 0, .int .i64 0] 66) := by
  go_enter Try.func23, Try.ntmps23
  go_wp2
  go_ret
  exact ⟨rfl, rfl⟩
end Go.Proofs.Ytalbiieagcandaa
