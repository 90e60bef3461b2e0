/- Several texts in one: EmA. What each proves, and its conditions, stands at its own head. -/
import Derived.Test.YtnhaeapkncnimaaPkR7
import Derived.WalkKit
import Derived.OwnWalk
import Derived.RowKitTokens
import Derived.Lib.Hide
import Derived.BigQuiet
import Derived.Deep.QuietTactic
import Derived.Lib.Small
import Derived.Lib.Walk
import Derived.IntWalk
/- The calls on a writer that only look: ready, Len, Deep; New; the nil writer. Conditions: those that each theorem names. -/
namespace Go.Proofs.Ytnhaeapkncnimaa
open Go.RowKit
set_option linter.unusedVariables false
set_option maxRecDepth 100000

section
variable {B p : Nat} {S : Nat → Prop} {made : Bool} {s : Ws} {w : World}
theorem ready_any (h : Wr B w p S made s) : Calls Try.prog 34 #[.pointer (some ⟨p, 0, none⟩)] w fun e w' => e = .returned (.bool made) ∧ w = w' := by
  obtain ⟨vb, vf, vo, ps, h⟩ := h
  have c0 := obj_cell h.obj 0
  clear h
  go_enter Try.func34, Try.ntmps34
  go_wp2
  go_ret
  exact ⟨rfl, rfl⟩
theorem wdeep_any (h : Wr B w p S made s) : Calls Try.prog 13 #[.pointer (some ⟨p, 0, none⟩)] w fun e w' => e = .returned (.int .i64 (s.op.length : Int)) ∧ w = w' := by
  obtain ⟨vb, vf, vo, ps, h⟩ := h
  obtain ⟨A, cap, rfl, h1, h2, _, _⟩ := own_form h.op
  have c3 := obj_cell h.obj 3
  clear h
  obtain ⟨n, hn⟩ : ∃ n, n = s.op.length := ⟨_, rfl⟩
  rw [← hn] at c3 h1 ⊢
  unfold maxLen at h2
  clear hn
  go_enter Try.func13, Try.ntmps13
  go_wp2
  go_ret
  exact ⟨rfl, rfl⟩
theorem wlen_any (h : Wr B w p S made s) (hb : s.raw.length + s.room ≤ 70368744177664) : Calls Try.prog 11 #[.pointer (some ⟨p, 0, none⟩)] w fun e w' => e = .returned (.int .i64 ((s.raw.length + s.room : Nat) : Int)) ∧ ∃ n, w' = w.drewN n := by
  obtain ⟨vb, vf, vo, ps, h⟩ := h
  obtain ⟨A, cap, rfl, h1, h2, _, _⟩ := own_form h.raw
  have c1 := obj_cell h.obj 1
  have c4 := obj_cell h.obj 4
  clear h
  obtain ⟨n, hn⟩ : ∃ n, n = s.raw.length := ⟨_, rfl⟩
  obtain ⟨r, hr⟩ : ∃ r, r = s.room := ⟨_, rfl⟩
  rw [← hn] at c1 h1 hb ⊢
  rw [← hr] at c1 c4 hb ⊢
  unfold maxLen at h2
  clear hn hr
  have e : ((n + r : Nat) : Int) = (n : Int) + (r : Int) := Int.natCast_add n r
  rw [e]
  clear e
  have hwr : IntKind.i64.wrap ((n : Int) + (r : Int)) = (n : Int) + (r : Int) := IntWalk.i64_in _ (by omega)
  go_enter Try.func11, Try.ntmps11
  go_wp2
  go_quiet (fail)
  go_wp2
  go_ret
  exact ⟨rfl, _, rfl⟩
end
theorem ready_nil (w : World) : Calls Try.prog 34 #[.pointer none] w fun e w' => e = .returned (.bool false) ∧ w = w' := by
  go_enter Try.func34, Try.ntmps34
  go_wp2
  go_ret
  exact ⟨rfl, rfl⟩
theorem deep_nil (w : World) : Calls Try.prog 13 #[.pointer none] w fun e w' => e = .returned (.int .i64 0) ∧ w = w' := by
  go_enter Try.func13, Try.ntmps13
  go_wp2
  go_ret
  exact ⟨rfl, rfl⟩
theorem len_nil (w : World) : Calls Try.prog 11 #[.pointer none] w fun e w' => e = .returned (.int .i64 0) ∧ w = w' := by
  go_enter Try.func11, Try.ntmps11
  go_wp2
  go_ret
  exact ⟨rfl, rfl⟩
/-- A new block that is a writer of nothing. -/
theorem wr_new (w : World) (made : Bool) : Wr w.heap.size (w.alloc (.cells #[.bool made, .slice none 0 0, .slice none 0 0, .slice none 0 0, .int .i64 0] 54)) w.heap.size (fun k => k = w.heap.size) made ⟨[], [], [], 0⟩ :=
  ⟨.slice none 0 0, .slice none 0 0, .slice none 0 0, [], ⟨heap_alloc_new w _, World.ownsRow_nil _ _ _ _, World.ownsRow_nil _ _ _ _, World.ownsRow_nil _ _ _ _, rfl, (fun q hq => by cases hq), rfl, (fun k e => by cases e), (fun k e => by cases e), (fun k e => by cases e), (fun k e => by subst e; simp)⟩⟩
theorem wnew_any (w : World) : Calls Try.prog 8 #[] w fun e w' => e = .returned (.pointer (some ⟨w.heap.size, 0, none⟩)) ∧ w' = w.alloc (.cells #[.bool true, .slice none 0 0, .slice none 0 0, .slice none 0 0, .int .i64 0] 54) := by
  go_enter Try.func8, Try.ntmps8
  go_wp2
  go_ret
  exact ⟨rfl, rfl⟩
end Go.Proofs.Ytnhaeapkncnimaa
