/- Several texts in one: StkA, CurA. What each proves, and its conditions, stands at its own head. -/
import Derived.Test.YtalbiieagcandaaChecked
import Derived.Test.YtalbiieagcandaaPkR2
import Derived.Test.YtalbiieagcandaaPkR0
import Derived.Test.YtalbiieagcandaaPkR20
import Derived.WalkKit
import Derived.OwnWalk
import Derived.RowKitTokens
import Derived.Lib.Hide
import Derived.ArgAppend
import Derived.BigQuiet
import Derived.Deep.QuietTactic
import Derived.Lib.Small
import Derived.Lib.Walk
/- The list of the frames' ends in memory. Conditions: those that each theorem names. -/
namespace Go.Proofs.Ytalbiieagcandaa
open Go.RowKit
set_option linter.unusedVariables false
set_option maxRecDepth 100000

/-- The list of the frames' ends: 'cap' may be less than what the block holds. -/
structure Stk (w : World) (g cap : Nat) (xs : List Nat) : Prop where
  row : ∃ cur : Array Value, w.heap[g]? = some (.cells cur 3 (0, 0)) ∧ cap ≤ cur.size ∧ cur.toList.take xs.length = ints xs
  le : xs.length ≤ cap
  max : cap ≤ maxLen
theorem Stk.keep {w w' : World} {g cap : Nat} {xs : List Nat} (h : Stk w g cap xs) (hk : w'.heap[g]? = w.heap[g]?) : Stk w' g cap xs := by
  obtain ⟨cur, h1, h2⟩ := h.row
  exact ⟨⟨cur, hk.trans h1, h2⟩, h.le, h.max⟩
theorem Stk.cell {w : World} {g cap : Nat} {xs : List Nat} (h : Stk w g cap xs) {j : Nat} {n : Nat} (hj : xs[j]? = some n) : w.cell? ⟨g, j, none⟩ = some (.int .i64 (n : Int)) := by
  obtain ⟨cur, h1, h2, h3⟩ := h.row
  rw [obj_cell h1 j, ← Array.getElem?_toList]
  have hlt := (List.getElem?_eq_some_iff.1 hj).1
  rw [← List.getElem?_take_of_lt hlt, h3, ints, List.getElem?_map, hj]
  rfl
theorem Stk.last {w : World} {g cap l : Nat} {r : List Nat} (h : Stk w g cap (l :: r).reverse) : w.cell? ⟨g, r.length, none⟩ = some (.int .i64 (l : Int)) :=
  h.cell (by rw [List.reverse_cons, List.getElem?_append_right (by simp)]; simp)

/-- Who draws nothing draws so many. -/
theorem drawn_of {k : Nat} {args : Array Value} {w : World} {v : Value} (h : Calls Try.prog k args w fun e w' => e = .returned v ∧ w = w') : Calls Try.prog k args w fun e w' => e = .returned v ∧ ∃ n, w' = w.drewN n :=
  h.mono fun _ _ ⟨he, hw⟩ => ⟨he, 0, hw ▸ rfl⟩
end Go.Proofs.Ytalbiieagcandaa

/- The cursor in memory, and the calls that only look: Deep, Ok, At, end, More. -/
namespace Go.Proofs.Ytalbiieagcandaa
open Go.RowKit
set_option linter.unusedVariables false
set_option maxRecDepth 100000

theorem deep_any (p : Nat) (vb vp : Value) (E : Option Addr) (n c : Nat) (w : World) (h : w.heap[p]? = some (.cells #[vb, vp, .slice E n c] 73 (0, 0))) :
    Calls Try.prog 47 #[.pointer (some ⟨p, 0, none⟩)] w fun e w' => e = .returned (.int .i64 (n : Int)) ∧ w = w' := by
  have h2 := obj_cell h 2
  have H := Lib.hid h
  clear h
  go_enter Try.func47, Try.ntmps47
  go_wp2
  go_ret
  exact ⟨rfl, rfl⟩
theorem ok_any (p : Nat) (vb vp : Value) (E : Option Addr) (n c : Nat) (w : World) (h : w.heap[p]? = some (.cells #[vb, vp, .slice E n c] 73 (0, 0))) :
    Calls Try.prog 29 #[.pointer (some ⟨p, 0, none⟩)] w fun e w' => e = .returned (.bool (decide (0 < n))) ∧ w = w' := by
  have H := Lib.hid h
  clear h
  go_enter Try.func29, Try.ntmps29
  go_wp2_with (go_at_call 47; refine (deep_any _ _ _ _ _ _ _ H.out).mono ?_; rintro e w' ⟨rfl, rfl⟩)
  go_ret
  exact ⟨rfl, rfl⟩
theorem ok_no (p : Nat) (vb vp : Value) (E : Option Addr) (c : Nat) (w : World) (h : w.heap[p]? = some (.cells #[vb, vp, .slice E 0 c] 73 (0, 0))) :
    Calls Try.prog 29 #[.pointer (some ⟨p, 0, none⟩)] w fun e w' => e = .returned (.bool false) ∧ w = w' := ok_any p vb vp E 0 c w h
theorem ok_yes (p : Nat) (vb vp : Value) (E : Option Addr) (n c : Nat) (w : World) (h : w.heap[p]? = some (.cells #[vb, vp, .slice E (n + 1) c] 73 (0, 0))) :
    Calls Try.prog 29 #[.pointer (some ⟨p, 0, none⟩)] w fun e w' => e = .returned (.bool true) ∧ w = w' :=
  (ok_any p vb vp E (n + 1) c w h).mono fun _ _ ⟨he, hw⟩ => ⟨by rw [he, decide_eq_true (by omega)], hw⟩
theorem at_any (p : Nat) (vb ve : Value) (i : Nat) (w : World) (h : w.heap[p]? = some (.cells #[vb, .int .i64 (i : Int), ve] 73 (0, 0))) :
    Calls Try.prog 45 #[.pointer (some ⟨p, 0, none⟩)] w fun e w' => e = .returned (.int .i64 (i : Int)) ∧ w = w' := by
  have h2 := obj_cell h 1
  have H := Lib.hid h
  clear h
  go_enter Try.func45, Try.ntmps45
  go_wp2
  go_ret
  exact ⟨rfl, rfl⟩
theorem end_cells (p : Nat) (g k c l : Nat) (w : World) (hle : k + 1 ≤ 9223372036854775807) (h2 : w.cell? ⟨p, 2, none⟩ = some (.slice (some ⟨g, 0, none⟩) (k + 1) c)) (hl : w.cell? ⟨g, k, none⟩ = some (.int .i64 (l : Int))) :
    Calls Try.prog 60 #[.pointer (some ⟨p, 0, none⟩)] w fun e w' => e = .returned (.int .i64 (l : Int)) ∧ ∃ n, w' = w.drewN n := by
  go_enter Try.func60, Try.ntmps60
  go_wp2
  go_quiet (fail)
  go_wp2
  go_ret
  exact ⟨rfl, _, rfl⟩
theorem end_any (p : Nat) (vb vp : Value) (g c l : Nat) (r : List Nat) (w : World) (h : w.heap[p]? = some (.cells #[vb, vp, .slice (some ⟨g, 0, none⟩) (r.length + 1) c] 73 (0, 0))) (hs : Stk w g c (l :: r).reverse) :
    Calls Try.prog 60 #[.pointer (some ⟨p, 0, none⟩)] w fun e w' => e = .returned (.int .i64 (l : Int)) ∧ ∃ n, w' = w.drewN n :=
  end_cells p g r.length c l w (by have h1 := hs.le; have h2 := hs.max; simp at h1; unfold maxLen at h2; omega) (obj_cell h 2) hs.last
/-- A caller's world may have drawn. -/
theorem end_drawn (p : Nat) (vb vp : Value) (g c l : Nat) (r : List Nat) (w : World) (h : w.heap[p]? = some (.cells #[vb, vp, .slice (some ⟨g, 0, none⟩) (r.length + 1) c] 73 (0, 0))) (hs : Stk w g c (l :: r).reverse) (n : Nat) :
    Calls Try.prog 60 #[.pointer (some ⟨p, 0, none⟩)] (w.drewN n) fun e w' => e = .returned (.int .i64 (l : Int)) ∧ ∃ m, w' = (w.drewN n).drewN m :=
  end_any p vb vp g c l r (w.drewN n) h (hs.keep rfl)
theorem more_none (p : Nat) (vb vp : Value) (c : Nat) (E : Option Addr) (w : World) (h : w.heap[p]? = some (.cells #[vb, vp, .slice E 0 c] 73 (0, 0))) :
    Calls Try.prog 44 #[.pointer (some ⟨p, 0, none⟩)] w fun e w' => e = .returned (.bool false) ∧ ∃ n, w' = w.drewN n := by
  have H := Lib.hid h
  clear h
  go_enter Try.func44, Try.ntmps44
  go_wp2
  go_quiet ((go_at_call 29; exact Calls.quiet_of (drawn_of (ok_no p vb vp E c _ H.out))))
  go_wp2
  go_ret
  exact ⟨rfl, _, rfl⟩
theorem more_some (p : Nat) (vb : Value) (i g c l : Nat) (r : List Nat) (w : World) (h : w.heap[p]? = some (.cells #[vb, .int .i64 (i : Int), .slice (some ⟨g, 0, none⟩) (r.length + 1) c] 73 (0, 0))) (hs : Stk w g c (l :: r).reverse) :
    Calls Try.prog 44 #[.pointer (some ⟨p, 0, none⟩)] w fun e w' => e = .returned (.bool (decide (i < l))) ∧ ∃ n, w' = w.drewN n := by
  have h1 := obj_cell h 1
  have hend := end_drawn p vb _ g c l r w h hs
  have H := Lib.hid h
  have HE := Lib.hid hend
  clear h hs hend
  go_enter Try.func44, Try.ntmps44
  go_wp2
  go_quiet (first
    | (go_at_call 29; exact Calls.quiet_of (drawn_of (ok_yes _ _ _ _ _ _ _ H.out)))
    | (go_at_call 60; exact Calls.quiet_of (HE.out _)))
  go_wp2
  go_ret
  exact ⟨by go_num, _, rfl⟩
end Go.Proofs.Ytalbiieagcandaa
