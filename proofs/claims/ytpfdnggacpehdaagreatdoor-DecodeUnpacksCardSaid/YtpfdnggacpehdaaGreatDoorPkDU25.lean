/- Several texts in one: StkA, CurA, Stk, RefA. What each proves, and its conditions, stands at its own head. -/
import Derived.Test.YtpfdnggacpehdaaGreatDoorChecked
import Derived.Test.YtpfdnggacpehdaaGreatDoorPkDU2
import Derived.Test.YtpfdnggacpehdaaGreatDoorPkDU0
import Derived.Test.YtpfdnggacpehdaaGreatDoorPkDU23
import Derived.WalkKit
import Derived.OwnWalk
import Derived.RowKitTokens
import Derived.Lib.Hide
import Derived.ArgAppend
import Derived.BigQuiet
import Derived.Deep.QuietTactic
import Derived.Lib.Small
import Derived.Lib.Walk
import Derived.Deep.AppendLies
/- The list of the frames' ends in memory. Conditions: those that each theorem names. -/
namespace Go.Proofs.YtpfdnggacpehdaaGreatDoor
open Go.RowKit
set_option linter.unusedVariables false
set_option maxRecDepth 100000

/-- The list of the frames' ends: 'cap' may be less than what the block holds. -/
structure Stk (w : World) (g cap : Nat) (xs : List Nat) : Prop where
  row : ∃ cur : Array Value, w.heap[g]? = some (.cells cur 3 (0, 0)) ∧ cap ≤ cur.size ∧ cur.toList.take xs.length = ints xs
  le : xs.length ≤ cap
  max : cap ≤ maxLen
theorem Stk.keep {w w' : World} {g cap : Nat} {xs : List Nat} (h : Stk w g cap xs) (hk : w'.heap[g]? = w.heap[g]?) : Stk w' g cap xs := by
  obtain ⟨cur, h1, h2⟩ := h.row
  exact ⟨⟨cur, hk.trans h1, h2⟩, h.le, h.max⟩
theorem Stk.cell {w : World} {g cap : Nat} {xs : List Nat} (h : Stk w g cap xs) {j : Nat} {n : Nat} (hj : xs[j]? = some n) : w.cell? ⟨g, j, none⟩ = some (.int .i64 (n : Int)) := by
  obtain ⟨cur, h1, h2, h3⟩ := h.row
  rw [obj_cell h1 j, ← Array.getElem?_toList]
  have hlt := (List.getElem?_eq_some_iff.1 hj).1
  rw [← List.getElem?_take_of_lt hlt, h3, ints, List.getElem?_map, hj]
  rfl
theorem Stk.last {w : World} {g cap l : Nat} {r : List Nat} (h : Stk w g cap (l :: r).reverse) : w.cell? ⟨g, r.length, none⟩ = some (.int .i64 (l : Int)) :=
  h.cell (by rw [List.reverse_cons, List.getElem?_append_right (by simp)]; simp)

/-- Who draws nothing draws so many. -/
theorem drawn_of {k : Nat} {args : Array Value} {w : World} {v : Value} (h : Calls Tryz.prog k args w fun e w' => e = .returned v ∧ w = w') : Calls Tryz.prog k args w fun e w' => e = .returned v ∧ ∃ n, w' = w.drewN n :=
  h.mono fun _ _ ⟨he, hw⟩ => ⟨he, 0, hw ▸ rfl⟩
end Go.Proofs.YtpfdnggacpehdaaGreatDoor

/- The cursor in memory, and the calls that only look: Deep, Ok, At, end, More. -/
namespace Go.Proofs.YtpfdnggacpehdaaGreatDoor
open Go.RowKit
set_option linter.unusedVariables false
set_option maxRecDepth 100000

theorem deep_any (p : Nat) (vb vp : Value) (E : Option Addr) (n c : Nat) (w : World) (h : w.heap[p]? = some (.cells #[vb, vp, .slice E n c] 109 (0, 0))) :
    Calls Tryz.prog 65 #[.pointer (some ⟨p, 0, none⟩)] w fun e w' => e = .returned (.int .i64 (n : Int)) ∧ w = w' := by
  have h2 := obj_cell h 2
  have H := Lib.hid h
  clear h
  go_enter Tryz.func65, Tryz.ntmps65
  go_wp2
  go_ret
  exact ⟨rfl, rfl⟩
theorem ok_any (p : Nat) (vb vp : Value) (E : Option Addr) (n c : Nat) (w : World) (h : w.heap[p]? = some (.cells #[vb, vp, .slice E n c] 109 (0, 0))) :
    Calls Tryz.prog 40 #[.pointer (some ⟨p, 0, none⟩)] w fun e w' => e = .returned (.bool (decide (0 < n))) ∧ w = w' := by
  have H := Lib.hid h
  clear h
  go_enter Tryz.func40, Tryz.ntmps40
  go_wp2_with (go_at_call 65; refine (deep_any _ _ _ _ _ _ _ H.out).mono ?_; rintro e w' ⟨rfl, rfl⟩)
  go_ret
  exact ⟨rfl, rfl⟩
theorem ok_no (p : Nat) (vb vp : Value) (E : Option Addr) (c : Nat) (w : World) (h : w.heap[p]? = some (.cells #[vb, vp, .slice E 0 c] 109 (0, 0))) :
    Calls Tryz.prog 40 #[.pointer (some ⟨p, 0, none⟩)] w fun e w' => e = .returned (.bool false) ∧ w = w' := ok_any p vb vp E 0 c w h
theorem ok_yes (p : Nat) (vb vp : Value) (E : Option Addr) (n c : Nat) (w : World) (h : w.heap[p]? = some (.cells #[vb, vp, .slice E (n + 1) c] 109 (0, 0))) :
    Calls Tryz.prog 40 #[.pointer (some ⟨p, 0, none⟩)] w fun e w' => e = .returned (.bool true) ∧ w = w' :=
  (ok_any p vb vp E (n + 1) c w h).mono fun _ _ ⟨he, hw⟩ => ⟨by rw [he, decide_eq_true (by omega)], hw⟩
theorem end_cells (p : Nat) (g k c l : Nat) (w : World) (hle : k + 1 ≤ 9223372036854775807) (h2 : w.cell? ⟨p, 2, none⟩ = some (.slice (some ⟨g, 0, none⟩) (k + 1) c)) (hl : w.cell? ⟨g, k, none⟩ = some (.int .i64 (l : Int))) :
    Calls Tryz.prog 79 #[.pointer (some ⟨p, 0, none⟩)] w fun e w' => e = .returned (.int .i64 (l : Int)) ∧ ∃ n, w' = w.drewN n := by
  go_enter Tryz.func79, Tryz.ntmps79
  go_wp2
  go_quiet (fail)
  go_wp2
  go_ret
  exact ⟨rfl, _, rfl⟩
theorem end_any (p : Nat) (vb vp : Value) (g c l : Nat) (r : List Nat) (w : World) (h : w.heap[p]? = some (.cells #[vb, vp, .slice (some ⟨g, 0, none⟩) (r.length + 1) c] 109 (0, 0))) (hs : Stk w g c (l :: r).reverse) :
    Calls Tryz.prog 79 #[.pointer (some ⟨p, 0, none⟩)] w fun e w' => e = .returned (.int .i64 (l : Int)) ∧ ∃ n, w' = w.drewN n :=
  end_cells p g r.length c l w (by have h1 := hs.le; have h2 := hs.max; simp at h1; unfold maxLen at h2; omega) (obj_cell h 2) hs.last
/-- A caller's world may have drawn. -/
theorem end_drawn (p : Nat) (vb vp : Value) (g c l : Nat) (r : List Nat) (w : World) (h : w.heap[p]? = some (.cells #[vb, vp, .slice (some ⟨g, 0, none⟩) (r.length + 1) c] 109 (0, 0))) (hs : Stk w g c (l :: r).reverse) (n : Nat) :
    Calls Tryz.prog 79 #[.pointer (some ⟨p, 0, none⟩)] (w.drewN n) fun e w' => e = .returned (.int .i64 (l : Int)) ∧ ∃ m, w' = (w.drewN n).drewN m :=
  end_any p vb vp g c l r (w.drewN n) h (hs.keep rfl)
theorem more_none (p : Nat) (vb vp : Value) (c : Nat) (E : Option Addr) (w : World) (h : w.heap[p]? = some (.cells #[vb, vp, .slice E 0 c] 109 (0, 0))) :
    Calls Tryz.prog 36 #[.pointer (some ⟨p, 0, none⟩)] w fun e w' => e = .returned (.bool false) ∧ ∃ n, w' = w.drewN n := by
  have H := Lib.hid h
  clear h
  go_enter Tryz.func36, Tryz.ntmps36
  go_wp2
  go_quiet ((go_at_call 40; exact Calls.quiet_of (drawn_of (ok_no p vb vp E c _ H.out))))
  go_wp2
  go_ret
  exact ⟨rfl, _, rfl⟩
theorem more_some (p : Nat) (vb : Value) (i g c l : Nat) (r : List Nat) (w : World) (h : w.heap[p]? = some (.cells #[vb, .int .i64 (i : Int), .slice (some ⟨g, 0, none⟩) (r.length + 1) c] 109 (0, 0))) (hs : Stk w g c (l :: r).reverse) :
    Calls Tryz.prog 36 #[.pointer (some ⟨p, 0, none⟩)] w fun e w' => e = .returned (.bool (decide (i < l))) ∧ ∃ n, w' = w.drewN n := by
  have h1 := obj_cell h 1
  have hend := end_drawn p vb _ g c l r w h hs
  have H := Lib.hid h
  have HE := Lib.hid hend
  clear h hs hend
  go_enter Tryz.func36, Tryz.ntmps36
  go_wp2
  go_quiet (first
    | (go_at_call 40; exact Calls.quiet_of (drawn_of (ok_yes _ _ _ _ _ _ _ H.out)))
    | (go_at_call 79; exact Calls.quiet_of (HE.out _)))
  go_wp2
  go_ret
  exact ⟨by go_num, _, rfl⟩
end Go.Proofs.YtpfdnggacpehdaaGreatDoor

/- append onto a list of whole numbers that may have less room than its block: what it answers. -/
namespace Go.Proofs.YtpfdnggacpehdaaGreatDoor
open Go.RowKit
set_option linter.unusedVariables false
set_option maxRecDepth 100000

theorem info_int : (Tryz.prog.info? 3).map (fun i => (i.zero, i.size, i.bytes)) = some (some (.int .i64 0), 1, 8) := by kernel_rfl

theorem run_append_stk {w : World} {g c : Nat} {xs : List Nat} (ty : TypeId) (h : Stk w g c xs) (hb : xs.length ≤ 1099511627776) (ad : Addr) (c2 n : Nat) (hn : w.cell? (ad.add 0) = some (.int .i64 (n : Int))) :
    ∃ g' c' w', (Builtin.append_ #[57, 57] ty #[.slice (some ⟨g, 0, none⟩) xs.length c, .slice (some ad) 1 c2]).run Tryz.prog w = .ok (.slice (some ⟨g', 0, none⟩) (xs.length + 1) c') w' ∧
      Stk w' g' c' (xs ++ [n]) ∧ w.grownBy w' (some g) ∧ (g' = g ∨ g' ≥ w.heap.size) ∧ g' < w'.heap.size := by
  obtain ⟨i, hi, hz0, hz1, hz2⟩ := info_parts info_int
  obtain ⟨cur, h1, h2, h3⟩ := h.row
  have hle := h.le
  have hmax := h.max
  have hc : ∀ j u, [Value.int .i64 (n : Int)][j]? = some u → w.cell? (ad.add j) = some u := by
    intro j u hu
    match j, hu with
    | 0, hu => simp at hu; rw [hn, hu]
  have hone : ∀ u ∈ [Value.int .i64 (n : Int)], u.oneCell' = true := by
    intro u hu; simp at hu; subst hu; rfl
  by_cases hroom : xs.length + 1 ≤ c
  · have hr := run_append_room (P := Tryz.prog) (w := w) 57 ty 3 i Tryz.underlying57 hi g xs.length c cur h1 ad 1 c2 [.int .i64 (n : Int)] (by rw [hz1]; rfl) hc hone hroom (by rw [hz1]; simp; omega)
    refine ⟨g, c, _, hr, ⟨⟨_, setRow_heap w g cur _ _ _ h1, ?_, ?_⟩, by simp; omega, hmax⟩, ⟨rfl, rfl, rfl, by simp, fun k hk hne => ?_⟩, .inl rfl, ?_⟩
    · rw [hz1]
      simp
      omega
    · rw [hz1]
      simp only [Nat.mul_one, List.length_append, List.length_cons, List.length_nil]
      rw [ints_append, List.take_append_of_le_length (by simp; omega), List.take_of_length_le (by simp; omega), h3]
      rfl
    · have hne' : k ≠ g := fun e => hne (by rw [e])
      simp only [World.setRow, Array.getElem?_modify]
      rw [if_neg (fun e => hne' e.symm)]
    · rw [size_setRow]; exact lt_of_block h1
  · have hr := run_append_arg_grows (P := Tryz.prog) w 57 ty 3 i (.int .i64 0) 1 8 Tryz.underlying57 hi hz0 hz1 hz2 rfl (by omega) ⟨g, 0, none⟩ xs.length c (ints xs) (by simp [ints_length]) (fun j u hu => ?_) ad 1 c2 [.int .i64 (n : Int)] rfl hc (by omega) (by unfold maxLen; omega) (by omega)
    · obtain ⟨v', w', hrun, ho, hg⟩ := hr
      rcases ho.2 with ⟨_, h0⟩ | ⟨g', cap, cur', rfl, hbase, hh, hle', hm', hs', ht'⟩
      · omega
      · refine ⟨g', cap, w', hrun, ⟨⟨cur', hh, by omega, ?_⟩, by simp; omega, hm'⟩, ⟨hg.os, hg.tape, hg.output, hg.size, fun k hk _ => hg.block k hk (by simp)⟩, .inr hbase, lt_of_block hh⟩
        rw [Nat.mul_one] at ht'
        rw [List.length_append, ints_append]
        exact ht'
    · obtain ⟨m, hm, rfl⟩ : ∃ m, xs[j]? = some m ∧ u = .int .i64 (m : Int) := by
        rw [ints, List.getElem?_map, Option.map_eq_some_iff] at hu
        obtain ⟨m, hm, rfl⟩ := hu
        exact ⟨m, hm, rfl⟩
      have := h.cell hm
      cases j <;> simpa [Addr.add] using this
theorem wp_append_stk {o : Oper} {a : Act} {w : World} {K : Act → World → Prop} {Q : Exit → Act → World → Prop} (s x : Operand)
    (ho : o.op = .call { callee := .builtin .append, args := #[s, x], argTypes := #[57, 57] }) {g c m : Nat} {xs : List Nat} (h : Stk w g c xs) (hb : xs.length ≤ 1099511627776) (hm : m = xs.length)
    (hs : a.eval s = .slice (some ⟨g, 0, none⟩) m c) (ad : Addr) (c2 n : Nat) (hx : a.eval x = .slice (some ad) 1 c2) (hn : w.cell? (ad.add 0) = some (.int .i64 (n : Int)))
    (hK : ∀ g' c' w', Stk w' g' c' (xs ++ [n]) → w.grownBy w' (some g) → (g' = g ∨ g' ≥ w.heap.size) → g' < w'.heap.size → K (a.put o.dst (.slice (some ⟨g', 0, none⟩) (m + 1) c')) w') : o.wp Tryz.prog a w K Q := by
  subst hm
  obtain ⟨g', c', w', hr, h2, h3, h4, h5⟩ := run_append_stk o.type h hb ad c2 n hn
  unfold Oper.wp execOp
  simp only [ho, resolve, invoke, builtin, Sem.run_bind, Sem.run_pure, Result.andThen_ok, List.map_toArray, List.map_cons, List.map_nil, hs, hx, hr]
  exact hK g' c' w' h2 h3 h4 h5
theorem step_append_stk {ops : Array Oper} {o : Oper} {a : Act} {w : World} {K : Act → World → Prop} {Q : Exit → Act → World → Prop} {E : Prop} (hgd : o.guard = none) (s x : Operand)
    (ho : o.op = .call { callee := .builtin .append, args := #[s, x], argTypes := #[57, 57] }) {g c m : Nat} {xs : List Nat} (h : Stk w g c xs) (hb : xs.length ≤ 1099511627776) (hm : m = xs.length)
    (hs : a.eval s = .slice (some ⟨g, 0, none⟩) m c) (ad : Addr) (c2 n : Nat) (hx : a.eval x = .slice (some ad) 1 c2) (hn : w.cell? (ad.add 0) = some (.int .i64 (n : Int)))
    (hK : ∀ g' c' w', Stk w' g' c' (xs ++ [n]) → w.grownBy w' (some g) → (g' = g ∨ g' ≥ w.heap.size) → g' < w'.heap.size → K (a.put o.dst (.slice (some ⟨g', 0, none⟩) (m + 1) c')) w') :
    if Region.wanted o (yielded ops a.tmps) = true then Oper.wp Tryz.prog o a w K Q else E := by
  have hw : Region.wanted o (yielded ops a.tmps) = true := by simp [Region.wanted, hgd]
  rw [if_pos hw]
  exact wp_append_stk s x ho h hb hm hs ad c2 n hx hn hK
end Go.Proofs.YtpfdnggacpehdaaGreatDoor

/- The document's cursor in memory; end, fail, More, From. -/
namespace Go.Proofs.YtpfdnggacpehdaaGreatDoor
open Go.RowKit
set_option linter.unusedVariables false
set_option maxRecDepth 100000

/-- The document's cursor at block p is in state s. -/
def Ref (W w : World) (p g : Nat) (bs : List UInt8) (s : St) : Prop :=
  (W.heap.size ≤ p ∧ W.heap.size ≤ g ∧ p ≠ g ∧ p < w.heap.size ∧ g < w.heap.size ∧ Below W.heap.size W w ∧ Right bs s) ∧
  ∃ A cap, Bs W A cap bs ∧ ((s.fr = [] ∧ w.heap[p]? = some (.cells #[.slice A bs.length cap, .int .i64 0, .slice none 0 0, .bool true] 89 (0, 0))) ∨
   ∃ l r c, s.fr = l :: r ∧ w.heap[p]? = some (.cells #[.slice A bs.length cap, .int .i64 (s.at_ : Int), .slice (some ⟨g, 0, none⟩) (r.length + 1) c, .bool false] 89 (0, 0)) ∧ Stk w g c (l :: r).reverse)
/-- What a call of the document's cursor answers, and what it leaves. -/
def RefTo (W w : World) (p g : Nat) (bs : List UInt8) (s : St) (v : Value) (e : Ending) (w' : World) : Prop :=
  e = .returned v ∧ ∃ g', (g' = g ∨ g' ≥ w.heap.size) ∧ Ref W w' p g' bs s ∧ Only p g w w'
theorem Ref.keep {W w w' : World} {p g : Nat} {bs : List UInt8} {s : St} (h : Ref W w p g bs s) (hs : w.heap.size ≤ w'.heap.size) (hb : Below W.heap.size W w') (hp : w'.heap[p]? = w.heap[p]?) (hg : w'.heap[g]? = w.heap[g]?) : Ref W w' p g bs s := by
  obtain ⟨⟨h1, h2, h3, h4, h5, h6, h7⟩, A, cap, hB, h8⟩ := h
  refine ⟨⟨h1, h2, h3, by omega, by omega, hb, h7⟩, A, cap, hB, ?_⟩
  rcases h8 with ⟨a, b⟩ | ⟨l, r, c, a, d, e⟩
  · exact .inl ⟨a, hp.trans b⟩
  · exact .inr ⟨l, r, c, a, hp.trans d, e.keep hg⟩
theorem Ref.bel {W w w' : World} {p g : Nat} {bs : List UInt8} {s : St} (h : Ref W w p g bs s) (hb : Below w.heap.size w w') : Ref W w' p g bs s :=
  h.keep hb.size (h.1.2.2.2.2.2.1.trans (hb.mono (by have := h.1.1; have := h.1.2.2.2.1; omega))) (hb.block p h.1.2.2.2.1) (hb.block g h.1.2.2.2.2.1)
theorem ref_none {W w : World} {p g : Nat} {bs : List UInt8} {s : St} (h : Ref W w p g bs s) (hfr : s.fr = []) : ∃ A cap, Bs W A cap bs ∧ w.heap[p]? = some (.cells #[.slice A bs.length cap, .int .i64 0, .slice none 0 0, .bool true] 89 (0, 0)) := by
  obtain ⟨_, A, cap, hB, h8⟩ := h
  rcases h8 with ⟨a, b⟩ | ⟨l, r, c, a, d, e⟩
  · exact ⟨A, cap, hB, b⟩
  · rw [hfr] at a; cases a
theorem ref_some {W w : World} {p g l : Nat} {r : List Nat} {bs : List UInt8} {s : St} (h : Ref W w p g bs s) (hfr : s.fr = l :: r) : ∃ A cap c, Bs W A cap bs ∧ w.heap[p]? = some (.cells #[.slice A bs.length cap, .int .i64 (s.at_ : Int), .slice (some ⟨g, 0, none⟩) (r.length + 1) c, .bool false] 89 (0, 0)) ∧ Stk w g c (l :: r).reverse := by
  obtain ⟨_, A, cap, hB, h8⟩ := h
  rcases h8 with ⟨a, b⟩ | ⟨l', r', c, a, d, e⟩
  · rw [hfr] at a; cases a
  · rw [hfr] at a
    cases a
    exact ⟨A, cap, c, hB, d, e⟩
theorem ref_still {W w : World} {p g : Nat} {bs : List UInt8} {s : St} {v : Value} {e : Ending} (h : Ref W w p g bs s) (he : e = .returned v) : RefTo W w p g bs s v e w := ⟨he, g, .inl rfl, h, Only.refl _ _ _⟩

theorem rend_cells (p g k c l : Nat) (w : World) (hle : k + 1 ≤ 9223372036854775807) (h2 : w.cell? ⟨p, 2, none⟩ = some (.slice (some ⟨g, 0, none⟩) (k + 1) c)) (hl : w.cell? ⟨g, k, none⟩ = some (.int .i64 (l : Int))) :
    Calls Tryz.prog 88 #[.pointer (some ⟨p, 0, none⟩)] w fun e w' => e = .returned (.int .i64 (l : Int)) ∧ ∃ n, w' = w.drewN n := by
  go_enter Tryz.func88, Tryz.ntmps88
  go_wp2
  go_quiet (fail)
  go_wp2
  go_ret
  exact ⟨rfl, _, rfl⟩
/-- fail. -/
def failed (w : World) (p : Nat) : World := ((w.setCell ⟨p, 3, none⟩ (.bool true)).setCell ⟨p, 1, none⟩ (.int .i64 0)).setCell ⟨p, 2, none⟩ (.slice none 0 0)
theorem fail_any (p : Nat) (c0 c1 c2 c3 : Value) (w : World) (h : w.heap[p]? = some (.cells #[c0, c1, c2, c3] 89 (0, 0))) :
    Calls Tryz.prog 90 #[.pointer (some ⟨p, 0, none⟩)] w fun e w' => e = .returned (.tuple #[]) ∧ failed w p = w' := by
  have h1 := obj_cell h 1
  have h2 := obj_cell h 2
  have h3 := obj_cell h 3
  have f1 := obj_free h 1
  have f2 := obj_free h 2
  have f3 := obj_free h 3
  clear h
  go_enter Tryz.func90, Tryz.ntmps90
  go_wp2
  go_end0
  exact ⟨rfl, rfl⟩
theorem failed_only (w : World) (p g : Nat) : Only p g w (failed w p) :=
  (((Only.refl p g w).set (q := ⟨p, 3, none⟩) (.inl rfl) _).set (q := ⟨p, 1, none⟩) (.inl rfl) _).set (q := ⟨p, 2, none⟩) (.inl rfl) _
theorem failed_row {p : Nat} {c0 c1 c2 c3 : Value} {w : World} {t : TypeId} (h : w.heap[p]? = some (.cells #[c0, c1, c2, c3] t (0, 0))) : (failed w p).heap[p]? = some (.cells #[c0, .int .i64 0, .slice none 0 0, .bool true] t (0, 0)) := by
  have a := obj_set h 3 (.bool true)
  have b := obj_set a 1 (.int .i64 0)
  have c := obj_set b 2 (.slice none 0 0)
  unfold failed
  rw [c]
  rfl
end Go.Proofs.YtpfdnggacpehdaaGreatDoor
