/- Several texts in one: CurC. What each proves, and its conditions, stands at its own head. -/
import Derived.Test.YtalbiieagcandaaPkR27
import Derived.Test.YtalbiieagcandaaPkR24
import Derived.Test.YtalbiieagcandaaPkR14
import Derived.Test.YtalbiieagcandaaPkR1
import Derived.IntWalk
/- What the cursor hands on to read numbers and texts by: sized, length, and the literals in Fixed4, Fixed8, Text and Tag, each with what it returns, for every input. -/
namespace Go.Proofs.Ytalbiieagcandaa
open Go.RowKit
set_option linter.unusedVariables false
set_option maxRecDepth 100000

theorem sized_any (n : Nat) (b : Bool) (w : World) :
    Calls Try.prog 81 #[.int .i64 (n : Int), .bool b] w fun e w' => e = .returned (.int .i64 ((if b = true then n else 0 : Nat) : Int)) ∧ w = w' := by
  cases b
  all_goals
    go_enter Try.func81, Try.ntmps81
    go_wp2
    go_ret
    exact ⟨rfl, rfl⟩

theorem sized_four (b : Bool) (w : World) :
    Calls Try.prog 81 #[.int .i64 4, .bool b] w fun e w' => e = .returned (.int .i64 ((if b = true then 4 else 0 : Nat) : Int)) ∧ w = w' := sized_any 4 b w
theorem sized_eight (b : Bool) (w : World) :
    Calls Try.prog 81 #[.int .i64 8, .bool b] w fun e w' => e = .returned (.int .i64 ((if b = true then 8 else 0 : Nat) : Int)) ∧ w = w' := sized_any 8 b w

theorem length_any (A : Option Addr) (n cap : Nat) (bs : List UInt8) (w : World) (hn : n = bs.length) (hb : Bs w A cap bs) :
    Calls Try.prog 86 #[.slice A n cap] w fun e w' => e = .returned (.tuple #[.int .i64 ((tLen bs).1 : Int), .int .i64 ((tLen bs).2 : Int)]) ∧ w = w' := by
  have hG := Lib.hid (get_n A n cap bs w hn hb)
  have hle := getFrom_le bs
  have hlt := getFrom_u64 bs
  have hmax := hb.max
  have hlc := hb.le
  unfold maxLen at hmax
  obtain ⟨u, hu⟩ : ∃ u, u = (getFrom 0 0 bs).1 := ⟨_, rfl⟩
  obtain ⟨k, hk⟩ : ∃ k, k = (getFrom 0 0 bs).2 := ⟨_, rfl⟩
  have hT : Hid (tLen bs = if n - k < u then (0, 0) else (u, k)) := by
    show _ = _
    rw [hu, hk, hn]; rfl
  rw [← hu, ← hk] at hG
  rw [← hk] at hle
  rw [← hu] at hlt
  rw [← hn] at hle hlc
  clear hu hk hn hb
  have hw : IntKind.u64.wrap ((n : Int) - (k : Int)) = ((n - k : Nat) : Int) := by
    rw [show (n : Int) - (k : Int) = ((n - k : Nat) : Int) by omega]
    exact IntWalk.u64_in _ (by omega)
  by_cases hc : n - k < u
  · have hd : decide (((n - k : Nat) : Int) < (u : Int)) = true := decide_eq_true (by omega)
    go_enter Try.func86, Try.ntmps86
    go_wp2_with (go_at_call 79; refine hG.out.mono ?_; rintro e w' ⟨rfl, rfl⟩)
    go_ret2
    rw [if_pos hc] at hT
    exact ⟨by rw [hT.out]; rfl, rfl⟩
  · have hd : decide (((n - k : Nat) : Int) < (u : Int)) = false := decide_eq_false (by omega)
    go_enter Try.func86, Try.ntmps86
    go_wp2_with (go_at_call 79; refine hG.out.mono ?_; rintro e w' ⟨rfl, rfl⟩)
    go_ret2
    rw [if_neg hc] at hT
    exact ⟨by rw [hT.out]; rfl, rfl⟩
theorem four_lit (A : Option Addr) (n cap : Nat) (bs : List UInt8) (w : World) (hn : n = bs.length) (hb : Bs w A cap bs) :
    Calls Try.prog 88 #[.slice A n cap] w fun e w' => e = .returned (.tuple #[.int .u32 ((tFix 4 bs).1 : Int), .int .i64 ((tFix 4 bs).2 : Int)]) ∧ Below w.heap.size w w' := by
  have hG := Lib.hid (get4_n A n cap bs w hn hb)
  have hT : Hid (tFix 4 bs = (getN 4 bs, if isN 4 bs = true then 4 else 0)) := rfl
  obtain ⟨u, hu⟩ : ∃ u, u = getN 4 bs := ⟨_, rfl⟩
  obtain ⟨b, hb'⟩ : ∃ b, b = isN 4 bs := ⟨_, rfl⟩
  rw [← hu, ← hb'] at hG hT
  clear hu hb' hb hn
  cases b
  all_goals
    go_enter Try.func88, Try.ntmps88
    go_wp2_with (first
      | (go_at_call 89; refine hG.out.mono ?_; rintro e w1 ⟨rfl, hb1⟩)
      | (go_at_call 81; refine (sized_four _ _).mono ?_; rintro e w' ⟨rfl, rfl⟩))
    go_ret2
    exact ⟨by rw [hT.out]; rfl, hb1⟩
theorem eight_lit (A : Option Addr) (n cap : Nat) (bs : List UInt8) (w : World) (hn : n = bs.length) (hb : Bs w A cap bs) :
    Calls Try.prog 82 #[.slice A n cap] w fun e w' => e = .returned (.tuple #[.int .u64 ((tFix 8 bs).1 : Int), .int .i64 ((tFix 8 bs).2 : Int)]) ∧ Below w.heap.size w w' := by
  have hG := Lib.hid (get8_n A n cap bs w hn hb)
  have hT : Hid (tFix 8 bs = (getN 8 bs, if isN 8 bs = true then 8 else 0)) := rfl
  obtain ⟨u, hu⟩ : ∃ u, u = getN 8 bs := ⟨_, rfl⟩
  obtain ⟨b, hb'⟩ : ∃ b, b = isN 8 bs := ⟨_, rfl⟩
  rw [← hu, ← hb'] at hG hT
  clear hu hb' hb hn
  cases b
  all_goals
    go_enter Try.func82, Try.ntmps82
    go_wp2_with (first
      | (go_at_call 83; refine hG.out.mono ?_; rintro e w1 ⟨rfl, hb1⟩)
      | (go_at_call 81; refine (sized_eight _ _).mono ?_; rintro e w' ⟨rfl, rfl⟩))
    go_ret2
    exact ⟨by rw [hT.out]; rfl, hb1⟩

theorem text_lit (A : Option Addr) (n cap : Nat) (bs : List UInt8) (w : World) (hn : n = bs.length) (hb : Bs w A cap bs) :
    Calls Try.prog 85 #[.slice A n cap] w fun e w' => e = .returned (.tuple #[.string (strOf (tText bs).1), .int .i64 ((tText bs).2 : Int)]) ∧ w = w' := by
  have hG := Lib.hid (length_any A n cap bs w hn hb)
  have hsum := tLen_sum bs
  have hT : Hid (tText bs = ((bs.drop (tLen bs).2).take (tLen bs).1, (tLen bs).2 + (tLen bs).1)) := rfl
  have hmax := hb.max
  have hlc := hb.le
  unfold maxLen at hmax
  have hcut := (hb.cut (tLen bs).2 (by omega)).take (tLen bs).1
  have hlen : ((bs.drop (tLen bs).2).take (tLen bs).1).length = (tLen bs).1 := by simp; omega
  obtain ⟨u, hu⟩ : ∃ u, u = (tLen bs).1 := ⟨_, rfl⟩
  obtain ⟨k, hk⟩ : ∃ k, k = (tLen bs).2 := ⟨_, rfl⟩
  rw [← hu, ← hk] at hG hsum hT hcut hlen
  rw [← hn] at hsum hlc
  have g1 := run_string_bytes (P := Try.prog) hcut Try.underlying29 Try.underlying5 Try.underlying9
  rw [hlen] at g1
  clear hu hk hn hb hlen hcut
  go_enter Try.func85, Try.ntmps85
  go_wp2_with (go_at_call 86; refine hG.out.mono ?_; rintro e w1 ⟨rfl, rfl⟩)
  all_goals
    go_ret2
    exact ⟨by rw [hT.out]; simp, rfl⟩

/-- The literal in Tag: a and b are where it lays the field's number and the wire type. -/
theorem tag_lit (A : Option Addr) (n cap a b : Nat) (bs : List UInt8) (w : World) (hn : n = bs.length) (hb : Bs w A cap bs) (va vb : Value)
    (ha : w.heap[a]? = some (.cells #[va] 3 (0, 0))) (hbb : w.heap[b]? = some (.cells #[vb] 3 (0, 0))) (hab : a ≠ b) :
    Calls Try.prog 78 #[.slice A n cap, .pointer (some ⟨a, 0, none⟩), .pointer (some ⟨b, 0, none⟩)] w fun e w' => e = .returned (.tuple #[.int .u64 ((getFrom 0 0 bs).1 : Int), .int .i64 ((tTag bs).2 : Int)]) ∧
      (w.setCell ⟨a, 0, none⟩ (.int .i64 ((tTag bs).1.1 : Int))).setCell ⟨b, 0, none⟩ (.int .i64 ((tTag bs).1.2 : Int)) = w' := by
  have hG := Lib.hid (get_n A n cap bs w hn hb)
  have hlt := getFrom_u64 bs
  have hT : Hid (tTag bs = ((splitN (getFrom 0 0 bs).1, splitW (getFrom 0 0 bs).1), if splitOk (getFrom 0 0 bs).1 = true then (getFrom 0 0 bs).2 else 0)) := rfl
  obtain ⟨u, hu⟩ : ∃ u, u = (getFrom 0 0 bs).1 := ⟨_, rfl⟩
  obtain ⟨k, hk⟩ : ∃ k, k = (getFrom 0 0 bs).2 := ⟨_, rfl⟩
  rw [← hu, ← hk] at hG hT
  rw [← hu] at hlt ⊢
  have hS := Lib.hid (split_any u w hlt)
  obtain ⟨ok, hok⟩ : ∃ ok, ok = splitOk u := ⟨_, rfl⟩
  obtain ⟨x, hx⟩ : ∃ x, x = splitN u := ⟨_, rfl⟩
  obtain ⟨y, hy⟩ : ∃ y, y = splitW u := ⟨_, rfl⟩
  rw [← hok, ← hx, ← hy] at hS hT
  have c1 := cell_of_one ha
  have c2 := cell_of_one hbb
  have f1 := free_of_one ha
  have f2 := free_of_one hbb
  clear hu hk hn hb hok hx hy ha hbb hlt
  cases ok
  all_goals
    go_enter Try.func78, Try.ntmps78
    go_wp2_with (first
      | (go_at_call 79; refine hG.out.mono ?_; rintro e w' ⟨rfl, rfl⟩)
      | (go_at_call 80; refine hS.out.mono ?_; rintro e w' ⟨rfl, rfl⟩)
      | (go_at_call 81; refine (sized_any k _ _).mono ?_; rintro e w' ⟨rfl, rfl⟩))
    go_ret2
    exact ⟨by rw [hT.out]; rfl, by rw [hT.out]⟩
end Go.Proofs.Ytalbiieagcandaa
