/- Several texts in one: Gives, BytesEq, TagR, TagO, TagRR, TagRO, TagRSp, TagSp, TagS. What each proves, and its conditions, stands at its own head. -/
import Derived.Test.YtalbiieagcandaaChecked
import Derived.Test.YtalbiieagcandaaPkR0
import Derived.WalkKit
import Derived.RowKitTokens
import Derived.OwnWalk
import Derived.Lib.Hide
/- What a call that makes bytes answers: a slice that reads as them, in memory of its own. Conditions: those that each theorem names. -/
namespace Go.Proofs.Ytalbiieagcandaa
open Go.RowKit

theorem info_u8 : (Try.prog.info? 5).map (fun i => (i.zero, i.size, i.bytes)) = some (some (.int .u8 0), 1, 1) := by kernel_rfl

theorem cellsOf_snoc (pre : List UInt8) {a : Nat} (h : a < 256) {x : Int} (hx : x = (a : Int)) : cellsOf pre ++ [.int .u8 x] = cellsOf (pre ++ [a.toUInt8]) := by
  subst hx
  rw [cellsOf_append]
  simp only [cellsOf, List.map_cons, List.map_nil]
  rw [u8_nat h]

theorem one_one (x : Int) : ∀ u ∈ [Value.int .u8 x], u.oneCell' = true := by
  intro u hu; simp at hu; subst hu; rfl

/-- What a call that makes bytes answers. -/
def Gives (w : World) (bs : List UInt8) (e : Ending) (w' : World) : Prop :=
  ∃ A cap, e = .returned (.slice A bs.length cap) ∧ Bs w' A cap bs ∧ Below w.heap.size w w'

theorem gives_own {w w' : World} {v : Value} {bs : List UInt8} {base n : Nat} {t : TypeId} (h : w'.ownsRow base t 1 v n (cellsOf bs)) (hb : Below w.heap.size w w') : Gives w bs (.returned v) w' := by
  obtain ⟨_, A, cap, rfl, hB⟩ := Bs.own h
  exact ⟨A, cap, rfl, hB, hb⟩

/-- .. where the row is the caller's to append to. -/
def GivesOwn (w : World) (bs : List UInt8) (e : Ending) (w' : World) : Prop :=
  ∃ v n, e = .returned v ∧ w'.ownsRow w.heap.size 5 1 v n (cellsOf bs) ∧ Below w.heap.size w w'

/-- .. where what it lies in is new. -/
def GivesN (w : World) (bs : List UInt8) (e : Ending) (w' : World) : Prop :=
  ∃ A cap, e = .returned (.slice A bs.length cap) ∧ Bs w' A cap bs ∧ Below w.heap.size w w' ∧ ∀ a, A = some a → w.heap.size ≤ a.block ∧ a.block < w'.heap.size
theorem GivesN.gives {w w' : World} {bs : List UInt8} {e : Ending} (h : GivesN w bs e w') : Gives w bs e w' := by
  obtain ⟨A, cap, h1, h2, h3, _⟩ := h
  exact ⟨A, cap, h1, h2, h3⟩
theorem new_own {w w' : World} {v : Value} {bs : List UInt8} {n : Nat} {t : TypeId} (h : w'.ownsRow w.heap.size t 1 v n (cellsOf bs)) (hb : Below w.heap.size w w') : GivesN w bs (.returned v) w' := by
  obtain ⟨_, A, cap, rfl, hB⟩ := Bs.own h
  exact ⟨A, cap, rfl, hB, hb, fun a ha => h.lt a.block (by rw [ha]; rfl)⟩

theorem own0 (w : World) : (w.alloc (.cells #[] 5)).ownsRow w.heap.size 5 1 (.slice (some ⟨w.heap.size, 0, none⟩) 0 0) 0 (cellsOf []) :=
  World.ownsRow_made w #[] 0 (Nat.le_refl _) (by decide) rfl
end Go.Proofs.Ytalbiieagcandaa

/- The reference's Bytes: whether two slices read as the same bytes, for all bytes; the world is as it was. -/
namespace Go.Proofs.Ytalbiieagcandaa
open Go.RowKit

set_option maxRecDepth 100000 in
theorem bytes_any (A A' : Option Addr) (cap cap' : Nat) (bs bs' : List UInt8) (w : World) (h : Bs w A cap bs) (h' : Bs w A' cap' bs') :
    Calls Try.prog 16 #[.slice A bs.length cap, .slice A' bs'.length cap'] w fun e w' => e = .returned (.bool (decide (bs = bs'))) ∧ w = w' := by
  have g1 := run_string_bytes (P := Try.prog) h Try.underlying29 Try.underlying5 Try.underlying9
  have g2 := run_string_bytes (P := Try.prog) h' Try.underlying29 Try.underlying5 Try.underlying9
  go_enter Try.func16, Try.ntmps16
  go_wp2
  go_ret
  exact ⟨congrArg (fun b => Ending.returned (.bool b)) (strOf_beq bs bs'), rfl⟩
theorem bytes_n (A A' : Option Addr) (n n' cap cap' : Nat) (bs bs' : List UInt8) (w : World) (hn : n = bs.length) (hn' : n' = bs'.length) (h : Bs w A cap bs) (h' : Bs w A' cap' bs') :
    Calls Try.prog 16 #[.slice A n cap, .slice A' n' cap'] w fun e w' => e = .returned (.bool (decide (bs = bs'))) ∧ w = w' := by
  subst hn hn'; exact bytes_any A A' cap cap' bs bs' w h h'
end Go.Proofs.Ytalbiieagcandaa

/- tag.Right: what it returns, for every input; the world is as it was. -/
namespace Go.Proofs.Ytalbiieagcandaa
open Go.RowKit
set_option linter.unusedVariables false
set_option maxRecDepth 100000

theorem numbered_any (n : Int) (w : World) :
    Calls Try.prog 36 #[.int .i64 n] w fun e w' => e = .returned (.bool (numOk n)) ∧ w = w' := by
  by_cases h1 : 1 ≤ n
  · have HF : Hid (decide (n ≤ 536870911) = numOk n) := by show _ = _; simp [numOk, h1]
    have g1 : decide (1 ≤ n) = true := decide_eq_true h1
    go_enter Try.func36, Try.ntmps36
    go_wp2
    go_ret
    exact ⟨ret_bool' HF.out, rfl⟩
  · have HF : Hid (false = numOk n) := by show _ = _; simp [numOk, h1]
    have g1 : decide (1 ≤ n) = false := decide_eq_false h1
    go_enter Try.func36, Try.ntmps36
    go_wp2
    go_ret
    exact ⟨ret_bool' HF.out, rfl⟩
theorem known_any (t : Int) (w : World) :
    Calls Try.prog 37 #[.int .i64 t] w fun e w' => e = .returned (.bool (isWire t)) ∧ w = w' := by
  go_enter Try.func37, Try.ntmps37
  go_wp2
  all_goals go_ret
  all_goals exact ⟨ret_bool' (by simp only [isWire, *, Bool.true_or, Bool.or_true, Bool.or_false]), rfl⟩
theorem right_any (n t : Int) (w : World) :
    Calls Try.prog 21 #[.int .i64 n, .int .i64 t] w fun e w' => e = .returned (.bool (rightB n t)) ∧ w = w' := by
  have H1 := Lib.hid (fun w => numbered_any n w)
  have H2 := Lib.hid (fun w => known_any t w)
  have HF : Hid (rightB n t = (numOk n && isWire t)) := rfl
  generalize rightB n t = r at *
  generalize numOk n = p at *
  generalize isWire t = q at *
  cases p
  all_goals
    go_enter Try.func21, Try.ntmps21
    go_wp2_with (first
      | (go_at_call 36; refine (H1.out _).mono ?_; rintro e w' ⟨rfl, rfl⟩)
      | (go_at_call 37; refine (H2.out _).mono ?_; rintro e w' ⟨rfl, rfl⟩))
    go_ret
    exact ⟨ret_bool' (by rw [HF.out]; rfl), rfl⟩
end Go.Proofs.Ytalbiieagcandaa

/- tag.Of: what it returns, for every input; the world is as it was. -/
namespace Go.Proofs.Ytalbiieagcandaa
open Go.RowKit
set_option linter.unusedVariables false
set_option maxRecDepth 100000

theorem of_any (n t : Int) (w : World) :
    Calls Try.prog 72 #[.int .i64 n, .int .i64 t] w fun e w' => e = .returned (.tuple #[.int .u64 (tagN n t : Int), .bool (rightB n t)]) ∧ w = w' := by
  have H1 := Lib.hid (fun w => right_any n t w)
  cases hr : rightB n t with
  | false =>
    have HT : Hid (tagN n t = 0) := by show _ = _; rw [tagN, hr, if_neg (by simp)]
    rw [hr] at H1
    clear hr
    go_enter Try.func72, Try.ntmps72
    go_wp2_with (refine (H1.out _).mono ?_; rintro e w' ⟨rfl, rfl⟩)
    go_ret2
    exact ⟨by rw [HT.out]; rfl, rfl⟩
  | true =>
    have HT : Hid (tagN n t = (8 * n + t).toNat) := by show _ = _; rw [tagN, hr, if_pos rfl]
    rw [hr] at H1
    rw [rightB_iff] at hr
    have hn : 1 ≤ n ∧ n ≤ 536870911 := hr.1
    have ht : 0 ≤ t ∧ t ≤ 5 := by omega
    have e8 : 8 * n + t = ((8 * n + t).toNat : Int) := by omega
    have HE := Lib.hid e8
    clear hr e8
    go_enter Try.func72, Try.ntmps72
    go_wp2_with (refine (H1.out _).mono ?_; rintro e w' ⟨rfl, rfl⟩)
    go_ret2
    exact ⟨by rw [HT.out, ← HE.out]; rfl, rfl⟩

end Go.Proofs.Ytalbiieagcandaa

/- The document's Right: what it returns, for every input; the world is as it was. -/
namespace Go.Proofs.Ytalbiieagcandaa
open Go.RowKit
set_option linter.unusedVariables false
set_option maxRecDepth 100000

theorem rright_any (n t : Int) (w : World) :
    Calls Try.prog 22 #[.int .i64 n, .int .i64 t] w fun e w' => e = .returned (.bool (rightB n t)) ∧ w = w' := by
  by_cases h1 : 1 ≤ n
  · have g1 : decide (1 ≤ n) = true := decide_eq_true h1
    by_cases h2 : n ≤ 536870911
    · have g2 : decide (n ≤ 536870911) = true := decide_eq_true h2
      have HF : Hid (rightB n t = (t == 0 || (t == 1 || (t == 2 || t == 5)))) := by show _ = _; simp [rightB, numOk, h1, h2, isWire]
      cases e0 : (t == 0) <;> cases e1 : (t == 1) <;> cases e2 : (t == 2)
      all_goals rw [e0, e1, e2] at HF
      all_goals
        go_enter Try.func22, Try.ntmps22
        go_wp2
        go_ret
        exact ⟨ret_bool' (by rw [HF.out]; simp only [Bool.true_or, Bool.or_true, Bool.false_or]), rfl⟩
    · have g2 : decide (n ≤ 536870911) = false := decide_eq_false h2
      have HF : Hid (rightB n t = false) := by show _ = _; simp [rightB, numOk, h2]
      go_enter Try.func22, Try.ntmps22
      go_wp2
      go_ret
      exact ⟨ret_bool' HF.out.symm, rfl⟩
  · have g1 : decide (1 ≤ n) = false := decide_eq_false h1
    have HF : Hid (rightB n t = false) := by show _ = _; simp [rightB, numOk, h1]
    go_enter Try.func22, Try.ntmps22
    go_wp2
    go_ret
    exact ⟨ret_bool' HF.out.symm, rfl⟩
end Go.Proofs.Ytalbiieagcandaa

/- The document's Of: what it returns, for every input that is right; the world is as it was. -/
namespace Go.Proofs.Ytalbiieagcandaa
open Go.RowKit
set_option linter.unusedVariables false
set_option maxRecDepth 100000

theorem rof_any (n t : Int) (w : World) (hr : rightB n t = true) :
    Calls Try.prog 66 #[.int .i64 n, .int .i64 t] w fun e w' => e = .returned (.int .u64 (tagN n t : Int)) ∧ w = w' := by
  have HT : Hid (tagN n t = (8 * n + t).toNat) := by show _ = _; rw [tagN, hr, if_pos rfl]
  rw [rightB_iff] at hr
  have hn : 1 ≤ n ∧ n ≤ 536870911 := hr.1
  have ht : 0 ≤ t ∧ t ≤ 5 := by omega
  have e8 : 8 * n + t = ((8 * n + t).toNat : Int) := by omega
  have HE := Lib.hid e8
  clear hr e8
  go_enter Try.func66, Try.ntmps66
  go_wp2
  go_ret
  exact ⟨ret_int' (by rw [HT.out, ← HE.out]), rfl⟩

end Go.Proofs.Ytalbiieagcandaa

/- The document's Split: what it returns, for every input; the world is as it was. -/
namespace Go.Proofs.Ytalbiieagcandaa
open Go.RowKit
set_option linter.unusedVariables false
set_option maxRecDepth 100000

theorem rsplit_any (u : Nat) (w : World) (h : u < 18446744073709551616) :
    Calls Try.prog 67 #[.int .u64 (u : Int)] w fun e w' => e = .returned (.tuple #[.int .i64 (splitN u : Int), .int .i64 (splitW u : Int), .bool (splitOk u)]) ∧ w = w' := by
  obtain ⟨n, hn⟩ : ∃ n, n = u / 8 := ⟨_, rfl⟩
  obtain ⟨t, ht⟩ : ∃ t, t = u % 8 := ⟨_, rfl⟩
  have e1 : (u : Int) / 8 = (n : Int) := by omega
  have e2 : (u : Int) % 8 = (t : Int) := by omega
  have hn2 : n < 2305843009213693952 := by omega
  have ht2 : t < 8 := by omega
  have H1 : Hid (∀ w, Calls Try.prog 22 #[.int .i64 (n : Int), .int .i64 (t : Int)] w fun e w' => e = .returned (.bool (splitOk u)) ∧ w = w') := by
    show ∀ w, _; intro w; rw [splitOk, ← hn, ← ht]; exact rright_any n t w
  have HN : Hid (splitN u = if splitOk u = true then n else 0) := by show _ = _; rw [splitN, ← hn]
  have HW : Hid (splitW u = if splitOk u = true then t else 0) := by show _ = _; rw [splitW, ← ht]
  have HO : Hid (536870911 < n → splitOk u = false) := by
    show _ → _; intro hm; rw [← Bool.not_eq_true]; intro hc; rw [splitOk, rightB_iff] at hc; omega
  clear hn ht
  generalize splitOk u = ok at *
  generalize splitN u = sn at *
  generalize splitW u = sw at *
  by_cases hm : n ≤ 536870911
  · have g1 : decide ((536870911 : Int) < (n : Int)) = false := decide_eq_false (by omega)
    cases ok
    all_goals
      go_enter Try.func67, Try.ntmps67
      go_wp2_with (refine (H1.out _).mono ?_; rintro e w' ⟨rfl, rfl⟩)
      go_ret3
      exact ⟨by rw [HN.out, HW.out]; rfl, rfl⟩
  · have g1 : decide ((536870911 : Int) < (n : Int)) = true := decide_eq_true (by omega)
    obtain rfl := HO.out (by omega)
    go_enter Try.func67, Try.ntmps67
    go_wp2
    go_ret3
    exact ⟨by rw [HN.out, HW.out]; rfl, rfl⟩
end Go.Proofs.Ytalbiieagcandaa

/- tag.Split: what it returns, for every input; the world is as it was. -/
namespace Go.Proofs.Ytalbiieagcandaa
open Go.RowKit
set_option linter.unusedVariables false
set_option maxRecDepth 100000

theorem split_any (u : Nat) (w : World) (h : u < 18446744073709551616) :
    Calls Try.prog 80 #[.int .u64 (u : Int)] w fun e w' => e = .returned (.tuple #[.int .i64 (splitN u : Int), .int .i64 (splitW u : Int), .bool (splitOk u)]) ∧ w = w' := by
  obtain ⟨n, hn⟩ : ∃ n, n = u / 8 := ⟨_, rfl⟩
  obtain ⟨t, ht⟩ : ∃ t, t = u % 8 := ⟨_, rfl⟩
  have e1 : (u : Int) / 8 = (n : Int) := by omega
  have e2 : (u : Int) % 8 = (t : Int) := by omega
  have hn2 : n < 2305843009213693952 := by omega
  have ht2 : t < 8 := by omega
  have H1 : Hid (∀ w, Calls Try.prog 21 #[.int .i64 (n : Int), .int .i64 (t : Int)] w fun e w' => e = .returned (.bool (splitOk u)) ∧ w = w') := by
    show ∀ w, _; intro w; rw [splitOk, ← hn, ← ht]; exact right_any n t w
  have HN : Hid (splitN u = if splitOk u = true then n else 0) := by show _ = _; rw [splitN, ← hn]
  have HW : Hid (splitW u = if splitOk u = true then t else 0) := by show _ = _; rw [splitW, ← ht]
  have HO : Hid (536870911 < n → splitOk u = false) := by
    show _ → _; intro hm; rw [← Bool.not_eq_true]; intro hc; rw [splitOk, rightB_iff] at hc; omega
  clear hn ht
  generalize splitOk u = ok at *
  generalize splitN u = sn at *
  generalize splitW u = sw at *
  by_cases hm : n ≤ 536870911
  · have g1 : decide ((536870911 : Int) < (n : Int)) = false := decide_eq_false (by omega)
    cases ok
    all_goals
      go_enter Try.func80, Try.ntmps80
      go_wp2_with (refine (H1.out _).mono ?_; rintro e w' ⟨rfl, rfl⟩)
      go_ret3
      exact ⟨by rw [HN.out, HW.out]; rfl, rfl⟩
  · have g1 : decide ((536870911 : Int) < (n : Int)) = true := decide_eq_true (by omega)
    obtain rfl := HO.out (by omega)
    go_enter Try.func80, Try.ntmps80
    go_wp2
    go_ret3
    exact ⟨by rw [HN.out, HW.out]; rfl, rfl⟩
end Go.Proofs.Ytalbiieagcandaa

/- tag.Right, tag.Split and the document's answer (no theorem of its own). -/
