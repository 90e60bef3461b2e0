/- Layer 10 in plain words (no program here): the number that a text begins with. -/
import Derived.Test.YtnbjpeefndcheaaDoorLexMath
namespace Go.Proofs.YtnbjpeefndcheaaDoor
set_option linter.unusedVariables false

def digs (t : List UInt8) : List UInt8 := t.takeWhile digitB
def valOf (acc : Nat) (l : List UInt8) : Nat := l.foldl (fun a c => 10 * a + (c.toNat - 48)) acc
theorem valOf_append (a b : List UInt8) (acc : Nat) : valOf acc (a ++ b) = valOf (valOf acc a) b := List.foldl_append ..
theorem valOf_cons (acc : Nat) (c : UInt8) (r : List UInt8) : valOf acc (c :: r) = valOf (10 * acc + (c.toNat - 48)) r := by unfold valOf; rw [List.foldl_cons]
theorem valOf_ge : ∀ (a : List UInt8) (acc : Nat), acc ≤ valOf acc a
  | [], acc => Nat.le_refl _
  | c :: a, acc => by have := valOf_ge a (10 * acc + (c.toNat - 48)); rw [valOf_cons]; omega
def numNeg (t : List UInt8) : Bool := match t with
  | [] => false
  | c :: _ => decide (c.toNat = 45)
def numFrom (t : List UInt8) : Nat := if numNeg t = true then 1 else 0
def numDs (t : List UInt8) : List UInt8 := digs (t.drop (numFrom t))
def numV (t : List UInt8) : Nat := valOf 0 (numDs t)
def numI (t : List UInt8) : Nat := numFrom t + (numDs t).length
/-- Is none there? -/
def numBad (t : List UInt8) : Bool := decide (numDs t = []) || (decide (18446744073709551616 ≤ numV t) || (decide (digitsT (numV t) (numNeg t) ≠ t.take (numI t)) || (numNeg t && decide (9223372036854775808 < numV t))))
def numT (t : List UInt8) : Nat × Bool × Nat := if numBad t = true then (0, false, 0) else (numV t, numNeg t, numI t)
theorem digs_le (t : List UInt8) : (digs t).length ≤ t.length := (List.takeWhile_prefix _).length_le
theorem numFrom_le (t : List UInt8) : numFrom t ≤ t.length := by
  unfold numFrom numNeg
  cases t with
  | nil => simp
  | cons c r =>
    show (if decide (c.toNat = 45) = true then 1 else 0) ≤ r.length + 1
    split <;> omega
theorem numI_le (t : List UInt8) : numI t ≤ t.length := by
  unfold numI numDs
  have h1 := digs_le (t.drop (numFrom t))
  have h2 := numFrom_le t
  rw [List.length_drop] at h1
  omega
theorem numT_le (t : List UInt8) : (numT t).2.2 ≤ t.length := by
  unfold numT
  split
  · exact Nat.zero_le _
  · exact numI_le t
theorem numT_lt (t : List UInt8) : (numT t).1 < 18446744073709551616 := by
  unfold numT
  split
  · exact (by decide : (0 : Nat) < 18446744073709551616)
  · rename_i h
    show numV t < _
    rcases Nat.lt_or_ge (numV t) 18446744073709551616 with h1 | h1
    · exact h1
    · exact absurd (by unfold numBad; rw [decide_eq_true h1]; simp) h
theorem digs_cons_yes {c : UInt8} {r : List UInt8} (h : digitB c = true) : digs (c :: r) = c :: digs r := by unfold digs; rw [List.takeWhile_cons_of_pos h]
theorem digs_cons_no {c : UInt8} {r : List UInt8} (h : digitB c = false) : digs (c :: r) = [] := by unfold digs; rw [List.takeWhile_cons_of_neg (by simp [h])]
theorem digitB_iff (c : UInt8) : digitB c = true ↔ 48 ≤ c.toNat ∧ c.toNat ≤ 57 := by unfold digitB; simp
/-- So many digits were read. -/
structure NumAt (t pre : List UInt8) (i n : Nat) : Prop where
  ds : numDs t = pre ++ digs (t.drop i)
  i_ : i = numFrom t + pre.length
  n_ : n = valOf 0 pre
  lt : n < 18446744073709551616
  le : i ≤ t.length
theorem numAt_start (t : List UInt8) : NumAt t [] (numFrom t) 0 := ⟨rfl, rfl, rfl, by omega, numFrom_le t⟩
section
variable {t pre : List UInt8} {i n : Nat} {c : UInt8}
theorem NumAt.step (h : NumAt t pre i n) (hc : t[i]? = some c) (hd : digitB c = true) (hn : 10 * n + (c.toNat - 48) < 18446744073709551616) : NumAt t (pre ++ [c]) (i + 1) (10 * n + (c.toNat - 48)) := by
  refine ⟨?_, by rw [h.i_, List.length_append]; rfl, by rw [valOf_append, ← h.n_, valOf_cons]; unfold valOf; rw [List.foldl_nil], hn, (List.getElem?_eq_some_iff.mp hc).1⟩
  rw [h.ds, drop_get hc, digs_cons_yes hd, List.append_assoc]
  rfl
theorem NumAt.over (h : NumAt t pre i n) (hc : t[i]? = some c) (hd : digitB c = true) (hn : 18446744073709551616 ≤ 10 * n + (c.toNat - 48)) : numT t = (0, false, 0) := by
  unfold numT
  rw [if_pos]
  have h1 : 18446744073709551616 ≤ numV t := by
    unfold numV
    rw [h.ds, drop_get hc, digs_cons_yes hd, valOf_append, valOf_cons, ← h.n_]
    exact Nat.le_trans hn (valOf_ge _ _)
  unfold numBad
  rw [decide_eq_true h1]
  simp
theorem NumAt.stop (h : NumAt t pre i n) (hs : digs (t.drop i) = []) : numDs t = pre ∧ numV t = n ∧ numI t = i := by
  have e : numDs t = pre := by rw [h.ds, hs, List.append_nil]
  exact ⟨e, by unfold numV; rw [e, h.n_], by unfold numI; rw [e, h.i_]⟩
theorem NumAt.stop_no (h : NumAt t pre i n) (hc : t[i]? = some c) (hd : digitB c = false) : digs (t.drop i) = [] := by rw [drop_get hc, digs_cons_no hd]
theorem NumAt.stop_end (h : NumAt t pre i n) (hc : ¬ i < t.length) : digs (t.drop i) = [] := by rw [List.drop_of_length_le (by omega)]; rfl
theorem NumAt.first (h : NumAt t pre i n) (hs : digs (t.drop i) = []) (he : i = numFrom t) : numT t = (0, false, 0) := by
  have e := (h.stop hs).1
  have : pre = [] := List.eq_nil_of_length_eq_zero (by have := h.i_; omega)
  unfold numT
  rw [if_pos]
  unfold numBad
  rw [e, this]
  simp
theorem NumAt.end_ (h : NumAt t pre i n) (hs : digs (t.drop i) = []) (he : i ≠ numFrom t) : numT t = if (decide (digitsT n (numNeg t) ≠ t.take i) || (numNeg t && decide (9223372036854775808 < n))) = true then (0, false, 0) else (n, numNeg t, i) := by
  obtain ⟨e1, e2, e3⟩ := h.stop hs
  have hp : pre ≠ [] := fun e => he (by have := h.i_; rw [e] at this; simpa using this)
  unfold numT numBad
  rw [e1, e2, e3, decide_eq_false hp, decide_eq_false (Nat.not_le.mpr h.lt), Bool.false_or, Bool.false_or]
end
end Go.Proofs.YtnbjpeefndcheaaDoor
