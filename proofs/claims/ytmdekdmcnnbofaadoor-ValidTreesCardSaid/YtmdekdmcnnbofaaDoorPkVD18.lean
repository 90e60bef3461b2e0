/- Several texts in one: LexMath, LexNum, RlF. What each proves, and its conditions, stands at its own head. -/
import Derived.Test.YtmdekdmcnnbofaaDoorPkVD10
import Derived.Test.YtmdekdmcnnbofaaDoorPkVD17
import Derived.Test.YtmdekdmcnnbofaaDoorPkVD3
import Derived.Test.YtmdekdmcnnbofaaDoorChecked
import Derived.Test.YtmdekdmcnnbofaaDoorPkVD0
import Derived.WalkKit
import Derived.RowKitTokens
import Derived.OwnWalk
import Derived.IntWalk
import Derived.Deep.LoopGhost
/- Layer 10 in plain words (no program here): what is passed over, how long a name is, digits, quotes, numbers, texts, tokens. -/
namespace Go.Proofs.YtmdekdmcnnbofaaDoor
set_option linter.unusedVariables false

def digitB (c : UInt8) : Bool := decide (48 ≤ c.toNat) && decide (c.toNat ≤ 57)
/-- A number's digits. -/
def decOf (n : Nat) : List UInt8 := if h : n = 0 then [] else decOf (n / 10) ++ [(48 + n % 10).toUInt8]
termination_by n
decreasing_by omega
def digitsT (n : Nat) (neg : Bool) : List UInt8 := if n = 0 then [48] else if neg = true then 45 :: decOf n else decOf n
theorem drop_get {t : List UInt8} {n : Nat} {c : UInt8} (h : t[n]? = some c) : t.drop n = c :: t.drop (n + 1) := by
  obtain ⟨h1, rfl⟩ := List.getElem?_eq_some_iff.mp h
  exact List.drop_eq_getElem_cons h1
end Go.Proofs.YtmdekdmcnnbofaaDoor

/- Layer 10 in plain words (no program here): the number that a text begins with. -/
namespace Go.Proofs.YtmdekdmcnnbofaaDoor
set_option linter.unusedVariables false

def digs (t : List UInt8) : List UInt8 := t.takeWhile digitB
def valOf (acc : Nat) (l : List UInt8) : Nat := l.foldl (fun a c => 10 * a + (c.toNat - 48)) acc
theorem valOf_append (a b : List UInt8) (acc : Nat) : valOf acc (a ++ b) = valOf (valOf acc a) b := List.foldl_append ..
theorem valOf_cons (acc : Nat) (c : UInt8) (r : List UInt8) : valOf acc (c :: r) = valOf (10 * acc + (c.toNat - 48)) r := by unfold valOf; rw [List.foldl_cons]
theorem valOf_ge : ∀ (a : List UInt8) (acc : Nat), acc ≤ valOf acc a
  | [], acc => Nat.le_refl _
  | c :: a, acc => by have := valOf_ge a (10 * acc + (c.toNat - 48)); rw [valOf_cons]; omega
def numNeg (t : List UInt8) : Bool := match t with
  | [] => false
  | c :: _ => decide (c.toNat = 45)
def numFrom (t : List UInt8) : Nat := if numNeg t = true then 1 else 0
def numDs (t : List UInt8) : List UInt8 := digs (t.drop (numFrom t))
def numV (t : List UInt8) : Nat := valOf 0 (numDs t)
def numI (t : List UInt8) : Nat := numFrom t + (numDs t).length
/-- Is none there? -/
def numBad (t : List UInt8) : Bool := decide (numDs t = []) || (decide (18446744073709551616 ≤ numV t) || (decide (digitsT (numV t) (numNeg t) ≠ t.take (numI t)) || (numNeg t && decide (9223372036854775808 < numV t))))
def numT (t : List UInt8) : Nat × Bool × Nat := if numBad t = true then (0, false, 0) else (numV t, numNeg t, numI t)
theorem digs_cons_yes {c : UInt8} {r : List UInt8} (h : digitB c = true) : digs (c :: r) = c :: digs r := by unfold digs; rw [List.takeWhile_cons_of_pos h]
/-- So many digits were read. -/
structure NumAt (t pre : List UInt8) (i n : Nat) : Prop where
  ds : numDs t = pre ++ digs (t.drop i)
  i_ : i = numFrom t + pre.length
  n_ : n = valOf 0 pre
  lt : n < 18446744073709551616
  le : i ≤ t.length
section
variable {t pre : List UInt8} {i n : Nat} {c : UInt8}
theorem NumAt.step (h : NumAt t pre i n) (hc : t[i]? = some c) (hd : digitB c = true) (hn : 10 * n + (c.toNat - 48) < 18446744073709551616) : NumAt t (pre ++ [c]) (i + 1) (10 * n + (c.toNat - 48)) := by
  refine ⟨?_, by rw [h.i_, List.length_append]; rfl, by rw [valOf_append, ← h.n_, valOf_cons]; unfold valOf; rw [List.foldl_nil], hn, (List.getElem?_eq_some_iff.mp hc).1⟩
  rw [h.ds, drop_get hc, digs_cons_yes hd, List.append_assoc]
  rfl
theorem NumAt.over (h : NumAt t pre i n) (hc : t[i]? = some c) (hd : digitB c = true) (hn : 18446744073709551616 ≤ 10 * n + (c.toNat - 48)) : numT t = (0, false, 0) := by
  unfold numT
  rw [if_pos]
  have h1 : 18446744073709551616 ≤ numV t := by
    unfold numV
    rw [h.ds, drop_get hc, digs_cons_yes hd, valOf_append, valOf_cons, ← h.n_]
    exact Nat.le_trans hn (valOf_ge _ _)
  unfold numBad
  rw [decide_eq_true h1]
  simp
theorem NumAt.stop (h : NumAt t pre i n) (hs : digs (t.drop i) = []) : numDs t = pre ∧ numV t = n ∧ numI t = i := by
  have e : numDs t = pre := by rw [h.ds, hs, List.append_nil]
  exact ⟨e, by unfold numV; rw [e, h.n_], by unfold numI; rw [e, h.i_]⟩
theorem NumAt.first (h : NumAt t pre i n) (hs : digs (t.drop i) = []) (he : i = numFrom t) : numT t = (0, false, 0) := by
  have e := (h.stop hs).1
  have : pre = [] := List.eq_nil_of_length_eq_zero (by have := h.i_; omega)
  unfold numT
  rw [if_pos]
  unfold numBad
  rw [e, this]
  simp
end
end Go.Proofs.YtmdekdmcnnbofaaDoor

/- The document's token that a text begins with. Conditions: what number answers; those that each theorem names. -/
namespace Go.Proofs.YtmdekdmcnnbofaaDoor
open Go.RowKit
set_option linter.unusedVariables false
set_option maxRecDepth 100000

structure Tk where
  kind : Int
  s : List UInt8
  n : Nat
  neg : Bool
  pos : Nat
end Go.Proofs.YtmdekdmcnnbofaaDoor
