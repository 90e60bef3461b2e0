/- Several texts in one: RiC, LexMath, LexNum, RlF, FlMath, SchMath, FdMath, LessMath. What each proves, and its conditions, stands at its own head. -/
import Derived.Test.YtpfdnggacpehdaaGreatDoorPkDU3
import Derived.Test.YtpfdnggacpehdaaGreatDoorPkDU14
import Derived.Test.YtpfdnggacpehdaaGreatDoorPkDU2
import Derived.Test.YtpfdnggacpehdaaGreatDoorPkDU0
import Derived.IntWalk
import Derived.Deep.LoopGhost
import Derived.Test.YtpfdnggacpehdaaGreatDoorPkDU4
/- The document's names: Letter, words, Right. Conditions: those that each theorem names. -/
namespace Go.Proofs.YtpfdnggacpehdaaGreatDoor
open Go.RowKit
set_option linter.unusedVariables false
set_option maxRecDepth 100000

def letterB (c : UInt8) : Bool := (decide (97 ≤ c.toNat) && decide (c.toNat ≤ 122)) || (decide (65 ≤ c.toNat) && decide (c.toNat ≤ 90))
def charB (c : UInt8) : Bool := letterB c || (decide (48 ≤ c.toNat) && decide (c.toNat ≤ 57)) || decide (c.toNat = 95)
/-- The words that are no names. -/
def wordsL : List (List UInt8) := [[101, 110, 117, 109], [109, 101, 115, 115, 97, 103, 101], [111, 110, 101, 111, 102], [114, 101, 112, 101, 97, 116, 101, 100], [114, 101, 115, 101, 114, 118, 101, 100], [108, 111, 111, 115, 101], [105, 110, 116, 51, 50], [105, 110, 116, 54, 52], [117, 105, 110, 116, 51, 50], [117, 105, 110, 116, 54, 52], [115, 105, 110, 116, 51, 50], [115, 105, 110, 116, 54, 52], [98, 111, 111, 108], [102, 105, 120, 101, 100, 51, 50], [102, 105, 120, 101, 100, 54, 52], [115, 102, 105, 120, 101, 100, 51, 50], [115, 102, 105, 120, 101, 100, 54, 52], [115, 116, 114, 105, 110, 103], [98, 121, 116, 101, 115], [114, 101, 110, 97, 109, 101], [114, 101, 110, 117, 109, 98, 101, 114], [114, 101, 116, 121, 112, 101], [115, 112, 108, 105, 116], [106, 111, 105, 110], [119, 114, 97, 112], [117, 110, 119, 114, 97, 112], [97, 100, 100], [100, 114, 111, 112], [116, 111], [105, 110, 116, 111], [97, 115], [111, 102], [100, 101, 102, 97, 117, 108, 116], [116, 114, 117, 101], [102, 97, 108, 115, 101]]
def nameB (t : List UInt8) : Bool := decide (1 ≤ t.length) && decide (t.length ≤ 12) && (match t with | [] => false | c :: _ => letterB c) && t.all charB && !(wordsL.contains t)

end Go.Proofs.YtpfdnggacpehdaaGreatDoor

/- Layer 10 in plain words (no program here): what is passed over, how long a name is, digits, quotes, numbers, texts, tokens. -/
namespace Go.Proofs.YtpfdnggacpehdaaGreatDoor
set_option linter.unusedVariables false

def digitB (c : UInt8) : Bool := decide (48 ≤ c.toNat) && decide (c.toNat ≤ 57)
/-- A number's digits. -/
def decOf (n : Nat) : List UInt8 := if h : n = 0 then [] else decOf (n / 10) ++ [(48 + n % 10).toUInt8]
termination_by n
decreasing_by omega
def digitsT (n : Nat) (neg : Bool) : List UInt8 := if n = 0 then [48] else if neg = true then 45 :: decOf n else decOf n
theorem drop_get {t : List UInt8} {n : Nat} {c : UInt8} (h : t[n]? = some c) : t.drop n = c :: t.drop (n + 1) := by
  obtain ⟨h1, rfl⟩ := List.getElem?_eq_some_iff.mp h
  exact List.drop_eq_getElem_cons h1
end Go.Proofs.YtpfdnggacpehdaaGreatDoor

/- Layer 10 in plain words (no program here): the number that a text begins with. -/
namespace Go.Proofs.YtpfdnggacpehdaaGreatDoor
set_option linter.unusedVariables false

def digs (t : List UInt8) : List UInt8 := t.takeWhile digitB
def valOf (acc : Nat) (l : List UInt8) : Nat := l.foldl (fun a c => 10 * a + (c.toNat - 48)) acc
theorem valOf_append (a b : List UInt8) (acc : Nat) : valOf acc (a ++ b) = valOf (valOf acc a) b := List.foldl_append ..
theorem valOf_cons (acc : Nat) (c : UInt8) (r : List UInt8) : valOf acc (c :: r) = valOf (10 * acc + (c.toNat - 48)) r := by unfold valOf; rw [List.foldl_cons]
theorem valOf_ge : ∀ (a : List UInt8) (acc : Nat), acc ≤ valOf acc a
  | [], acc => Nat.le_refl _
  | c :: a, acc => by have := valOf_ge a (10 * acc + (c.toNat - 48)); rw [valOf_cons]; omega
def numNeg (t : List UInt8) : Bool := match t with
  | [] => false
  | c :: _ => decide (c.toNat = 45)
def numFrom (t : List UInt8) : Nat := if numNeg t = true then 1 else 0
def numDs (t : List UInt8) : List UInt8 := digs (t.drop (numFrom t))
def numV (t : List UInt8) : Nat := valOf 0 (numDs t)
def numI (t : List UInt8) : Nat := numFrom t + (numDs t).length
/-- Is none there? -/
def numBad (t : List UInt8) : Bool := decide (numDs t = []) || (decide (18446744073709551616 ≤ numV t) || (decide (digitsT (numV t) (numNeg t) ≠ t.take (numI t)) || (numNeg t && decide (9223372036854775808 < numV t))))
def numT (t : List UInt8) : Nat × Bool × Nat := if numBad t = true then (0, false, 0) else (numV t, numNeg t, numI t)
theorem digs_cons_yes {c : UInt8} {r : List UInt8} (h : digitB c = true) : digs (c :: r) = c :: digs r := by unfold digs; rw [List.takeWhile_cons_of_pos h]
/-- So many digits were read. -/
structure NumAt (t pre : List UInt8) (i n : Nat) : Prop where
  ds : numDs t = pre ++ digs (t.drop i)
  i_ : i = numFrom t + pre.length
  n_ : n = valOf 0 pre
  lt : n < 18446744073709551616
  le : i ≤ t.length
section
variable {t pre : List UInt8} {i n : Nat} {c : UInt8}
theorem NumAt.step (h : NumAt t pre i n) (hc : t[i]? = some c) (hd : digitB c = true) (hn : 10 * n + (c.toNat - 48) < 18446744073709551616) : NumAt t (pre ++ [c]) (i + 1) (10 * n + (c.toNat - 48)) := by
  refine ⟨?_, by rw [h.i_, List.length_append]; rfl, by rw [valOf_append, ← h.n_, valOf_cons]; unfold valOf; rw [List.foldl_nil], hn, (List.getElem?_eq_some_iff.mp hc).1⟩
  rw [h.ds, drop_get hc, digs_cons_yes hd, List.append_assoc]
  rfl
theorem NumAt.over (h : NumAt t pre i n) (hc : t[i]? = some c) (hd : digitB c = true) (hn : 18446744073709551616 ≤ 10 * n + (c.toNat - 48)) : numT t = (0, false, 0) := by
  unfold numT
  rw [if_pos]
  have h1 : 18446744073709551616 ≤ numV t := by
    unfold numV
    rw [h.ds, drop_get hc, digs_cons_yes hd, valOf_append, valOf_cons, ← h.n_]
    exact Nat.le_trans hn (valOf_ge _ _)
  unfold numBad
  rw [decide_eq_true h1]
  simp
theorem NumAt.stop (h : NumAt t pre i n) (hs : digs (t.drop i) = []) : numDs t = pre ∧ numV t = n ∧ numI t = i := by
  have e : numDs t = pre := by rw [h.ds, hs, List.append_nil]
  exact ⟨e, by unfold numV; rw [e, h.n_], by unfold numI; rw [e, h.i_]⟩
theorem NumAt.first (h : NumAt t pre i n) (hs : digs (t.drop i) = []) (he : i = numFrom t) : numT t = (0, false, 0) := by
  have e := (h.stop hs).1
  have : pre = [] := List.eq_nil_of_length_eq_zero (by have := h.i_; omega)
  unfold numT
  rw [if_pos]
  unfold numBad
  rw [e, this]
  simp
end
end Go.Proofs.YtpfdnggacpehdaaGreatDoor

/- The document's token that a text begins with. Conditions: what number answers; those that each theorem names. -/
namespace Go.Proofs.YtpfdnggacpehdaaGreatDoor
open Go.RowKit
set_option linter.unusedVariables false
set_option maxRecDepth 100000

structure Tk where
  kind : Int
  s : List UInt8
  n : Nat
  neg : Bool
  pos : Nat
end Go.Proofs.YtpfdnggacpehdaaGreatDoor

/- Layer 14 in plain words (no program here): which fields may be, which are packed, which hidden, and their texts. -/
namespace Go.Proofs.YtpfdnggacpehdaaGreatDoor
open Go.RowKit
set_option linter.unusedVariables false

structure Fd where
  name : List UInt8
  num : Int
  ty : Int
  ref : List UInt8
  rep : Bool
  loose : Bool
  one : List UInt8
/-- As a value, and as a datum. -/
def fdV (f : Fd) : Value := .agg #[.string (strOf f.name), .int .i64 f.num, .int .i64 f.ty, .string (strOf f.ref), .bool f.rep, .bool f.loose, .string (strOf f.one)]
def fdD {H : Type} (f : Fd) : DataW H := .agg [.lit (.string f.name), .lit (.int .i64 f.num), .lit (.int .i64 f.ty), .lit (.string f.ref), .lit (.bool f.rep), .lit (.bool f.loose), .lit (.string f.one)]
def fc1 (f : Fd) : Bool := !nameB f.name || (decide (f.one ≠ []) && !nameB f.one)
def fc2 (f : Fd) : Bool := if f.ty = 14 ∨ f.ty = 15 then !nameB f.ref else decide (f.ref ≠ [])
def fc3 (f : Fd) : Bool := !fieldB f.num || (decide (f.ty < 1) || (decide (15 < f.ty) || (f.rep && decide (f.one ≠ []))))
def fc4 (f : Fd) : Bool := f.loose && (!f.rep || !numberT f.ty)
def fcheckT (f : Fd) : Int := if fc1 f = true then 2 else if fc2 f = true then 2 else if fc3 f = true then 1 else if fc4 f = true then 1 else 0
def hiddenT (f : Fd) : Bool := !f.rep && (decide (f.one = []) && decide (f.ty ≠ 15))
/-- What may be. -/
theorem fcheck_ok {f : Fd} (h : fcheckT f = 0) : nameB f.name = true ∧ (f.one = [] ∨ nameB f.one = true) ∧ ((f.ty = 14 ∨ f.ty = 15) ∧ nameB f.ref = true ∨ ¬ (f.ty = 14 ∨ f.ty = 15) ∧ f.ref = []) ∧
    fieldB f.num = true ∧ 1 ≤ f.ty ∧ f.ty ≤ 15 ∧ (f.rep = false ∨ f.one = []) ∧ (f.loose = false ∨ (f.rep = true ∧ numberT f.ty = true)) := by
  unfold fcheckT at h
  by_cases h1 : fc1 f = true
  · rw [if_pos h1] at h; exact absurd h (by decide)
  rw [if_neg h1] at h
  by_cases h2 : fc2 f = true
  · rw [if_pos h2] at h; exact absurd h (by decide)
  rw [if_neg h2] at h
  by_cases h3 : fc3 f = true
  · rw [if_pos h3] at h; exact absurd h (by decide)
  rw [if_neg h3] at h
  by_cases h4 : fc4 f = true
  · rw [if_pos h4] at h; exact absurd h (by decide)
  unfold fc1 at h1
  unfold fc2 at h2
  unfold fc3 at h3
  unfold fc4 at h4
  simp at h1 h3 h4
  refine ⟨h1.1, ?_, ?_, h3.1, by omega, by omega, ?_, ?_⟩
  · by_cases e : f.one = []
    · exact .inl e
    · exact .inr (h1.2 e)
  · by_cases e : f.ty = 14 ∨ f.ty = 15
    · rw [if_pos e] at h2; exact .inl ⟨e, by simpa using h2⟩
    · rw [if_neg e] at h2; exact .inr ⟨e, by simpa using h2⟩
  · cases hr : f.rep
    · exact .inl rfl
    · exact .inr (h3.2.2.2 hr)
  · cases hl : f.loose
    · exact .inl rfl
    · exact .inr (h4 hl)
end Go.Proofs.YtpfdnggacpehdaaGreatDoor

/- Layer 15 in plain words (no program here): schemas, which may be, which are the same. -/
namespace Go.Proofs.YtpfdnggacpehdaaGreatDoor
open Go.RowKit
set_option linter.unusedVariables false

structure Vl where
  name : List UInt8
  num : Int
structure En where
  name : List UInt8
  values : List Vl
structure Ms where
  name : List UInt8
  fields : List Fd
  barred : List Int
structure Sc where
  enums : List En
  msgs : List Ms

def manyE (e : En) : Bool := decide (8 < e.values.length)
def manyM (m : Ms) : Bool := decide (10 < m.fields.length) || decide (8 < m.barred.length)
def manyT (s : Sc) : Bool := ((decide (3 < s.enums.length) || decide (6 < s.msgs.length)) || s.enums.any manyE) || s.msgs.any manyM
def noneE (e : En) : Bool := decide (e.values.length = 0)
def noneT (s : Sc) : Bool := decide (s.msgs.length = 0) || s.enums.any noneE
def badName (t : List UInt8) : Bool := !nameB t
def textV (v : Vl) : Bool := badName v.name
def textE (e : En) : Bool := badName e.name || e.values.any textV
def textM (m : Ms) : Bool := badName m.name
def scTextT (s : Sc) : Bool := s.enums.any textE || s.msgs.any textM
def firstBad : List Fd → Int
  | [] => 0
  | f :: r => if fcheckT f = 0 then firstBad r else fcheckT f
def fieldsOf (s : Sc) : List Fd := s.msgs.flatMap Ms.fields
def fieldsT (s : Sc) : Int := firstBad (fieldsOf s)
def vNames (e : En) : List (List UInt8) := e.values.map Vl.name
def fNames (m : Ms) : List (List UInt8) := m.fields.map Fd.name
def eNames (s : Sc) : List (List UInt8) := s.enums.map En.name
def mNames (s : Sc) : List (List UInt8) := s.msgs.map Ms.name
def twiceE (e : En) : Bool := !onceB (vNames e)
def twiceF (l : List (List UInt8)) (f : Fd) : Bool := !decide (f.one = []) && !onceB (l ++ [f.one])
def twiceM (m : Ms) : Bool := !onceB (fNames m) || m.fields.any (twiceF (fNames m))
def twiceT (s : Sc) : Bool := (s.enums.any twiceE || s.msgs.any twiceM) || !onceB (eNames s ++ mNames s)
def risesB : List Int → Bool
  | a :: b :: r => decide (a < b) && risesB (b :: r)
  | _ => true
def vNums (e : En) : List Int := e.values.map Vl.num
def fNums (m : Ms) : List Int := m.fields.map Fd.num
def lastD (l : List Int) : Int := l.getLastD 0
def orderE (e : En) : Bool := (!risesB (vNums e) || !decide ((vNums e).headD 0 = 0)) || decide (1048576 < lastD (vNums e))
def orderM (m : Ms) : Bool := (!risesB (fNums m) || !risesB m.barred) || (decide (0 < m.barred.length) && (decide (m.barred.headD 0 < 1) || decide (536870911 < lastD m.barred)))
def orderT (s : Sc) : Bool := ((s.enums.any orderE || !riseB (eNames s)) || s.msgs.any orderM) || !riseB ((mNames s).drop 1)
def isInB (l : List Int) (n : Int) : Bool := l.any (fun x => decide (x = n))
def barredM (m : Ms) : Bool := m.fields.any (fun f => isInB m.barred f.num)
def barredT (s : Sc) : Bool := s.msgs.any barredM
def placeT (l : List (List UInt8)) (name : List UInt8) : Int := if name ∈ l then (l.findIdx (fun x => decide (x = name)) : Int) else -1
def messageT (s : Sc) (name : List UInt8) : Int := placeT (mNames s) name
def enumT (s : Sc) (name : List UInt8) : Int := placeT (eNames s) name
def refF (s : Sc) (f : Fd) : Bool := (decide (f.ty = 14) && decide (enumT s f.ref < 0)) || (decide (f.ty = 15) && decide (messageT s f.ref < 0))
def refsM (s : Sc) (m : Ms) : Bool := m.fields.any (refF s)
def refsT (s : Sc) : Bool := s.msgs.any (refsM s)
def checkT (s : Sc) : Int :=
  if manyT s = true then 4 else if noneT s = true then 5 else if scTextT s = true then 2 else if fieldsT s ≠ 0 then fieldsT s else if twiceT s = true then 6 else if orderT s = true then 1 else if barredT s = true then 6 else if refsT s = true then 5 else 0

/-! ### One more -/
theorem any_snoc {α : Type} (l : List α) (p : α → Bool) (i : Nat) (x : α) (h : l[i]? = some x) : (l.take (i + 1)).any p = ((l.take i).any p || p x) := by
  rw [List.take_add_one, h]
  simp
theorem split_take {α : Type} {l : List α} {i : Nat} {x : α} (h : l[i]? = some x) : l.take (i + 1) = l.take i ++ [x] := by rw [List.take_add_one, h]; rfl
end Go.Proofs.YtpfdnggacpehdaaGreatDoor

/- Layer 16 in plain words (no program here): what is where in a schema. -/
namespace Go.Proofs.YtpfdnggacpehdaaGreatDoor
open Go.RowKit
set_option linter.unusedVariables false

def placeZ (l : List Int) (n : Int) : Int := if n ∈ l then (l.findIdx (fun x => decide (x = n)) : Int) else -1
def numAtT (m : Ms) (n : Int) : Int := placeZ (fNums m) n
def inOne (t : List UInt8) (f : Fd) : Bool := !decide (t = []) && decide (f.one = t)
def membersT (m : Ms) (t : List UInt8) : List Int := (m.fields.filter (inOne t)).map Fd.num
theorem members_snoc (l : List Fd) (p : Fd → Bool) (i : Nat) (x : Fd) (h : l[i]? = some x) : ((l.take (i + 1)).filter p).map Fd.num = ((l.take i).filter p).map Fd.num ++ (if p x = true then [x.num] else []) := by
  rw [split_take h, List.filter_append, List.map_append]
  congr 1
  cases hp : p x <;> simp [hp]
end Go.Proofs.YtpfdnggacpehdaaGreatDoor

/- Layer 15 in plain words: a schema without one of its messages may be still, if no field of another names it. Conditions: those that each theorem names. -/
namespace Go.Proofs.YtpfdnggacpehdaaGreatDoor
open Go.RowKit
set_option linter.unusedVariables false

theorem firstBad_zero : ∀ {l : List Fd}, firstBad l = 0 ↔ ∀ f ∈ l, fcheckT f = 0
  | [] => by simp [firstBad]
  | f :: r => by
    rw [firstBad]
    by_cases h : fcheckT f = 0
    · rw [if_pos h, firstBad_zero (l := r)]
      simp [h]
    · rw [if_neg h]
      simp [h]
theorem check_parts {s : Sc} (h : checkT s = 0) : manyT s = false ∧ noneT s = false ∧ scTextT s = false ∧ fieldsT s = 0 ∧ twiceT s = false ∧ orderT s = false ∧ barredT s = false ∧ refsT s = false := by
  unfold checkT at h
  cases h1 : manyT s
  case true => rw [h1, if_pos rfl] at h; omega
  rw [h1, if_neg (by decide)] at h
  cases h2 : noneT s
  case true => rw [h2, if_pos rfl] at h; omega
  rw [h2, if_neg (by decide)] at h
  cases h3 : scTextT s
  case true => rw [h3, if_pos rfl] at h; omega
  rw [h3, if_neg (by decide)] at h
  by_cases h4 : fieldsT s = 0
  case neg => rw [if_pos h4] at h; exact absurd h h4
  rw [if_neg (fun e => e h4)] at h
  cases h5 : twiceT s
  case true => rw [h5, if_pos rfl] at h; omega
  rw [h5, if_neg (by decide)] at h
  cases h6 : orderT s
  case true => rw [h6, if_pos rfl] at h; omega
  rw [h6, if_neg (by decide)] at h
  cases h7 : barredT s
  case true => rw [h7, if_pos rfl] at h; omega
  rw [h7, if_neg (by decide)] at h
  cases h8 : refsT s
  case true => rw [h8, if_pos rfl] at h; omega
  exact ⟨rfl, rfl, rfl, h4, rfl, rfl, rfl, rfl⟩
end Go.Proofs.YtpfdnggacpehdaaGreatDoor
