/- Several texts in one: FlMath, SchMath, LessMath, SchSmall, SmSz, SxM. What each proves, and its conditions, stands at its own head. -/
import Derived.Test.YtcjjphioeneiiaaGreatDoorPkSB11
import Derived.Test.YtcjjphioeneiiaaGreatDoorPkSB14
import Derived.Test.YtcjjphioeneiiaaGreatDoorPkSB0
/- Layer 14 in plain words (no program here): which fields may be, which are packed, which hidden, and their texts. -/
namespace Go.Proofs.YtcjjphioeneiiaaGreatDoor
open Go.RowKit
set_option linter.unusedVariables false

structure Fd where
 name : List UInt8
 num : Int
 ty : Int
 ref : List UInt8
 rep : Bool
 loose : Bool
 one : List UInt8
/-- As a value, and as a datum. -/
def fdV (f : Fd) : Value := .agg #[.string (strOf f.name), .int .i64 f.num, .int .i64 f.ty, .string (strOf f.ref), .bool f.rep, .bool f.loose, .string (strOf f.one)]
def fc1 (f : Fd) : Bool := !nameB f.name || (decide (f.one ≠ []) && !nameB f.one)
def fc2 (f : Fd) : Bool := if f.ty = 14 ∨ f.ty = 15 then !nameB f.ref else decide (f.ref ≠ [])
def fc3 (f : Fd) : Bool := !fieldB f.num || (decide (f.ty < 1) || (decide (15 < f.ty) || (f.rep && decide (f.one ≠ []))))
def fc4 (f : Fd) : Bool := f.loose && (!f.rep || !numberT f.ty)
def fcheckT (f : Fd) : Int := if fc1 f = true then 2 else if fc2 f = true then 2 else if fc3 f = true then 1 else if fc4 f = true then 1 else 0
def ftextB (f : Fd) : List UInt8 := wordT f.ty ++ f.ref ++ [32] ++ f.name ++ [32, 61, 32] ++ digitsT f.num.toNat false ++ [59]
def ftextT (f : Fd) : List UInt8 :=
 if fcheckT f = 0 then (if f.loose = true then [108, 111, 111, 115, 101, 32] ++ ftextB f else if f.rep = true then [114, 101, 112, 101, 97, 116, 101, 100, 32] ++ ftextB f else ftextB f) else []

/-- What may be. -/
theorem fcheck_ok {f : Fd} (h : fcheckT f = 0) : nameB f.name = true ∧ (f.one = [] ∨ nameB f.one = true) ∧ ((f.ty = 14 ∨ f.ty = 15) ∧ nameB f.ref = true ∨ ¬ (f.ty = 14 ∨ f.ty = 15) ∧ f.ref = []) ∧
 fieldB f.num = true ∧ 1 ≤ f.ty ∧ f.ty ≤ 15 ∧ (f.rep = false ∨ f.one = []) ∧ (f.loose = false ∨ (f.rep = true ∧ numberT f.ty = true)) := by
 unfold fcheckT at h
 by_cases h1 : fc1 f = true
 ·rw [if_pos h1] at h; exact absurd h (by decide)
 rw [if_neg h1] at h
 by_cases h2 : fc2 f = true
 ·rw [if_pos h2] at h; exact absurd h (by decide)
 rw [if_neg h2] at h
 by_cases h3 : fc3 f = true
 ·rw [if_pos h3] at h; exact absurd h (by decide)
 rw [if_neg h3] at h
 by_cases h4 : fc4 f = true
 ·rw [if_pos h4] at h; exact absurd h (by decide)
 unfold fc1 at h1
 unfold fc2 at h2
 unfold fc3 at h3
 unfold fc4 at h4
 simp at h1 h3 h4
 refine ⟨h1.1, ?_, ?_, h3.1, by omega, by omega, ?_, ?_⟩
 ·by_cases e : f.one = []
  ·exact .inl e
  ·exact .inr (h1.2 e)
 ·by_cases e : f.ty = 14 ∨ f.ty = 15
  ·rw [if_pos e] at h2; exact .inl ⟨e, by simpa using h2⟩
  ·rw [if_neg e] at h2; exact .inr ⟨e, by simpa using h2⟩
 ·cases hr : f.rep
  ·exact .inl rfl
  ·exact .inr (h3.2.2.2 hr)
 ·cases hl : f.loose
  ·exact .inl rfl
  ·exact .inr (h4 hl)
end Go.Proofs.YtcjjphioeneiiaaGreatDoor

/- Layer 15 in plain words (no program here): schemas, which may be, which are the same. -/
namespace Go.Proofs.YtcjjphioeneiiaaGreatDoor
open Go.RowKit
set_option linter.unusedVariables false

structure Vl where
 name : List UInt8
 num : Int
structure En where
 name : List UInt8
 values : List Vl
structure Ms where
 name : List UInt8
 fields : List Fd
 barred : List Int
structure Sc where
 enums : List En
 msgs : List Ms

def manyE (e : En) : Bool := decide (8 < e.values.length)
def manyM (m : Ms) : Bool := decide (10 < m.fields.length) || decide (8 < m.barred.length)
def manyT (s : Sc) : Bool := ((decide (3 < s.enums.length) || decide (6 < s.msgs.length)) || s.enums.any manyE) || s.msgs.any manyM
def noneE (e : En) : Bool := decide (e.values.length = 0)
def noneT (s : Sc) : Bool := decide (s.msgs.length = 0) || s.enums.any noneE
def badName (t : List UInt8) : Bool := !nameB t
def textV (v : Vl) : Bool := badName v.name
def textE (e : En) : Bool := badName e.name || e.values.any textV
def textM (m : Ms) : Bool := badName m.name
def scTextT (s : Sc) : Bool := s.enums.any textE || s.msgs.any textM
def firstBad : List Fd → Int
 | [] => 0
 | f :: r => if fcheckT f = 0 then firstBad r else fcheckT f
def fieldsOf (s : Sc) : List Fd := s.msgs.flatMap Ms.fields
def fieldsT (s : Sc) : Int := firstBad (fieldsOf s)
def vNames (e : En) : List (List UInt8) := e.values.map Vl.name
def fNames (m : Ms) : List (List UInt8) := m.fields.map Fd.name
def eNames (s : Sc) : List (List UInt8) := s.enums.map En.name
def mNames (s : Sc) : List (List UInt8) := s.msgs.map Ms.name
def twiceE (e : En) : Bool := !onceB (vNames e)
def twiceF (l : List (List UInt8)) (f : Fd) : Bool := !decide (f.one = []) && !onceB (l ++ [f.one])
def twiceM (m : Ms) : Bool := !onceB (fNames m) || m.fields.any (twiceF (fNames m))
def twiceT (s : Sc) : Bool := (s.enums.any twiceE || s.msgs.any twiceM) || !onceB (eNames s ++ mNames s)
def risesB : List Int → Bool
 | a :: b :: r => decide (a < b) && risesB (b :: r)
 | _ => true
def vNums (e : En) : List Int := e.values.map Vl.num
def fNums (m : Ms) : List Int := m.fields.map Fd.num
def lastD (l : List Int) : Int := l.getLastD 0
def orderE (e : En) : Bool := (!risesB (vNums e) || !decide ((vNums e).headD 0 = 0)) || decide (1048576 < lastD (vNums e))
def orderM (m : Ms) : Bool := (!risesB (fNums m) || !risesB m.barred) || (decide (0 < m.barred.length) && (decide (m.barred.headD 0 < 1) || decide (536870911 < lastD m.barred)))
def orderT (s : Sc) : Bool := ((s.enums.any orderE || !riseB (eNames s)) || s.msgs.any orderM) || !riseB ((mNames s).drop 1)
def isInB (l : List Int) (n : Int) : Bool := l.any (fun x => decide (x = n))
def barredM (m : Ms) : Bool := m.fields.any (fun f => isInB m.barred f.num)
def barredT (s : Sc) : Bool := s.msgs.any barredM
def placeT (l : List (List UInt8)) (name : List UInt8) : Int := if name ∈ l then (l.findIdx (fun x => decide (x = name)) : Int) else -1
def messageT (s : Sc) (name : List UInt8) : Int := placeT (mNames s) name
def enumT (s : Sc) (name : List UInt8) : Int := placeT (eNames s) name
def refF (s : Sc) (f : Fd) : Bool := (decide (f.ty = 14) && decide (enumT s f.ref < 0)) || (decide (f.ty = 15) && decide (messageT s f.ref < 0))
def refsM (s : Sc) (m : Ms) : Bool := m.fields.any (refF s)
def refsT (s : Sc) : Bool := s.msgs.any (refsM s)
def checkT (s : Sc) : Int :=
 if manyT s = true then 4 else if noneT s = true then 5 else if scTextT s = true then 2 else if fieldsT s ≠ 0 then fieldsT s else if twiceT s = true then 6 else if orderT s = true then 1 else if barredT s = true then 6 else if refsT s = true then 5 else 0

/-! ### One more -/
theorem any_snoc {α : Type} (l : List α) (p : α → Bool) (i : Nat) (x : α) (h : l[i]? = some x) : (l.take (i + 1)).any p = ((l.take i).any p || p x) := by
 rw [List.take_add_one, h]
 simp
theorem any_whole {α : Type} (l : List α) (p : α → Bool) (i : Nat) (h : l.length ≤ i) : (l.take i).any p = l.any p := by rw [List.take_of_length_le h]
theorem map_snoc {α β : Type} (l : List α) (f : α → β) (i : Nat) (x : α) (h : l[i]? = some x) : (l.take (i + 1)).map f = (l.take i).map f ++ [f x] := by
 rw [List.take_add_one, h]
 simp
theorem firstBad_append : ∀ (a b : List Fd), firstBad a = 0 → firstBad (a ++ b) = firstBad b
 | [], _, _ => rfl
 | f :: r, b, h => by
   rw [List.cons_append, firstBad]
   rw [firstBad] at h
   by_cases h0 : fcheckT f = 0
   ·rw [if_pos h0] at h ⊢; exact firstBad_append r b h
   ·rw [if_neg h0] at h; exact absurd h h0
theorem firstBad_hit (a : List Fd) (f : Fd) (b : List Fd) (h : firstBad a = 0) (hf : fcheckT f ≠ 0) : firstBad (a ++ f :: b) = fcheckT f := by rw [firstBad_append a _ h, firstBad, if_neg hf]
theorem firstBad_miss (a : List Fd) (f : Fd) (h : firstBad a = 0) (hf : fcheckT f = 0) : firstBad (a ++ [f]) = 0 := by rw [firstBad_append a _ h, firstBad, if_pos hf]; rfl
theorem risesB_iff : ∀ l : List Int, risesB l = true ↔ ∀ (j : Nat) a b, l[j]? = some a → l[j + 1]? = some b → a < b
 | [] => by simp [risesB]
 | [x] => by simp [risesB]
 | x :: y :: r => by
   rw [risesB, Bool.and_eq_true, risesB_iff (y :: r), decide_eq_true_iff]
   constructor
   ·rintro ⟨h1, h2⟩ j a b ha hb
    match j with
    | 0 => simp at ha hb; omega
    | j + 1 => exact h2 j a b (by simpa using ha) (by simpa using hb)
   ·intro h
    exact ⟨h 0 x y rfl rfl, fun j a b ha hb => h (j + 1) a b (by simpa using ha) (by simpa using hb)⟩
theorem risesB_off {l : List Int} {j : Nat} {a b : Int} (ha : l[j]? = some a) (hb : l[j + 1]? = some b) (h : ¬ a < b) : risesB l = false := by
 cases e : risesB l
 ·rfl
 ·exact absurd ((risesB_iff l).1 e j a b ha hb) h
theorem placeT_hit {l : List (List UInt8)} {name : List UInt8} {i : Nat} (h : l[i]? = some name) (hn : ∀ (j : Nat) x, j < i → l[j]? = some x → x ≠ name) : placeT l name = (i : Int) := by
 unfold placeT
 rw [if_pos (List.mem_of_getElem? h)]
 have hi := (List.getElem?_eq_some_iff.mp h).1
 have : l.findIdx (fun x => decide (x = name)) = i := by
  rw [List.findIdx_eq hi]
  refine ⟨decide_eq_true (by have := List.getElem?_eq_getElem hi; rw [h] at this; exact (Option.some.inj this).symm), fun j hj => ?_⟩
  exact decide_eq_false (hn j _ hj (List.getElem?_eq_getElem (by omega)))
 rw [this]
theorem placeT_miss {l : List (List UInt8)} {name : List UInt8} (hn : ∀ (j : Nat) x, l[j]? = some x → x ≠ name) : placeT l name = -1 := by
 unfold placeT
 rw [if_neg]
 intro h
 obtain ⟨j, hj, e⟩ := List.mem_iff_getElem.mp h
 exact hn j _ (List.getElem?_eq_getElem hj) e
theorem split_at {α : Type} {l : List α} {i : Nat} {x : α} (h : l[i]? = some x) : l = l.take i ++ x :: l.drop (i + 1) := by
 have hi := (List.getElem?_eq_some_iff.mp h).1
 have e : l[i] = x := by rw [List.getElem?_eq_getElem hi] at h; exact Option.some.inj h
 conv => lhs; rw [← List.take_append_drop i l]
 rw [List.drop_eq_getElem_cons hi, e]
theorem flat_snoc {α β : Type} (l : List α) (f : α → List β) (i : Nat) (x : α) (h : l[i]? = some x) : (l.take (i + 1)).flatMap f = (l.take i).flatMap f ++ f x := by
 rw [List.take_add_one, h]
 simp
theorem fields_split {s : Sc} {i k : Nat} {m : Ms} {f : Fd} (hm : s.msgs[i]? = some m) (hf : m.fields[k]? = some f) :
 fieldsOf s = ((s.msgs.take i).flatMap Ms.fields ++ m.fields.take k) ++ f :: (m.fields.drop (k + 1) ++ (s.msgs.drop (i + 1)).flatMap Ms.fields) := by
 unfold fieldsOf
 conv => lhs; rw [split_at hm]
 rw [List.flatMap_append, List.flatMap_cons]
 conv => lhs; rw [split_at hf]
 simp
theorem split_take {α : Type} {l : List α} {i : Nat} {x : α} (h : l[i]? = some x) : l.take (i + 1) = l.take i ++ [x] := by rw [List.take_add_one, h]; rfl
/-- Not too many. -/
structure Few (s : Sc) : Prop where
 few_e : s.enums.length ≤ 3
 few_m : s.msgs.length ≤ 6
 few_v : ∀ e ∈ s.enums, e.values.length ≤ 8
 few_f : ∀ m ∈ s.msgs, m.fields.length ≤ 10 ∧ m.barred.length ≤ 8
theorem few_of {s : Sc} (h : manyT s = false) : Few s := by
 unfold manyT at h
 simp only [Bool.or_eq_false_iff, decide_eq_false_iff_not, List.any_eq_false] at h
 obtain ⟨⟨⟨h1, h2⟩, h3⟩, h4⟩ := h
 refine ⟨by omega, by omega, fun e he => ?_, fun m hm => ?_⟩
 ·have := h3 e he; unfold manyE at this; simp at this; exact this
 ·have := h4 m hm; unfold manyM at this; simp at this; exact this
theorem headD_at {l : List Int} {a : Int} (h : l[0]? = some a) : l.headD 0 = a := by
 cases l with
 | nil => simp at h
 | cons x r => simp at h; simpa using h
theorem lastD_at {l : List Int} {a : Int} {k : Nat} (h : l[k]? = some a) (hk : k + 1 = l.length) : lastD l = a := by
 unfold lastD
 rw [List.getLastD_eq_getLast?, List.getLast?_eq_getElem?, show l.length - 1 = k by omega, h]
 rfl
theorem drop1_zero {α : Type} (l : List α) : (l.take (0 + 1)).drop 1 = [] := by
 cases l <;> simp
theorem drop1_snoc {α : Type} {l : List α} {i : Nat} {x : α} (hi : 0 < i) (h : l[i]? = some x) : (l.take (i + 1)).drop 1 = (l.take i).drop 1 ++ [x] := by
 have hl := (List.getElem?_eq_some_iff.mp h).1
 rw [split_take h, List.drop_append_of_le_length (by rw [List.length_take]; omega)]
theorem any_off {α : Type} {l : List α} {p : α → Bool} {i : Nat} {x : α} (h : l[i]? = some x) (hp : p x = true) : l.any p = true := List.any_eq_true.mpr ⟨x, List.mem_of_getElem? h, hp⟩
end Go.Proofs.YtcjjphioeneiiaaGreatDoor

/- Layer 15 in plain words: a schema without one of its messages may be still, if no field of another names it. Conditions: those that each theorem names. -/
namespace Go.Proofs.YtcjjphioeneiiaaGreatDoor
open Go.RowKit
set_option linter.unusedVariables false

theorem firstBad_zero : ∀ {l : List Fd}, firstBad l = 0 ↔ ∀ f ∈ l, fcheckT f = 0
 | [] => by simp [firstBad]
 | f :: r => by
   rw [firstBad]
   by_cases h : fcheckT f = 0
   ·rw [if_pos h, firstBad_zero (l := r)]
    simp [h]
   ·rw [if_neg h]
    simp [h]
theorem placeT_neg {l : List (List UInt8)} {name : List UInt8} : placeT l name < 0 ↔ name ∉ l := by
 unfold placeT
 by_cases h : name ∈ l
 ·rw [if_pos h]
  simp [h]
 ·rw [if_neg h]
  simp [h]
theorem check_parts {s : Sc} (h : checkT s = 0) : manyT s = false ∧ noneT s = false ∧ scTextT s = false ∧ fieldsT s = 0 ∧ twiceT s = false ∧ orderT s = false ∧ barredT s = false ∧ refsT s = false := by
 unfold checkT at h
 cases h1 : manyT s
 case true => rw [h1, if_pos rfl] at h; omega
 rw [h1, if_neg (by decide)] at h
 cases h2 : noneT s
 case true => rw [h2, if_pos rfl] at h; omega
 rw [h2, if_neg (by decide)] at h
 cases h3 : scTextT s
 case true => rw [h3, if_pos rfl] at h; omega
 rw [h3, if_neg (by decide)] at h
 by_cases h4 : fieldsT s = 0
 case neg => rw [if_pos h4] at h; exact absurd h h4
 rw [if_neg (fun e => e h4)] at h
 cases h5 : twiceT s
 case true => rw [h5, if_pos rfl] at h; omega
 rw [h5, if_neg (by decide)] at h
 cases h6 : orderT s
 case true => rw [h6, if_pos rfl] at h; omega
 rw [h6, if_neg (by decide)] at h
 cases h7 : barredT s
 case true => rw [h7, if_pos rfl] at h; omega
 rw [h7, if_neg (by decide)] at h
 cases h8 : refsT s
 case true => rw [h8, if_pos rfl] at h; omega
 exact ⟨rfl, rfl, rfl, h4, rfl, rfl, rfl, rfl⟩
end Go.Proofs.YtcjjphioeneiiaaGreatDoor

/- Which schemas are not too great, in plain words (no program here). -/
namespace Go.Proofs.YtcjjphioeneiiaaGreatDoor
set_option linter.unusedVariables false

def weighE (e : En) : Nat := e.values.length + e.name.length / 10
def weighM (m : Ms) : Nat := m.fields.length + m.barred.length + m.name.length / 10
def weigh (s : Sc) : Nat := (s.enums.length + s.msgs.length) + (s.enums.map weighE).sum + (s.msgs.map weighM).sum
def longV (v : Vl) : Bool := decide (1000 < v.name.length)
def longE (e : En) : Bool := e.values.any longV
def longF (f : Fd) : Bool := decide (1000 < f.name.length) || (decide (1000 < f.ref.length) || decide (1000 < f.one.length))
def longM (m : Ms) : Bool := m.fields.any longF
def smallT (s : Sc) : Bool := decide (weigh s < 200) && (!s.enums.any longE && !s.msgs.any longM)
theorem sum_snoc {α : Type} (l : List α) (f : α → Nat) (i : Nat) (x : α) (h : l[i]? = some x) : ((l.take (i + 1)).map f).sum = ((l.take i).map f).sum + f x := by
 rw [map_snoc l f i x h, List.sum_append]
 simp
theorem sum_take {α : Type} (l : List α) (f : α → Nat) (i : Nat) : ((l.take i).map f).sum ≤ (l.map f).sum := by
 have h : l.map f = (l.take i).map f ++ (l.drop i).map f := by rw [← List.map_append, List.take_append_drop]
 rw [h, List.sum_append]
 omega
theorem small_of {s : Sc} (h1 : weigh s < 200) (h2 : s.enums.any longE = false) (h3 : s.msgs.any longM = false) : smallT s = true := by unfold smallT; rw [decide_eq_true h1, h2, h3]; rfl
theorem small_no {s : Sc} (h : 200 ≤ weigh s) : smallT s = false := by unfold smallT; rw [decide_eq_false (by omega)]; rfl
theorem small_noE {s : Sc} (h : s.enums.any longE = true) : smallT s = false := by unfold smallT; rw [h]; simp
theorem small_noM {s : Sc} (h : s.msgs.any longM = true) : smallT s = false := by unfold smallT; rw [h]; simp
end Go.Proofs.YtcjjphioeneiiaaGreatDoor

/- How many things a schema has that is not too great. Conditions: those that each theorem names. -/
namespace Go.Proofs.YtcjjphioeneiiaaGreatDoor
set_option linter.unusedVariables false

theorem sum_mem {α : Type} {l : List α} {f : α → Nat} {x : α} (h : x ∈ l) : f x ≤ (l.map f).sum := by
 induction l with
 | nil => simp at h
 | cons y l ih =>
   rw [List.map_cons, List.sum_cons]
   rcases List.mem_cons.mp h with rfl | h
   ·omega
   ·have := ih h; omega
theorem small_sizes {s : Sc} (h : smallT s = true) : s.enums.length ≤ 200 ∧ s.msgs.length ≤ 200 ∧ (∀ e ∈ s.enums, e.values.length ≤ 200) ∧ ∀ m ∈ s.msgs, m.fields.length ≤ 200 ∧ m.barred.length ≤ 200 := by
 have hw : weigh s < 200 := by
  unfold smallT at h
  rw [Bool.and_eq_true] at h
  exact of_decide_eq_true h.1
 unfold weigh at hw
 refine ⟨by omega, by omega, fun e he => ?_, fun m hm => ?_⟩
 ·have := sum_mem (f := weighE) he
  unfold weighE at this hw
  omega
 ·have := sum_mem (f := weighM) hm
  unfold weighM at this hw
  omega
end Go.Proofs.YtcjjphioeneiiaaGreatDoor

/- Layer 15 in the code's own words (no program here): the same findings, told otherwise. -/
namespace Go.Proofs.YtcjjphioeneiiaaGreatDoor
open Go.RowKit
set_option linter.unusedVariables false

theorem unnamed_plain (s : Sc) : ((eNames s ++ mNames s) ++ s.enums.flatMap vNames).any badName = scTextT s := by
 unfold scTextT
 rw [Bool.eq_iff_iff]
 simp only [List.any_append, List.any_flatMap, Bool.or_eq_true, List.any_eq_true, eNames, mNames, vNames, List.mem_map, textE, textM, textV]
 constructor
 ·rintro ((⟨_, ⟨e, he, rfl⟩, h⟩ | ⟨_, ⟨m, hm, rfl⟩, h⟩) | ⟨e, he, _, ⟨v, hv, rfl⟩, h⟩)
  ·exact .inl ⟨e, he, .inl h⟩
  ·exact .inr ⟨m, hm, h⟩
  ·exact .inl ⟨e, he, .inr ⟨v, hv, h⟩⟩
 ·rintro (⟨e, he, h | ⟨v, hv, h⟩⟩ | ⟨m, hm, h⟩)
  ·exact .inl (.inl ⟨_, ⟨e, he, rfl⟩, h⟩)
  ·exact .inr ⟨e, he, _, ⟨v, hv, rfl⟩, h⟩
  ·exact .inl (.inr ⟨_, ⟨m, hm, rfl⟩, h⟩)
def hasT (l : List (List UInt8)) (t : List UInt8) : Bool := l.any (fun x => decide (x = t))
theorem hasT_iff (l : List (List UInt8)) (t : List UInt8) : hasT l t = true ↔ t ∈ l := by
 unfold hasT
 simp
def clashM (m : Ms) : Bool := !onceB (fNames m) || m.fields.any (fun f => hasT (fNames m) f.one)
theorem clash_plain {m : Ms} (h : ∀ f ∈ m.fields, f.name ≠ []) : clashM m = twiceM m := by
 unfold clashM twiceM
 cases ho : onceB (fNames m) with
 | false => rfl
 | true =>
   rw [Bool.eq_iff_iff]
   simp only [Bool.not_true, Bool.false_or, List.any_eq_true, twiceF, Bool.and_eq_true, Bool.not_eq_true', decide_eq_false_iff_not]
   have hn := (onceB_iff _).mp ho
   constructor
   ·rintro ⟨f, hf, hx⟩
    have hx := (hasT_iff _ _).mp hx
    refine ⟨f, hf, fun e => ?_, ?_⟩
    ·rw [e] at hx
     obtain ⟨g, hg, e2⟩ := List.mem_map.mp hx
     exact h g hg e2
    ·rw [← Bool.not_eq_true, onceB_iff, List.nodup_append]
     exact fun ⟨_, _, hd⟩ => hd _ hx _ (List.mem_singleton.mpr rfl) rfl
   ·rintro ⟨f, hf, h1, h2⟩
    refine ⟨f, hf, (hasT_iff _ _).mpr ?_⟩
    rw [← Bool.not_eq_true, onceB_iff, List.nodup_append] at h2
    apply Classical.byContradiction
    intro hc
    exact h2 ⟨hn, by simp, fun a ha b hb e => by
     rw [List.mem_singleton] at hb
     subst hb e
     exact hc ha⟩
def outB (n : Int) : Bool := decide (n < 1) || decide (536870911 < n)
def jumbledM (m : Ms) : Bool := (!risesB (fNums m) || !risesB m.barred) || m.barred.any outB
theorem rises_mono : ∀ {l : List Int}, risesB l = true → ∀ (i j : Nat) a b, i ≤ j → l[i]? = some a → l[j]? = some b → a ≤ b := by
 intro l h i j
 induction j with
 | zero => intro a b hij ha hb; obtain rfl : i = 0 := by omega
           rw [ha] at hb; injection hb with e; omega
 | succ j ih =>
   intro a b hij ha hb
   by_cases e : i = j + 1
   ·subst e; rw [ha] at hb; injection hb with e; omega
   ·obtain ⟨c, hc⟩ : ∃ c, l[j]? = some c := ⟨_, List.getElem?_eq_getElem (by have := (List.getElem?_eq_some_iff.mp hb).1; omega)⟩
    have h1 := ih a c (by omega) ha hc
    have h2 := (risesB_iff l).1 h j c b hc hb
    omega
theorem jumbled_plain (m : Ms) : jumbledM m = orderM m := by
 unfold jumbledM orderM
 cases hr : risesB m.barred with
 | false => simp
 | true =>
   congr 1
   rw [Bool.eq_iff_iff]
   simp only [List.any_eq_true, Bool.and_eq_true, Bool.or_eq_true, decide_eq_true_iff, outB]
   constructor
   ·rintro ⟨x, hx, h⟩
    obtain ⟨k, hk⟩ := List.mem_iff_getElem?.mp hx
    have hkl := (List.getElem?_eq_some_iff.mp hk).1
    refine ⟨by omega, ?_⟩
    obtain ⟨a, ha⟩ : ∃ a, m.barred[0]? = some a := ⟨_, List.getElem?_eq_getElem (by omega)⟩
    obtain ⟨b, hb⟩ : ∃ b, m.barred[m.barred.length - 1]? = some b := ⟨_, List.getElem?_eq_getElem (by omega)⟩
    rw [headD_at ha, lastD_at hb (by omega)]
    have h1 := rises_mono hr 0 k a x (by omega) ha hk
    have h2 := rises_mono hr k (m.barred.length - 1) x b (by omega) hk hb
    omega
   ·rintro ⟨hl, h⟩
    obtain ⟨a, ha⟩ : ∃ a, m.barred[0]? = some a := ⟨_, List.getElem?_eq_getElem (by omega)⟩
    obtain ⟨b, hb⟩ : ∃ b, m.barred[m.barred.length - 1]? = some b := ⟨_, List.getElem?_eq_getElem (by omega)⟩
    rw [headD_at ha, lastD_at hb (by omega)] at h
    rcases h with h | h
    ·exact ⟨a, List.mem_of_getElem? ha, .inl h⟩
    ·exact ⟨b, List.mem_of_getElem? hb, .inr h⟩
theorem place_neg (l : List (List UInt8)) (t : List UInt8) : decide (placeT l t < 0) = !hasT l t := by
 unfold placeT
 by_cases h : t ∈ l
 ·rw [if_pos h, (hasT_iff l t).mpr h, decide_eq_false (by omega)]; rfl
 ·rw [if_neg h, Bool.eq_false_iff.mpr (fun e => h ((hasT_iff l t).mp e))]; rfl
def lostF (s : Sc) (f : Fd) : Bool := if f.ty = 14 then !hasT (eNames s) f.ref else if f.ty = 15 then !hasT (mNames s) f.ref else false
theorem lost_plain (s : Sc) (f : Fd) : lostF s f = refF s f := by
 unfold lostF refF enumT messageT
 rw [place_neg, place_neg]
 by_cases h1 : f.ty = 14
 ·rw [if_pos h1, decide_eq_true h1, decide_eq_false (by omega : ¬ f.ty = 15)]; simp
 ·rw [if_neg h1, decide_eq_false h1]
  by_cases h2 : f.ty = 15
  ·rw [if_pos h2, decide_eq_true h2]; simp
  ·rw [if_neg h2, decide_eq_false h2]; simp
theorem lost_all (s : Sc) : s.msgs.any (fun m => m.fields.any (lostF s)) = refsT s := by
 unfold refsT refsM
 rw [show lostF s = refF s from funext (lost_plain s)]
theorem sx_bad_zero : ∀ {l : List Fd}, firstBad l = 0 → ∀ f ∈ l, fcheckT f = 0
 | [], _, f, hf => by cases hf
 | g :: r, h, f, hf => by
   rw [firstBad] at h
   by_cases h0 : fcheckT g = 0
   ·rw [if_pos h0] at h
    rcases List.mem_cons.mp hf with rfl | hf
    ·exact h0
    ·exact sx_bad_zero h f hf
   ·rw [if_neg h0] at h; exact absurd h h0
theorem check_name {f : Fd} (h : fcheckT f = 0) : f.name ≠ [] := by
 intro e
 unfold fcheckT at h
 have : fc1 f = true := by unfold fc1; rw [e]; rfl
 rw [this] at h
 simp at h
theorem fields_name {s : Sc} (h : fieldsT s = 0) : ∀ m ∈ s.msgs, ∀ f ∈ m.fields, f.name ≠ [] := fun m hm f hf =>
 check_name (sx_bad_zero h f (List.mem_flatMap.mpr ⟨m, hm, hf⟩))
/-- All that the code asks of names and numbers, in its order. -/
theorem twice_plain {s : Sc} (h : fieldsT s = 0) : (!onceB (eNames s ++ mNames s) || (s.enums.any twiceE || s.msgs.any clashM)) = twiceT s := by
 have : s.msgs.any clashM = s.msgs.any twiceM := by
  rw [Bool.eq_iff_iff]
  simp only [List.any_eq_true]
  exact ⟨fun ⟨m, hm, e⟩ => ⟨m, hm, (clash_plain (fields_name h m hm)) ▸ e⟩, fun ⟨m, hm, e⟩ => ⟨m, hm, (clash_plain (fields_name h m hm)).symm ▸ e⟩⟩
 rw [this]
 unfold twiceT
 exact Bool.or_comm _ _
theorem order_plain (s : Sc) : ((!riseB (eNames s) || !riseB ((mNames s).drop 1)) || (s.enums.any orderE || s.msgs.any jumbledM)) = orderT s := by
 rw [show jumbledM = orderM from funext jumbled_plain]
 unfold orderT
 cases riseB (eNames s) <;> cases riseB ((mNames s).drop 1) <;> cases s.enums.any orderE <;> cases s.msgs.any orderM <;> rfl
theorem many_plain (s : Sc) : ((decide (3 < s.enums.length) || decide (6 < s.msgs.length)) || (s.enums.any manyE || s.msgs.any manyM)) = manyT s := by
 unfold manyT
 rw [Bool.or_assoc, Bool.or_assoc, Bool.or_assoc]
end Go.Proofs.YtcjjphioeneiiaaGreatDoor
