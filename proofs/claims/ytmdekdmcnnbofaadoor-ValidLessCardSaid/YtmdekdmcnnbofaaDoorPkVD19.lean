/- Several texts in one: FlMath, SchMath, SchSmall, FdMath. What each proves, and its conditions, stands at its own head. -/
import Derived.Test.YtmdekdmcnnbofaaDoorPkVD11
import Derived.Test.YtmdekdmcnnbofaaDoorPkVD18
import Derived.Test.YtmdekdmcnnbofaaDoorPkVD10
import Derived.Test.YtmdekdmcnnbofaaDoorPkVD17
import Derived.Test.YtmdekdmcnnbofaaDoorPkVD3
import Derived.Test.YtmdekdmcnnbofaaDoorPkVD0
/- Layer 14 in plain words (no program here): which fields may be, which are packed, which hidden, and their texts. -/
namespace Go.Proofs.YtmdekdmcnnbofaaDoor
open Go.RowKit
set_option linter.unusedVariables false

structure Fd where
  name : List UInt8
  num : Int
  ty : Int
  ref : List UInt8
  rep : Bool
  loose : Bool
  one : List UInt8
/-- As a value, and as a datum. -/
def fdV (f : Fd) : Value := .agg #[.string (strOf f.name), .int .i64 f.num, .int .i64 f.ty, .string (strOf f.ref), .bool f.rep, .bool f.loose, .string (strOf f.one)]
def fdD {H : Type} (f : Fd) : DataW H := .agg [.lit (.string f.name), .lit (.int .i64 f.num), .lit (.int .i64 f.ty), .lit (.string f.ref), .lit (.bool f.rep), .lit (.bool f.loose), .lit (.string f.one)]
def hiddenT (f : Fd) : Bool := !f.rep && (decide (f.one = []) && decide (f.ty ≠ 15))
end Go.Proofs.YtmdekdmcnnbofaaDoor

/- Layer 15 in plain words (no program here): schemas, which may be, which are the same. -/
namespace Go.Proofs.YtmdekdmcnnbofaaDoor
open Go.RowKit
set_option linter.unusedVariables false

structure Vl where
  name : List UInt8
  num : Int
structure En where
  name : List UInt8
  values : List Vl
structure Ms where
  name : List UInt8
  fields : List Fd
  barred : List Int
structure Sc where
  enums : List En
  msgs : List Ms

def mNames (s : Sc) : List (List UInt8) := s.msgs.map Ms.name
def risesB : List Int → Bool
  | a :: b :: r => decide (a < b) && risesB (b :: r)
  | _ => true
def fNums (m : Ms) : List Int := m.fields.map Fd.num
def placeT (l : List (List UInt8)) (name : List UInt8) : Int := if name ∈ l then (l.findIdx (fun x => decide (x = name)) : Int) else -1
def messageT (s : Sc) (name : List UInt8) : Int := placeT (mNames s) name
/-! ### One more -/
theorem any_snoc {α : Type} (l : List α) (p : α → Bool) (i : Nat) (x : α) (h : l[i]? = some x) : (l.take (i + 1)).any p = ((l.take i).any p || p x) := by
  rw [List.take_add_one, h]
  simp
theorem any_whole {α : Type} (l : List α) (p : α → Bool) (i : Nat) (h : l.length ≤ i) : (l.take i).any p = l.any p := by rw [List.take_of_length_le h]
theorem map_snoc {α β : Type} (l : List α) (f : α → β) (i : Nat) (x : α) (h : l[i]? = some x) : (l.take (i + 1)).map f = (l.take i).map f ++ [f x] := by
  rw [List.take_add_one, h]
  simp
theorem risesB_iff : ∀ l : List Int, risesB l = true ↔ ∀ (j : Nat) a b, l[j]? = some a → l[j + 1]? = some b → a < b
  | [] => by simp [risesB]
  | [x] => by simp [risesB]
  | x :: y :: r => by
    rw [risesB, Bool.and_eq_true, risesB_iff (y :: r), decide_eq_true_iff]
    constructor
    · rintro ⟨h1, h2⟩ j a b ha hb
      match j with
      | 0 => simp at ha hb; omega
      | j + 1 => exact h2 j a b (by simpa using ha) (by simpa using hb)
    · intro h
      exact ⟨h 0 x y rfl rfl, fun j a b ha hb => h (j + 1) a b (by simpa using ha) (by simpa using hb)⟩
theorem risesB_off {l : List Int} {j : Nat} {a b : Int} (ha : l[j]? = some a) (hb : l[j + 1]? = some b) (h : ¬ a < b) : risesB l = false := by
  cases e : risesB l
  · rfl
  · exact absurd ((risesB_iff l).1 e j a b ha hb) h
theorem placeT_hit {l : List (List UInt8)} {name : List UInt8} {i : Nat} (h : l[i]? = some name) (hn : ∀ (j : Nat) x, j < i → l[j]? = some x → x ≠ name) : placeT l name = (i : Int) := by
  unfold placeT
  rw [if_pos (List.mem_of_getElem? h)]
  have hi := (List.getElem?_eq_some_iff.mp h).1
  have : l.findIdx (fun x => decide (x = name)) = i := by
    rw [List.findIdx_eq hi]
    refine ⟨decide_eq_true (by have := List.getElem?_eq_getElem hi; rw [h] at this; exact (Option.some.inj this).symm), fun j hj => ?_⟩
    exact decide_eq_false (hn j _ hj (List.getElem?_eq_getElem (by omega)))
  rw [this]
theorem placeT_miss {l : List (List UInt8)} {name : List UInt8} (hn : ∀ (j : Nat) x, l[j]? = some x → x ≠ name) : placeT l name = -1 := by
  unfold placeT
  rw [if_neg]
  intro h
  obtain ⟨j, hj, e⟩ := List.mem_iff_getElem.mp h
  exact hn j _ (List.getElem?_eq_getElem hj) e
theorem any_off {α : Type} {l : List α} {p : α → Bool} {i : Nat} {x : α} (h : l[i]? = some x) (hp : p x = true) : l.any p = true := List.any_eq_true.mpr ⟨x, List.mem_of_getElem? h, hp⟩
end Go.Proofs.YtmdekdmcnnbofaaDoor

/- Which schemas are not too great, in plain words (no program here). -/
namespace Go.Proofs.YtmdekdmcnnbofaaDoor
set_option linter.unusedVariables false

def weighE (e : En) : Nat := e.values.length + e.name.length / 10
def weighM (m : Ms) : Nat := m.fields.length + m.barred.length + m.name.length / 10
def weigh (s : Sc) : Nat := (s.enums.length + s.msgs.length) + (s.enums.map weighE).sum + (s.msgs.map weighM).sum
def longV (v : Vl) : Bool := decide (1000 < v.name.length)
def longE (e : En) : Bool := e.values.any longV
def longF (f : Fd) : Bool := decide (1000 < f.name.length) || (decide (1000 < f.ref.length) || decide (1000 < f.one.length))
def longM (m : Ms) : Bool := m.fields.any longF
def smallT (s : Sc) : Bool := decide (weigh s < 200) && (!s.enums.any longE && !s.msgs.any longM)
theorem sum_snoc {α : Type} (l : List α) (f : α → Nat) (i : Nat) (x : α) (h : l[i]? = some x) : ((l.take (i + 1)).map f).sum = ((l.take i).map f).sum + f x := by
  rw [map_snoc l f i x h, List.sum_append]
  simp
theorem sum_take {α : Type} (l : List α) (f : α → Nat) (i : Nat) : ((l.take i).map f).sum ≤ (l.map f).sum := by
  have h : l.map f = (l.take i).map f ++ (l.drop i).map f := by rw [← List.map_append, List.take_append_drop]
  rw [h, List.sum_append]
  omega
theorem small_of {s : Sc} (h1 : weigh s < 200) (h2 : s.enums.any longE = false) (h3 : s.msgs.any longM = false) : smallT s = true := by unfold smallT; rw [decide_eq_true h1, h2, h3]; rfl
theorem small_no {s : Sc} (h : 200 ≤ weigh s) : smallT s = false := by unfold smallT; rw [decide_eq_false (by omega)]; rfl
theorem small_noE {s : Sc} (h : s.enums.any longE = true) : smallT s = false := by unfold smallT; rw [h]; simp
theorem small_noM {s : Sc} (h : s.msgs.any longM = true) : smallT s = false := by unfold smallT; rw [h]; simp
end Go.Proofs.YtmdekdmcnnbofaaDoor

/- Layer 16 in plain words (no program here): what is where in a schema. -/
namespace Go.Proofs.YtmdekdmcnnbofaaDoor
open Go.RowKit
set_option linter.unusedVariables false

def placeZ (l : List Int) (n : Int) : Int := if n ∈ l then (l.findIdx (fun x => decide (x = n)) : Int) else -1
theorem placeZ_hit {l : List Int} {n : Int} {i : Nat} (h : l[i]? = some n) (hn : ∀ (j : Nat) x, j < i → l[j]? = some x → x ≠ n) : placeZ l n = (i : Int) := by
  unfold placeZ
  rw [if_pos (List.mem_of_getElem? h)]
  have hi := (List.getElem?_eq_some_iff.mp h).1
  have : l.findIdx (fun x => decide (x = n)) = i := by
    rw [List.findIdx_eq hi]
    refine ⟨decide_eq_true (by have := List.getElem?_eq_getElem hi; rw [h] at this; exact (Option.some.inj this).symm), fun j hj => ?_⟩
    exact decide_eq_false (hn j _ hj (List.getElem?_eq_getElem (by omega)))
  rw [this]
theorem placeZ_miss {l : List Int} {n : Int} (hn : ∀ (j : Nat) x, l[j]? = some x → x ≠ n) : placeZ l n = -1 := by
  unfold placeZ
  rw [if_neg]
  intro h
  obtain ⟨j, hj, e⟩ := List.mem_iff_getElem.mp h
  exact hn j _ (List.getElem?_eq_getElem hj) e
def numAtT (m : Ms) (n : Int) : Int := placeZ (fNums m) n
end Go.Proofs.YtmdekdmcnnbofaaDoor
