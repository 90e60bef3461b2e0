/- Several texts in one: FlMath, SchMath, LessMath, KinMath, SchSmall, FdMath, SmSz. What each proves, and its conditions, stands at its own head. -/
import Derived.Test.YtmajhjkibmbikaaPkK10
import Derived.Test.YtmajhjkibmbikaaPkK14
import Derived.Test.YtmajhjkibmbikaaPkK0
/- Layer 14 in plain words (no program here): which fields may be, which are packed, which hidden, and their texts. -/
namespace Go.Proofs.Ytmajhjkibmbikaa
open Go.RowKit
set_option linter.unusedVariables false

structure Fd where
  name : List UInt8
  num : Int
  ty : Int
  ref : List UInt8
  rep : Bool
  loose : Bool
  one : List UInt8
/-- As a value, and as a datum. -/
def fdV (f : Fd) : Value := .agg #[.string (strOf f.name), .int .i64 f.num, .int .i64 f.ty, .string (strOf f.ref), .bool f.rep, .bool f.loose, .string (strOf f.one)]
def fc1 (f : Fd) : Bool := !nameB f.name || (decide (f.one ≠ []) && !nameB f.one)
def fc2 (f : Fd) : Bool := if f.ty = 14 ∨ f.ty = 15 then !nameB f.ref else decide (f.ref ≠ [])
def fc3 (f : Fd) : Bool := !fieldB f.num || (decide (f.ty < 1) || (decide (15 < f.ty) || (f.rep && decide (f.one ≠ []))))
def fc4 (f : Fd) : Bool := f.loose && (!f.rep || !numberT f.ty)
def fcheckT (f : Fd) : Int := if fc1 f = true then 2 else if fc2 f = true then 2 else if fc3 f = true then 1 else if fc4 f = true then 1 else 0
end Go.Proofs.Ytmajhjkibmbikaa

/- Layer 15 in plain words (no program here): schemas, which may be, which are the same. -/
namespace Go.Proofs.Ytmajhjkibmbikaa
open Go.RowKit
set_option linter.unusedVariables false

structure Vl where
  name : List UInt8
  num : Int
structure En where
  name : List UInt8
  values : List Vl
structure Ms where
  name : List UInt8
  fields : List Fd
  barred : List Int
structure Sc where
  enums : List En
  msgs : List Ms

def manyE (e : En) : Bool := decide (8 < e.values.length)
def manyM (m : Ms) : Bool := decide (10 < m.fields.length) || decide (8 < m.barred.length)
def manyT (s : Sc) : Bool := ((decide (3 < s.enums.length) || decide (6 < s.msgs.length)) || s.enums.any manyE) || s.msgs.any manyM
def noneE (e : En) : Bool := decide (e.values.length = 0)
def noneT (s : Sc) : Bool := decide (s.msgs.length = 0) || s.enums.any noneE
def badName (t : List UInt8) : Bool := !nameB t
def textV (v : Vl) : Bool := badName v.name
def textE (e : En) : Bool := badName e.name || e.values.any textV
def textM (m : Ms) : Bool := badName m.name
def scTextT (s : Sc) : Bool := s.enums.any textE || s.msgs.any textM
def firstBad : List Fd → Int
  | [] => 0
  | f :: r => if fcheckT f = 0 then firstBad r else fcheckT f
def fieldsOf (s : Sc) : List Fd := s.msgs.flatMap Ms.fields
def fieldsT (s : Sc) : Int := firstBad (fieldsOf s)
def vNames (e : En) : List (List UInt8) := e.values.map Vl.name
def fNames (m : Ms) : List (List UInt8) := m.fields.map Fd.name
def eNames (s : Sc) : List (List UInt8) := s.enums.map En.name
def mNames (s : Sc) : List (List UInt8) := s.msgs.map Ms.name
def twiceE (e : En) : Bool := !onceB (vNames e)
def twiceF (l : List (List UInt8)) (f : Fd) : Bool := !decide (f.one = []) && !onceB (l ++ [f.one])
def twiceM (m : Ms) : Bool := !onceB (fNames m) || m.fields.any (twiceF (fNames m))
def twiceT (s : Sc) : Bool := (s.enums.any twiceE || s.msgs.any twiceM) || !onceB (eNames s ++ mNames s)
def risesB : List Int → Bool
  | a :: b :: r => decide (a < b) && risesB (b :: r)
  | _ => true
def vNums (e : En) : List Int := e.values.map Vl.num
def fNums (m : Ms) : List Int := m.fields.map Fd.num
def lastD (l : List Int) : Int := l.getLastD 0
def orderE (e : En) : Bool := (!risesB (vNums e) || !decide ((vNums e).headD 0 = 0)) || decide (1048576 < lastD (vNums e))
def orderM (m : Ms) : Bool := (!risesB (fNums m) || !risesB m.barred) || (decide (0 < m.barred.length) && (decide (m.barred.headD 0 < 1) || decide (536870911 < lastD m.barred)))
def orderT (s : Sc) : Bool := ((s.enums.any orderE || !riseB (eNames s)) || s.msgs.any orderM) || !riseB ((mNames s).drop 1)
def isInB (l : List Int) (n : Int) : Bool := l.any (fun x => decide (x = n))
def barredM (m : Ms) : Bool := m.fields.any (fun f => isInB m.barred f.num)
def barredT (s : Sc) : Bool := s.msgs.any barredM
def placeT (l : List (List UInt8)) (name : List UInt8) : Int := if name ∈ l then (l.findIdx (fun x => decide (x = name)) : Int) else -1
def messageT (s : Sc) (name : List UInt8) : Int := placeT (mNames s) name
def enumT (s : Sc) (name : List UInt8) : Int := placeT (eNames s) name
def refF (s : Sc) (f : Fd) : Bool := (decide (f.ty = 14) && decide (enumT s f.ref < 0)) || (decide (f.ty = 15) && decide (messageT s f.ref < 0))
def refsM (s : Sc) (m : Ms) : Bool := m.fields.any (refF s)
def refsT (s : Sc) : Bool := s.msgs.any (refsM s)
def checkT (s : Sc) : Int :=
  if manyT s = true then 4 else if noneT s = true then 5 else if scTextT s = true then 2 else if fieldsT s ≠ 0 then fieldsT s else if twiceT s = true then 6 else if orderT s = true then 1 else if barredT s = true then 6 else if refsT s = true then 5 else 0

/-! ### One more -/
theorem any_snoc {α : Type} (l : List α) (p : α → Bool) (i : Nat) (x : α) (h : l[i]? = some x) : (l.take (i + 1)).any p = ((l.take i).any p || p x) := by
  rw [List.take_add_one, h]
  simp
theorem any_whole {α : Type} (l : List α) (p : α → Bool) (i : Nat) (h : l.length ≤ i) : (l.take i).any p = l.any p := by rw [List.take_of_length_le h]
theorem map_snoc {α β : Type} (l : List α) (f : α → β) (i : Nat) (x : α) (h : l[i]? = some x) : (l.take (i + 1)).map f = (l.take i).map f ++ [f x] := by
  rw [List.take_add_one, h]
  simp
theorem firstBad_append : ∀ (a b : List Fd), firstBad a = 0 → firstBad (a ++ b) = firstBad b
  | [], _, _ => rfl
  | f :: r, b, h => by
    rw [List.cons_append, firstBad]
    rw [firstBad] at h
    by_cases h0 : fcheckT f = 0
    · rw [if_pos h0] at h ⊢; exact firstBad_append r b h
    · rw [if_neg h0] at h; exact absurd h h0
theorem firstBad_hit (a : List Fd) (f : Fd) (b : List Fd) (h : firstBad a = 0) (hf : fcheckT f ≠ 0) : firstBad (a ++ f :: b) = fcheckT f := by rw [firstBad_append a _ h, firstBad, if_neg hf]
theorem firstBad_miss (a : List Fd) (f : Fd) (h : firstBad a = 0) (hf : fcheckT f = 0) : firstBad (a ++ [f]) = 0 := by rw [firstBad_append a _ h, firstBad, if_pos hf]; rfl
theorem risesB_iff : ∀ l : List Int, risesB l = true ↔ ∀ (j : Nat) a b, l[j]? = some a → l[j + 1]? = some b → a < b
  | [] => by simp [risesB]
  | [x] => by simp [risesB]
  | x :: y :: r => by
    rw [risesB, Bool.and_eq_true, risesB_iff (y :: r), decide_eq_true_iff]
    constructor
    · rintro ⟨h1, h2⟩ j a b ha hb
      match j with
      | 0 => simp at ha hb; omega
      | j + 1 => exact h2 j a b (by simpa using ha) (by simpa using hb)
    · intro h
      exact ⟨h 0 x y rfl rfl, fun j a b ha hb => h (j + 1) a b (by simpa using ha) (by simpa using hb)⟩
theorem risesB_off {l : List Int} {j : Nat} {a b : Int} (ha : l[j]? = some a) (hb : l[j + 1]? = some b) (h : ¬ a < b) : risesB l = false := by
  cases e : risesB l
  · rfl
  · exact absurd ((risesB_iff l).1 e j a b ha hb) h
theorem placeT_hit {l : List (List UInt8)} {name : List UInt8} {i : Nat} (h : l[i]? = some name) (hn : ∀ (j : Nat) x, j < i → l[j]? = some x → x ≠ name) : placeT l name = (i : Int) := by
  unfold placeT
  rw [if_pos (List.mem_of_getElem? h)]
  have hi := (List.getElem?_eq_some_iff.mp h).1
  have : l.findIdx (fun x => decide (x = name)) = i := by
    rw [List.findIdx_eq hi]
    refine ⟨decide_eq_true (by have := List.getElem?_eq_getElem hi; rw [h] at this; exact (Option.some.inj this).symm), fun j hj => ?_⟩
    exact decide_eq_false (hn j _ hj (List.getElem?_eq_getElem (by omega)))
  rw [this]
theorem placeT_miss {l : List (List UInt8)} {name : List UInt8} (hn : ∀ (j : Nat) x, l[j]? = some x → x ≠ name) : placeT l name = -1 := by
  unfold placeT
  rw [if_neg]
  intro h
  obtain ⟨j, hj, e⟩ := List.mem_iff_getElem.mp h
  exact hn j _ (List.getElem?_eq_getElem hj) e
theorem split_at {α : Type} {l : List α} {i : Nat} {x : α} (h : l[i]? = some x) : l = l.take i ++ x :: l.drop (i + 1) := by
  have hi := (List.getElem?_eq_some_iff.mp h).1
  have e : l[i] = x := by rw [List.getElem?_eq_getElem hi] at h; exact Option.some.inj h
  conv => lhs; rw [← List.take_append_drop i l]
  rw [List.drop_eq_getElem_cons hi, e]
theorem flat_snoc {α β : Type} (l : List α) (f : α → List β) (i : Nat) (x : α) (h : l[i]? = some x) : (l.take (i + 1)).flatMap f = (l.take i).flatMap f ++ f x := by
  rw [List.take_add_one, h]
  simp
theorem fields_split {s : Sc} {i k : Nat} {m : Ms} {f : Fd} (hm : s.msgs[i]? = some m) (hf : m.fields[k]? = some f) :
    fieldsOf s = ((s.msgs.take i).flatMap Ms.fields ++ m.fields.take k) ++ f :: (m.fields.drop (k + 1) ++ (s.msgs.drop (i + 1)).flatMap Ms.fields) := by
  unfold fieldsOf
  conv => lhs; rw [split_at hm]
  rw [List.flatMap_append, List.flatMap_cons]
  conv => lhs; rw [split_at hf]
  simp
theorem split_take {α : Type} {l : List α} {i : Nat} {x : α} (h : l[i]? = some x) : l.take (i + 1) = l.take i ++ [x] := by rw [List.take_add_one, h]; rfl
/-- Not too many. -/
structure Few (s : Sc) : Prop where
  few_e : s.enums.length ≤ 3
  few_m : s.msgs.length ≤ 6
  few_v : ∀ e ∈ s.enums, e.values.length ≤ 8
  few_f : ∀ m ∈ s.msgs, m.fields.length ≤ 10 ∧ m.barred.length ≤ 8
theorem few_of {s : Sc} (h : manyT s = false) : Few s := by
  unfold manyT at h
  simp only [Bool.or_eq_false_iff, decide_eq_false_iff_not, List.any_eq_false] at h
  obtain ⟨⟨⟨h1, h2⟩, h3⟩, h4⟩ := h
  refine ⟨by omega, by omega, fun e he => ?_, fun m hm => ?_⟩
  · have := h3 e he; unfold manyE at this; simp at this; exact this
  · have := h4 m hm; unfold manyM at this; simp at this; exact this
theorem headD_at {l : List Int} {a : Int} (h : l[0]? = some a) : l.headD 0 = a := by
  cases l with
  | nil => simp at h
  | cons x r => simp at h; simpa using h
theorem lastD_at {l : List Int} {a : Int} {k : Nat} (h : l[k]? = some a) (hk : k + 1 = l.length) : lastD l = a := by
  unfold lastD
  rw [List.getLastD_eq_getLast?, List.getLast?_eq_getElem?, show l.length - 1 = k by omega, h]
  rfl
theorem drop1_zero {α : Type} (l : List α) : (l.take (0 + 1)).drop 1 = [] := by
  cases l <;> simp
theorem drop1_snoc {α : Type} {l : List α} {i : Nat} {x : α} (hi : 0 < i) (h : l[i]? = some x) : (l.take (i + 1)).drop 1 = (l.take i).drop 1 ++ [x] := by
  have hl := (List.getElem?_eq_some_iff.mp h).1
  rw [split_take h, List.drop_append_of_le_length (by rw [List.length_take]; omega)]
theorem any_off {α : Type} {l : List α} {p : α → Bool} {i : Nat} {x : α} (h : l[i]? = some x) (hp : p x = true) : l.any p = true := List.any_eq_true.mpr ⟨x, List.mem_of_getElem? h, hp⟩
end Go.Proofs.Ytmajhjkibmbikaa

/- Layer 15 in plain words: a schema without one of its messages may be still, if no field of another names it. Conditions: those that each theorem names. -/
namespace Go.Proofs.Ytmajhjkibmbikaa
open Go.RowKit
set_option linter.unusedVariables false

theorem check_parts {s : Sc} (h : checkT s = 0) : manyT s = false ∧ noneT s = false ∧ scTextT s = false ∧ fieldsT s = 0 ∧ twiceT s = false ∧ orderT s = false ∧ barredT s = false ∧ refsT s = false := by
  unfold checkT at h
  cases h1 : manyT s
  case true => rw [h1, if_pos rfl] at h; omega
  rw [h1, if_neg (by decide)] at h
  cases h2 : noneT s
  case true => rw [h2, if_pos rfl] at h; omega
  rw [h2, if_neg (by decide)] at h
  cases h3 : scTextT s
  case true => rw [h3, if_pos rfl] at h; omega
  rw [h3, if_neg (by decide)] at h
  by_cases h4 : fieldsT s = 0
  case neg => rw [if_pos h4] at h; exact absurd h h4
  rw [if_neg (fun e => e h4)] at h
  cases h5 : twiceT s
  case true => rw [h5, if_pos rfl] at h; omega
  rw [h5, if_neg (by decide)] at h
  cases h6 : orderT s
  case true => rw [h6, if_pos rfl] at h; omega
  rw [h6, if_neg (by decide)] at h
  cases h7 : barredT s
  case true => rw [h7, if_pos rfl] at h; omega
  rw [h7, if_neg (by decide)] at h
  cases h8 : refsT s
  case true => rw [h8, if_pos rfl] at h; omega
  exact ⟨rfl, rfl, rfl, h4, rfl, rfl, rfl, rfl⟩
end Go.Proofs.Ytmajhjkibmbikaa

/- Layer 16's Kin in plain words: which messages are told, in which order; they are told once, and what they name is told. Conditions: those that each theorem names. -/
namespace Go.Proofs.Ytmajhjkibmbikaa
open Go.RowKit
set_option linter.unusedVariables false

/-- The first message of a name. -/
def msgOf (s : Sc) (t : List UInt8) : Ms := (s.msgs[(messageT s t).toNat]?).getD ⟨[], [], []⟩
def kinAdd (s : Sc) (out : List (List UInt8)) (f : Fd) : List (List UInt8) := if (decide (f.ty = 15) && !decide (f.ref ∈ out)) && decide (0 ≤ messageT s f.ref) then out ++ [f.ref] else out
def kinMsg (s : Sc) (out : List (List UInt8)) (l : List Fd) : List (List UInt8) := l.foldl (kinAdd s) out
def kinGo (s : Sc) : Nat → List (List UInt8) → Nat → List (List UInt8)
  | 0, out, _ => out
  | f + 1, out, i => match out[i]? with
    | none => out
    | some t => kinGo s f (kinMsg s out (msgOf s t).fields) (i + 1)
def kinT (s : Sc) : List (List UInt8) := match s.msgs with
  | [] => []
  | m :: _ => kinGo s (s.msgs.length + 1) [m.name] 0

theorem placeT_spot {l : List (List UInt8)} {t : List UInt8} (h : t ∈ l) : ∃ p : Nat, p < l.length ∧ placeT l t = (p : Int) ∧ l[p]? = some t := by
  unfold placeT
  rw [if_pos h]
  have hlt : l.findIdx (fun x => decide (x = t)) < l.length := List.findIdx_lt_length_of_exists ⟨t, h, decide_eq_true rfl⟩
  refine ⟨_, hlt, rfl, ?_⟩
  have := List.findIdx_getElem (w := hlt)
  rw [List.getElem?_eq_getElem hlt]
  exact congrArg some (of_decide_eq_true this)
theorem msg_spot {s : Sc} {t : List UInt8} (h : t ∈ mNames s) : ∃ p : Nat, p < s.msgs.length ∧ messageT s t = (p : Int) ∧ ∃ m, s.msgs[p]? = some m ∧ m.name = t ∧ msgOf s t = m := by
  obtain ⟨p, h1, h2, h3⟩ := placeT_spot h
  have hl : (mNames s).length = s.msgs.length := by unfold mNames; rw [List.length_map]
  rw [hl] at h1
  have hm := List.getElem?_eq_getElem h1
  refine ⟨p, h1, h2, _, hm, ?_, ?_⟩
  · unfold mNames at h3
    rw [List.getElem?_map, hm] at h3
    exact Option.some.inj h3
  · unfold msgOf messageT
    rw [h2]
    simp [hm]
theorem mem_of_place {l : List (List UInt8)} {t : List UInt8} (h : 0 ≤ placeT l t) : t ∈ l := by
  unfold placeT at h
  by_cases hm : t ∈ l
  · exact hm
  · rw [if_neg hm] at h; omega

/-- What is told so far: names, each once. -/
def KinOk (s : Sc) (out : List (List UInt8)) : Prop := (∀ t ∈ out, t ∈ mNames s) ∧ out.Nodup
theorem kinAdd_ok {s : Sc} {out : List (List UInt8)} {f : Fd} (h : KinOk s out) : KinOk s (kinAdd s out f) := by
  unfold kinAdd
  split
  · rename_i hc
    rw [Bool.and_eq_true, Bool.and_eq_true, Bool.not_eq_true', decide_eq_false_iff_not, decide_eq_true_iff, decide_eq_true_iff] at hc
    refine ⟨fun t ht => ?_, ?_⟩
    · rcases List.mem_append.mp ht with ht | ht
      · exact h.1 t ht
      · rw [List.mem_singleton.mp ht]; exact mem_of_place hc.2
    · rw [List.nodup_append]
      refine ⟨h.2, by simp, fun a ha b hb e => ?_⟩
      rw [List.mem_singleton.mp hb] at e
      exact hc.1.2 (e ▸ ha)
  · exact h
theorem kinAdd_pre (s : Sc) (out : List (List UInt8)) (f : Fd) : out <+: kinAdd s out f := by
  unfold kinAdd
  split
  · exact List.prefix_append _ _
  · exact List.prefix_refl _
theorem kinAdd_has {s : Sc} {out : List (List UInt8)} {f : Fd} (h1 : f.ty = 15) (h2 : 0 ≤ messageT s f.ref) : f.ref ∈ kinAdd s out f := by
  unfold kinAdd
  by_cases hm : f.ref ∈ out
  · split
    · exact List.mem_append_left _ hm
    · exact hm
  · rw [decide_eq_true h1, decide_eq_true h2, decide_eq_false hm]
    simp
theorem kinMsg_ok {s : Sc} : ∀ {l : List Fd} {out : List (List UInt8)}, KinOk s out → KinOk s (kinMsg s out l)
  | [], _, h => h
  | f :: r, out, h => kinMsg_ok (l := r) (kinAdd_ok (f := f) h)
theorem kinMsg_pre (s : Sc) : ∀ (l : List Fd) (out : List (List UInt8)), out <+: kinMsg s out l
  | [], _ => List.prefix_refl _
  | f :: r, out => (kinAdd_pre s out f).trans (kinMsg_pre s r (kinAdd s out f))
theorem kinMsg_has {s : Sc} : ∀ {l : List Fd} {out : List (List UInt8)} {f : Fd}, f ∈ l → f.ty = 15 → 0 ≤ messageT s f.ref → f.ref ∈ kinMsg s out l
  | g :: r, out, f, hf, h1, h2 => by
    rcases List.mem_cons.mp hf with rfl | hf
    · exact (kinMsg_pre s r _).subset (kinAdd_has h1 h2)
    · exact kinMsg_has (l := r) hf h1 h2
theorem kinMsg_snoc {s : Sc} {out : List (List UInt8)} {l : List Fd} {k : Nat} {f : Fd} (h : l[k]? = some f) : kinMsg s out (l.take (k + 1)) = kinAdd s (kinMsg s out (l.take k)) f := by
  unfold kinMsg
  rw [split_take h, List.foldl_append]
  rfl
theorem nodup_le : ∀ {l m : List (List UInt8)}, l.Nodup → (∀ t ∈ l, t ∈ m) → l.length ≤ m.length
  | [], _, _, _ => Nat.zero_le _
  | a :: r, m, hn, hs => by
    rw [List.nodup_cons] at hn
    have ha := hs a List.mem_cons_self
    have h := nodup_le (l := r) (m := m.erase a) hn.2 (fun t ht => (List.mem_erase_of_ne (fun e => hn.1 (by rw [← e]; exact ht))).mpr (hs t (List.mem_cons_of_mem _ ht)))
    rw [List.length_erase_of_mem ha] at h
    have := List.length_pos_of_mem ha
    rw [List.length_cons]
    omega
theorem kinOk_le {s : Sc} {out : List (List UInt8)} (h : KinOk s out) : out.length ≤ s.msgs.length := by
  have := nodup_le h.2 h.1
  unfold mNames at this
  rwa [List.length_map] at this
/-- What is told of the first i is closed. -/
def KinShut (s : Sc) (out : List (List UInt8)) (i : Nat) : Prop := ∀ (j : Nat) t, j < i → out[j]? = some t → ∀ f ∈ (msgOf s t).fields, f.ty = 15 → 0 ≤ messageT s f.ref → f.ref ∈ out
theorem pre_get {a b : List (List UInt8)} (h : a <+: b) {j : Nat} {t : List UInt8} (ht : a[j]? = some t) : b[j]? = some t := by
  obtain ⟨c, rfl⟩ := h
  rw [List.getElem?_append_left (List.getElem?_eq_some_iff.mp ht).1]
  exact ht
theorem kinGo_all (s : Sc) : ∀ (f : Nat) (out : List (List UInt8)) (i : Nat), KinOk s out → KinShut s out i → i + f = s.msgs.length + 1 → out <+: kinGo s f out i ∧ KinOk s (kinGo s f out i) ∧ KinShut s (kinGo s f out i) (kinGo s f out i).length
  | 0, out, i, h, hs, hf => by
    have hle := kinOk_le h
    exact ⟨List.prefix_refl _, h, fun j t (hj : j < out.length) ht => hs j t (by omega) ht⟩
  | f + 1, out, i, h, hs, hf => by
    rw [kinGo]
    cases ht : out[i]? with
    | none =>
      have := List.getElem?_eq_none_iff.mp ht
      exact ⟨List.prefix_refl _, h, fun j t hj ht => hs j t (Nat.lt_of_lt_of_le hj this) ht⟩
    | some t =>
      have hp := kinMsg_pre s (msgOf s t).fields out
      obtain ⟨h1, h2, h3⟩ := kinGo_all s f (kinMsg s out (msgOf s t).fields) (i + 1) (kinMsg_ok h) (fun j u hj hu g hg e1 e2 => by
        have hlt := (List.getElem?_eq_some_iff.mp ht).1
        by_cases hji : j < i
        · have hjo : out[j]? = some u := by
            have hl : j < out.length := by omega
            have e := pre_get hp (List.getElem?_eq_getElem hl)
            rw [hu] at e
            rw [List.getElem?_eq_getElem hl]
            exact e.symm
          exact hp.subset (hs j u hji hjo g hg e1 e2)
        · have : j = i := by omega
          subst this
          have e := pre_get hp ht
          rw [hu] at e
          injection e with e
          subst e
          exact kinMsg_has hg e1 e2) (by omega)
      exact ⟨hp.trans h1, h2, h3⟩
theorem kin_start {s : Sc} {m : Ms} (h : s.msgs[0]? = some m) : KinOk s [m.name] := ⟨fun t ht => by
  rw [List.mem_singleton.mp ht]
  exact List.mem_map.mpr ⟨m, List.mem_of_getElem? h, rfl⟩, by simp⟩
theorem kinT_some {s : Sc} {m : Ms} (h : s.msgs[0]? = some m) : kinT s = kinGo s (s.msgs.length + 1) [m.name] 0 := by
  unfold kinT
  cases hm : s.msgs with
  | nil => rw [hm] at h; simp at h
  | cons a r =>
    rw [hm] at h
    simp at h
    subst h
    rfl
theorem kinT_none {s : Sc} (h : s.msgs.length = 0) : kinT s = [] := by
  unfold kinT
  rw [List.eq_nil_of_length_eq_zero h]
theorem kinT_all {s : Sc} {m : Ms} (h : s.msgs[0]? = some m) : [m.name] <+: kinT s ∧ KinOk s (kinT s) ∧ KinShut s (kinT s) (kinT s).length := by
  rw [kinT_some h]
  exact kinGo_all s _ _ _ (kin_start h) (fun j t hj => absurd hj (Nat.not_lt_zero _)) (by omega)
theorem kinT_ok (s : Sc) : KinOk s (kinT s) := by
  cases hm : s.msgs[0]? with
  | none =>
    rw [kinT_none (by have := List.getElem?_eq_none_iff.mp hm; omega)]
    exact ⟨fun t ht => by simp at ht, by simp⟩
  | some m => exact (kinT_all hm).2.1
/-- In a schema that may be, what is told names nothing that is not. -/
theorem kin_closed {s : Sc} (hc : checkT s = 0) {t : List UInt8} (ht : t ∈ kinT s) {f : Fd} (hf : f ∈ (msgOf s t).fields) (h15 : f.ty = 15) : f.ref ∈ kinT s := by
  obtain ⟨m, hm⟩ : ∃ m, s.msgs[0]? = some m := by
    cases h : s.msgs[0]? with
    | none =>
      rw [kinT_none (by have := List.getElem?_eq_none_iff.mp h; omega)] at ht
      simp at ht
    | some m => exact ⟨m, rfl⟩
  obtain ⟨_, h2, h3⟩ := kinT_all hm
  obtain ⟨j, hj⟩ := List.mem_iff_getElem?.mp ht
  obtain ⟨p, hp, _, x, hx, _, e⟩ := msg_spot (h2.1 t ht)
  refine h3 j t (List.getElem?_eq_some_iff.mp hj).1 hj f hf h15 ?_
  have hr := (check_parts hc).2.2.2.2.2.2.2
  unfold refsT refsM at hr
  rw [List.any_eq_false] at hr
  have h4 := hr x (List.mem_of_getElem? hx)
  simp only [Bool.not_eq_true] at h4
  rw [List.any_eq_false] at h4
  have h5 := h4 f (e ▸ hf)
  simp only [Bool.not_eq_true] at h5
  unfold refF at h5
  rw [Bool.or_eq_false_iff, decide_eq_true h15, Bool.true_and, decide_eq_false_iff_not] at h5
  omega
end Go.Proofs.Ytmajhjkibmbikaa

/- Which schemas are not too great, in plain words (no program here). -/
namespace Go.Proofs.Ytmajhjkibmbikaa
set_option linter.unusedVariables false

def weighE (e : En) : Nat := e.values.length + e.name.length / 10
def weighM (m : Ms) : Nat := m.fields.length + m.barred.length + m.name.length / 10
def weigh (s : Sc) : Nat := (s.enums.length + s.msgs.length) + (s.enums.map weighE).sum + (s.msgs.map weighM).sum
def longV (v : Vl) : Bool := decide (1000 < v.name.length)
def longE (e : En) : Bool := e.values.any longV
def longF (f : Fd) : Bool := decide (1000 < f.name.length) || (decide (1000 < f.ref.length) || decide (1000 < f.one.length))
def longM (m : Ms) : Bool := m.fields.any longF
def smallT (s : Sc) : Bool := decide (weigh s < 200) && (!s.enums.any longE && !s.msgs.any longM)
theorem sum_snoc {α : Type} (l : List α) (f : α → Nat) (i : Nat) (x : α) (h : l[i]? = some x) : ((l.take (i + 1)).map f).sum = ((l.take i).map f).sum + f x := by
  rw [map_snoc l f i x h, List.sum_append]
  simp
theorem sum_take {α : Type} (l : List α) (f : α → Nat) (i : Nat) : ((l.take i).map f).sum ≤ (l.map f).sum := by
  have h : l.map f = (l.take i).map f ++ (l.drop i).map f := by rw [← List.map_append, List.take_append_drop]
  rw [h, List.sum_append]
  omega
theorem small_of {s : Sc} (h1 : weigh s < 200) (h2 : s.enums.any longE = false) (h3 : s.msgs.any longM = false) : smallT s = true := by unfold smallT; rw [decide_eq_true h1, h2, h3]; rfl
theorem small_no {s : Sc} (h : 200 ≤ weigh s) : smallT s = false := by unfold smallT; rw [decide_eq_false (by omega)]; rfl
theorem small_noE {s : Sc} (h : s.enums.any longE = true) : smallT s = false := by unfold smallT; rw [h]; simp
theorem small_noM {s : Sc} (h : s.msgs.any longM = true) : smallT s = false := by unfold smallT; rw [h]; simp
end Go.Proofs.Ytmajhjkibmbikaa

/- Layer 16 in plain words (no program here): what is where in a schema. -/
namespace Go.Proofs.Ytmajhjkibmbikaa
open Go.RowKit
set_option linter.unusedVariables false

def placeZ (l : List Int) (n : Int) : Int := if n ∈ l then (l.findIdx (fun x => decide (x = n)) : Int) else -1
def fieldAtT (m : Ms) (t : List UInt8) : Int := placeT (fNames m) t
def numAtT (m : Ms) (n : Int) : Int := placeZ (fNums m) n
def inOne (t : List UInt8) (f : Fd) : Bool := !decide (t = []) && decide (f.one = t)
def membersT (m : Ms) (t : List UInt8) : List Int := (m.fields.filter (inOne t)).map Fd.num
def freeT (m : Ms) (n : Int) : Bool := fieldB n && (decide (numAtT m n < 0) && !isInB m.barred n)
def useB (t : List UInt8) (f : Fd) : Bool := decide (f.ty = 15) && decide (f.ref = t)
def usesT (s : Sc) (t : List UInt8) : Nat := (fieldsOf s).countP (useB t)
theorem members_snoc (l : List Fd) (p : Fd → Bool) (i : Nat) (x : Fd) (h : l[i]? = some x) : ((l.take (i + 1)).filter p).map Fd.num = ((l.take i).filter p).map Fd.num ++ (if p x = true then [x.num] else []) := by
  rw [split_take h, List.filter_append, List.map_append]
  congr 1
  cases hp : p x <;> simp [hp]
theorem fields_len : ∀ l : List Ms, (l.flatMap Ms.fields).length ≤ (l.map weighM).sum
  | [] => Nat.le_refl _
  | m :: r => by
    have := fields_len r
    have hw : m.fields.length ≤ weighM m := by unfold weighM; omega
    rw [List.flatMap_cons, List.length_append, List.map_cons, List.sum_cons]
    omega
theorem small_fields {s : Sc} (h : smallT s = true) : (fieldsOf s).length < 200 := by
  unfold smallT at h
  simp only [Bool.and_eq_true, decide_eq_true_eq] at h
  have := fields_len s.msgs
  have h1 := h.1
  unfold weigh at h1
  unfold fieldsOf
  omega
end Go.Proofs.Ytmajhjkibmbikaa

/- How many things a schema has that is not too great. Conditions: those that each theorem names. -/
namespace Go.Proofs.Ytmajhjkibmbikaa
set_option linter.unusedVariables false

theorem sum_mem {α : Type} {l : List α} {f : α → Nat} {x : α} (h : x ∈ l) : f x ≤ (l.map f).sum := by
  induction l with
  | nil => simp at h
  | cons y l ih =>
    rw [List.map_cons, List.sum_cons]
    rcases List.mem_cons.mp h with rfl | h
    · omega
    · have := ih h; omega
theorem small_sizes {s : Sc} (h : smallT s = true) : s.enums.length ≤ 200 ∧ s.msgs.length ≤ 200 ∧ (∀ e ∈ s.enums, e.values.length ≤ 200) ∧ ∀ m ∈ s.msgs, m.fields.length ≤ 200 ∧ m.barred.length ≤ 200 := by
  have hw : weigh s < 200 := by
    unfold smallT at h
    rw [Bool.and_eq_true] at h
    exact of_decide_eq_true h.1
  unfold weigh at hw
  refine ⟨by omega, by omega, fun e he => ?_, fun m hm => ?_⟩
  · have := sum_mem (f := weighE) he
    unfold weighE at this hw
    omega
  · have := sum_mem (f := weighM) hm
    unfold weighM at this hw
    omega
end Go.Proofs.Ytmajhjkibmbikaa
