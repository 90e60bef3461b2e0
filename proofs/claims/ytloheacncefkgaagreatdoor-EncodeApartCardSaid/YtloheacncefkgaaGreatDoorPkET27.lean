/- Several texts in one: VdMath, EncMath, EncCost, EncInj, VdW. What each proves, and its conditions, stands at its own head. -/
import Derived.Test.YtloheacncefkgaaGreatDoorPkET26
import Derived.Test.YtloheacncefkgaaGreatDoorPkET19
import Derived.Lib.ValidU
import Derived.Test.YtloheacncefkgaaGreatDoorPkET4
import Derived.Test.YtloheacncefkgaaGreatDoorPkET1
import Derived.Test.YtloheacncefkgaaGreatDoorPkET0
import Derived.Below
/- Layer 20 in plain words (no program here): which values are a field's, which trees are a message's. Conditions: those that each theorem names. -/
namespace Go.Proofs.YtloheacncefkgaaGreatDoor
open Go.RowKit
set_option linter.unusedVariables false

def vMsg (s : Sc) (t : List UInt8) : Option Ms := if messageT s t < 0 then none else s.msgs[(messageT s t).toNat]?
def vFld (m : Ms) (n : Int) : Option Fd := if numAtT m n < 0 then none else m.fields[(numAtT m n).toNat]?
theorem placeT_way (l : List (List UInt8)) (t : List UInt8) : placeT l t = -1 ∨ ∃ i : Nat, placeT l t = (i : Int) ∧ i < l.length := by
  unfold placeT
  by_cases h : t ∈ l
  · rw [if_pos h]
    exact .inr ⟨_, rfl, List.findIdx_lt_length.mpr ⟨t, h, decide_eq_true rfl⟩⟩
  · rw [if_neg h]; exact .inl rfl
theorem placeZ_way (l : List Int) (t : Int) : placeZ l t = -1 ∨ ∃ i : Nat, placeZ l t = (i : Int) ∧ i < l.length := by
  unfold placeZ
  by_cases h : t ∈ l
  · rw [if_pos h]
    exact .inr ⟨_, rfl, List.findIdx_lt_length.mpr ⟨t, h, decide_eq_true rfl⟩⟩
  · rw [if_neg h]; exact .inl rfl
theorem msg_way (s : Sc) (t : List UInt8) : (messageT s t = -1 ∧ vMsg s t = none) ∨ ∃ (i : Nat) (m : Ms), messageT s t = (i : Int) ∧ s.msgs[i]? = some m ∧ vMsg s t = some m := by
  unfold vMsg
  rcases placeT_way (mNames s) t with h | ⟨i, h, hi⟩
  · rw [show messageT s t = -1 from h]
    exact .inl ⟨rfl, rfl⟩
  · rw [show messageT s t = (i : Int) from h]
    unfold mNames at hi
    rw [List.length_map] at hi
    rw [if_neg (by omega), show ((i : Int)).toNat = i by omega]
    exact .inr ⟨i, s.msgs[i], rfl, List.getElem?_eq_getElem hi, List.getElem?_eq_getElem hi⟩
theorem fld_way (m : Ms) (n : Int) : (numAtT m n = -1 ∧ vFld m n = none) ∨ ∃ (i : Nat) (f : Fd), numAtT m n = (i : Int) ∧ m.fields[i]? = some f ∧ vFld m n = some f := by
  unfold vFld
  rcases placeZ_way (fNums m) n with h | ⟨i, h, hi⟩
  · rw [show numAtT m n = -1 from h]
    exact .inl ⟨rfl, rfl⟩
  · rw [show numAtT m n = (i : Int) from h]
    unfold fNums at hi
    rw [List.length_map] at hi
    rw [if_neg (by omega), show ((i : Int)).toNat = i by omega]
    exact .inr ⟨i, m.fields[i], rfl, List.getElem?_eq_getElem hi, List.getElem?_eq_getElem hi⟩

def zeroT (v : Va) : Bool := decide (v.vn = 0) && decide (v.vs = [])
def soleT (V : Tr → Bool) : List Tr → Bool
  | [t] => V t
  | _ => false
theorem soleT_not {V : Tr → Bool} {l : List Tr} (h : l.length ≠ 1) : soleT V l = false := by
  match l, h with
  | [], _ => rfl
  | [_], h => exact absurd rfl h
  | _ :: _ :: _, _ => rfl
theorem soleT_one {V : Tr → Bool} {l : List Tr} {t : Tr} (h : l.length = 1) (h0 : l[0]? = some t) : soleT V l = V t := by
  match l, h, h0 with
  | [u], _, h0 => simp at h0; rw [h0]; rfl
/-- A value of the field; the trees within are asked by V. -/
def valT (V : List UInt8 → Tr → Bool) (f : Fd) (v : Va) : Bool :=
  if numberT f.ty = true then mayT f.ty v.vn && (decide (v.vs = []) && decide (v.vm.length = 0))
  else if f.ty = 12 then decide (v.vn = 0) && (decide (v.vm.length = 0) && Lib.validD v.vs)
  else if f.ty = 13 then decide (v.vn = 0) && decide (v.vm.length = 0)
  else if f.ty = 15 then decide (v.vn = 0) && (decide (v.vs = []) && soleT (V f.ref) v.vm)
  else false
def manyS (f : Fd) (n : Nat) : Bool := decide (n = 1) || (f.rep && decide (1 < n))
def eachV (V : List UInt8 → Tr → Bool) (f : Fd) (v : Va) : Bool := valT V f v && !(hiddenT f && zeroT v)
def slotF (V : List UInt8 → Tr → Bool) (f : Fd) (x : Slt) : Bool := manyS f x.svals.length && x.svals.all (eachV V f)
def slotT (V : List UInt8 → Tr → Bool) (m : Ms) (x : Slt) : Bool := match vFld m x.snum with
  | none => false
  | some f => slotF V f x
def oneAt (m : Ms) (x : Slt) : List UInt8 := match vFld m x.snum with
  | none => []
  | some f => f.one
/-- None ahead was in the same oneof. -/
def aloneB (done : List (List UInt8)) (t : List UInt8) : Bool := decide (t = []) || !decide (t ∈ done)
def okS (V : List UInt8 → Tr → Bool) (m : Ms) (l : List Slt) (x : Slt) (i : Nat) : Bool := slotT V m x && aloneB ((l.take i).map (oneAt m)) (oneAt m x)
def AllS (V : List UInt8 → Tr → Bool) (m : Ms) (l : List Slt) : Prop := ∀ (i : Nat) x, l[i]? = some x → okS V m l x i = true
instance (V : List UInt8 → Tr → Bool) (m : Ms) (l : List Slt) : Decidable (AllS V m l) :=
  decidable_of_iff (∀ i : Fin l.length, okS V m l l[i] i = true) ⟨fun h i x hx => by
    obtain ⟨hi, e⟩ := List.getElem?_eq_some_iff.mp hx
    have := h ⟨i, hi⟩
    rw [← e]; exact this, fun h i => h i _ (List.getElem?_eq_getElem i.2)⟩
def restT (m : Ms) (r : Rw) : Bool := okR r && decide (numAtT m r.num < 0)
/-- A value of the message of that name, down to a level. -/
def treeN (s : Sc) : Nat → List UInt8 → Tr → Bool
  | 0, _, _ => false
  | k + 1, name, t => match vMsg s name with
    | none => false
    | some m => risesB (t.slots.map (·.snum)) && (decide (AllS (treeN s k) m t.slots) && t.rest.all (restT m))
theorem treeN_none {s : Sc} {k : Nat} {name : List UInt8} {t : Tr} (h : vMsg s name = none) : treeN s (k + 1) name t = false := by unfold treeN; rw [h]
theorem treeN_some {s : Sc} {k : Nat} {name : List UInt8} {t : Tr} {m : Ms} (h : vMsg s name = some m) : treeN s (k + 1) name t = (risesB (t.slots.map (·.snum)) && (decide (AllS (treeN s k) m t.slots) && t.rest.all (restT m))) := by
  rw [treeN, h]
/-! ### What follows -/
theorem rises_pair : ∀ l : List Int, risesB l = true ↔ l.Pairwise (· < ·)
  | [] => by simp [risesB]
  | [x] => by simp [risesB]
  | x :: y :: r => by
    rw [risesB, Bool.and_eq_true, rises_pair (y :: r), decide_eq_true_iff]
    constructor
    · rintro ⟨h1, h2⟩
      refine List.pairwise_cons.mpr ⟨fun a ha => ?_, h2⟩
      rcases List.mem_cons.mp ha with rfl | ha
      · exact h1
      · have := (List.pairwise_cons.mp h2).1 a ha
        omega
    · intro h
      obtain ⟨h1, h2⟩ := List.pairwise_cons.mp h
      exact ⟨h1 y List.mem_cons_self, h2⟩
theorem allS_iff {V : List UInt8 → Tr → Bool} {m : Ms} {l : List Slt} : AllS V m l ↔ (∀ x ∈ l, slotT V m x = true) ∧ l.Pairwise (fun a b => oneAt m b = [] ∨ oneAt m a ≠ oneAt m b) := by
  constructor
  · intro h
    refine ⟨fun x hx => ?_, ?_⟩
    · obtain ⟨i, hi, e⟩ := List.mem_iff_getElem.mp hx
      have := h i x (by rw [List.getElem?_eq_getElem hi, e])
      unfold okS at this
      rw [Bool.and_eq_true] at this
      exact this.1
    · rw [List.pairwise_iff_getElem]
      intro i j hi hj hij
      have := h j _ (List.getElem?_eq_getElem hj)
      unfold okS aloneB at this
      simp only [Bool.and_eq_true, Bool.or_eq_true, decide_eq_true_eq, Bool.not_eq_true', decide_eq_false_iff_not] at this
      rcases this.2 with h1 | h1
      · exact .inl h1
      · exact .inr fun e => h1 (by rw [← e]; exact List.mem_map_of_mem (List.mem_take_iff_getElem.mpr ⟨i, by omega, rfl⟩))
  · rintro ⟨h1, h2⟩ j x hx
    obtain ⟨hj, e⟩ := List.getElem?_eq_some_iff.mp hx
    rw [List.pairwise_iff_getElem] at h2
    unfold okS aloneB
    rw [h1 x (List.mem_of_getElem? hx), Bool.true_and]
    by_cases h0 : oneAt m x = []
    · rw [decide_eq_true h0]; rfl
    · rw [decide_eq_false h0, Bool.false_or, Bool.not_eq_true', decide_eq_false_iff_not]
      intro hm
      obtain ⟨y, hy, ey⟩ := List.mem_map.mp hm
      obtain ⟨i, hi, ei⟩ := List.mem_take_iff_getElem.mp hy
      have := h2 i j (by omega) hj (by omega)
      rw [e] at this
      rcases this with h3 | h3
      · exact h0 h3
      · exact h3 (by rw [ei]; exact ey)
theorem tree_less {s : Sc} {k : Nat} {name : List UInt8} {t u : Tr} (h : treeN s (k + 1) name t = true) (hs : u.slots.Sublist t.slots) (hr : u.rest.Sublist t.rest) : treeN s (k + 1) name u = true := by
  rcases msg_way s name with ⟨h1, h2⟩ | ⟨i, m, h1, _, h2⟩
  · rw [treeN_none h2] at h; cases h
  · rw [treeN_some h2] at h ⊢
    simp only [Bool.and_eq_true, decide_eq_true_eq] at h ⊢
    obtain ⟨a, b, c⟩ := h
    rw [rises_pair] at a ⊢
    rw [allS_iff] at b ⊢
    refine ⟨a.sublist (hs.map _), ⟨fun x hx => b.1 x (hs.subset hx), b.2.sublist hs⟩, ?_⟩
    rw [List.all_eq_true] at c ⊢
    exact fun x hx => c x (hr.subset hx)
end Go.Proofs.YtloheacncefkgaaGreatDoor

/- Layer 21 in plain words (no program here): what bytes a message's value is; unlike values have unlike bytes. Conditions: those that each theorem names. -/
namespace Go.Proofs.YtloheacncefkgaaGreatDoor
open Go.RowKit Go.Lib
set_option linter.unusedVariables false

/-- One number on the wire. -/
def wireB (ty : Int) (n : Nat) : List UInt8 := if wireT ty = 1 then le 8 (toT ty n) else if wireT ty = 5 then le 4 (toT ty n) else uvarint (toT ty n)
def packB (f : Fd) (l : List Nat) : List UInt8 := if numberT f.ty = true then l.flatMap (wireB f.ty) else []
def eRaw (E : List UInt8 → Tr → List UInt8) (f : Fd) (v : Va) : Rw :=
  if numberT f.ty = true then ⟨f.num, wireT f.ty, toT f.ty v.vn, []⟩ else if f.ty = 15 then ⟨f.num, 2, 0, E f.ref (v.vm.headD default)⟩ else ⟨f.num, 2, 0, v.vs⟩
def sRaws (E : List UInt8 → Tr → List UInt8) (f : Fd) (l : List Va) : List Rw := if packedT f = true then [⟨f.num, 2, 0, packB f (l.map (·.vn))⟩] else l.map (eRaw E f)
def xRaws (E : List UInt8 → Tr → List UInt8) (m : Ms) (x : Slt) : List Rw := match vFld m x.snum with
  | none => []
  | some f => sRaws E f x.svals
def tRaws (E : List UInt8 → Tr → List UInt8) (m : Ms) (t : Tr) : List Rw := t.slots.flatMap (xRaws E m) ++ t.rest
/-- A value's bytes, down to a level. -/
def encN (s : Sc) : Nat → List UInt8 → Tr → List UInt8
  | 0, _, _ => []
  | k + 1, name, t => match vMsg s name with
    | none => []
    | some m => putR (tRaws (encN s k) m t)
theorem encN_some {s : Sc} {k : Nat} {name : List UInt8} {t : Tr} {m : Ms} (h : vMsg s name = some m) : encN s (k + 1) name t = putR (tRaws (encN s k) m t) := by rw [encN, h]

/-! ### Codes that no other one begins with -/
theorem uv_apart {a b : Nat} {r r' : List UInt8} (ha : a < 18446744073709551616) (hb : b < 18446744073709551616) (h : uvarint a ++ r = uvarint b ++ r') : a = b ∧ r = r' := by
  have h1 := get_put a ha r
  have h2 := get_put b hb r'
  rw [h, h2] at h1
  injection h1 with e1 e2
  subst e1
  exact ⟨rfl, List.append_cancel_left h⟩
theorem le_apart {k a b : Nat} {r r' : List UInt8} (ha : a < 256 ^ k) (hb : b < 256 ^ k) (h : le k a ++ r = le k b ++ r') : a = b ∧ r = r' := by
  have h1 := List.append_inj h (by rw [le_length, le_length])
  refine ⟨?_, h1.2⟩
  have e := congrArg num h1.1
  rw [num_le, num_le, Nat.mod_eq_of_lt ha, Nat.mod_eq_of_lt hb] at e
  exact e
theorem valR_apart {x y : Rw} {r r' : List UInt8} (hw : x.wire = y.wire) (hx : okR x = true) (hy : okR y = true) (bx : x.n < 18446744073709551616 ∧ x.s.length < 18446744073709551616) (by' : y.n < 18446744073709551616 ∧ y.s.length < 18446744073709551616) (h : valR x ++ r = valR y ++ r') : x.n = y.n ∧ x.s = y.s ∧ r = r' := by
  unfold okR at hx hy
  rw [Bool.and_eq_true] at hx hy
  obtain ⟨hx1, hx2⟩ := hx
  obtain ⟨hy1, hy2⟩ := hy
  rw [rightB_iff] at hx1
  unfold valR at h
  rw [← hw] at h hy2
  by_cases w2 : x.wire = 2
  · rw [if_pos w2] at hx2 hy2
    rw [if_neg (by omega), if_neg (by omega), if_neg (by omega), if_neg (by omega), if_neg (by omega), if_neg (by omega), List.append_assoc, List.append_assoc] at h
    obtain ⟨e1, e2⟩ := uv_apart bx.2 by'.2 h
    obtain ⟨e3, e4⟩ := List.append_inj e2 e1
    exact ⟨by rw [of_decide_eq_true hx2, of_decide_eq_true hy2], e3, e4⟩
  · rw [if_neg w2] at hx2 hy2
    simp only [Bool.and_eq_true, Bool.or_eq_true, decide_eq_true_eq] at hx2 hy2
    have es : x.s = y.s := by rw [hx2.1, hy2.1]
    by_cases w0 : x.wire = 0
    · rw [if_pos w0, if_pos w0] at h
      obtain ⟨e1, e2⟩ := uv_apart bx.1 by'.1 h
      exact ⟨e1, es, e2⟩
    · rw [if_neg w0, if_neg w0] at h
      by_cases w1 : x.wire = 1
      · rw [if_pos w1, if_pos w1] at h
        obtain ⟨e1, e2⟩ := le_apart (k := 8) bx.1 by'.1 h
        exact ⟨e1, es, e2⟩
      · have w5 : x.wire = 5 := by omega
        rw [if_neg w1, if_neg w1, if_pos w5, if_pos w5] at h
        have a1 : x.n < 4294967296 := by rcases hx2.2 with h9 | h9; exact absurd w5 h9; exact h9
        have a2 : y.n < 4294967296 := by rcases hy2.2 with h9 | h9; exact absurd w5 h9; exact h9
        obtain ⟨e1, e2⟩ := le_apart (k := 4) a1 a2 h
        exact ⟨e1, es, e2⟩
def RwFit (x : Rw) : Prop := okR x = true ∧ x.n < 18446744073709551616 ∧ x.s.length < 18446744073709551616
theorem bytesR_apart {x y : Rw} {r r' : List UInt8} (hx : RwFit x) (hy : RwFit y) (h : bytesR x ++ r = bytesR y ++ r') : x = y ∧ r = r' := by
  unfold bytesR at h
  rw [List.append_assoc, List.append_assoc] at h
  obtain ⟨e1, e2⟩ := uv_apart (Nat.lt_trans (tagN_lt _ _) (by decide)) (Nat.lt_trans (tagN_lt _ _) (by decide)) h
  have hrx : rightB x.num x.wire = true := by have := hx.1; unfold okR at this; rw [Bool.and_eq_true] at this; exact this.1
  have hry : rightB y.num y.wire = true := by have := hy.1; unfold okR at this; rw [Bool.and_eq_true] at this; exact this.1
  obtain ⟨_, s1, s2⟩ := split_tag _ _ hrx
  obtain ⟨_, t1, t2⟩ := split_tag _ _ hry
  rw [e1] at s1 s2
  have en : x.num = y.num := s1.symm.trans t1
  have ew : x.wire = y.wire := s2.symm.trans t2
  obtain ⟨a, b, c⟩ := valR_apart ew hx.1 hy.1 hx.2 hy.2 e2
  exact ⟨Rw.ext' en ew a b, c⟩
theorem bytesR_ne (x : Rw) (r : List UInt8) : bytesR x ++ r ≠ [] := by
  unfold bytesR
  intro h
  have := uvarint_ne (tagN x.num x.wire)
  exact this (List.append_eq_nil_iff.mp (List.append_eq_nil_iff.mp h).1).1
theorem putR_apart : ∀ {l m : List Rw}, (∀ x ∈ l, RwFit x) → (∀ x ∈ m, RwFit x) → putR l = putR m → l = m
  | [], [], _, _, _ => rfl
  | [], y :: m, _, _, h => absurd h.symm (bytesR_ne y (putR m))
  | x :: l, [], _, _, h => absurd h (bytesR_ne x (putR l))
  | x :: l, y :: m, hl, hm, h => by
    obtain ⟨e1, e2⟩ := bytesR_apart (hl x List.mem_cons_self) (hm y List.mem_cons_self) (show bytesR x ++ putR l = bytesR y ++ putR m from h)
    rw [e1, putR_apart (fun z hz => hl z (List.mem_cons_of_mem _ hz)) (fun z hz => hm z (List.mem_cons_of_mem _ hz)) e2]
theorem to_wire5 {ty : Int} (n : Nat) (h : wireT ty = 5) : toT ty n < 4294967296 := by
  unfold wireT at h
  have : ty = 8 ∨ ty = 10 := by
    by_cases h1 : ty = 8 ∨ ty = 10
    · exact h1
    · rw [if_neg h1] at h
      split at h
      · cases h
      · split at h <;> cases h
  unfold toT
  rw [if_pos (by omega)]
  omega
theorem to_apart {ty : Int} {a b : Nat} (hty : 1 ≤ ty ∧ ty ≤ 15) (ha : a < 18446744073709551616) (hb : b < 18446744073709551616) (ma : mayT ty a = true) (mb : mayT ty b = true) (h : toT ty a = toT ty b) : a = b := by
  rw [← from_to ty a hty ha ma, ← from_to ty b hty hb mb, h]
theorem wireB_apart {ty : Int} {a b : Nat} {r r' : List UInt8} (hty : 1 ≤ ty ∧ ty ≤ 15) (ha : a < 18446744073709551616) (hb : b < 18446744073709551616) (ma : mayT ty a = true) (mb : mayT ty b = true) (h : wireB ty a ++ r = wireB ty b ++ r') : a = b ∧ r = r' := by
  have la := to_lt ty a ha
  have lb := to_lt ty b hb
  unfold wireB at h
  by_cases w1 : wireT ty = 1
  · rw [if_pos w1, if_pos w1] at h
    obtain ⟨e1, e2⟩ := le_apart (k := 8) la lb h
    exact ⟨to_apart hty ha hb ma mb e1, e2⟩
  · rw [if_neg w1, if_neg w1] at h
    by_cases w5 : wireT ty = 5
    · rw [if_pos w5, if_pos w5] at h
      obtain ⟨e1, e2⟩ := le_apart (k := 4) (to_wire5 a w5) (to_wire5 b w5) h
      exact ⟨to_apart hty ha hb ma mb e1, e2⟩
    · rw [if_neg w5, if_neg w5] at h
      obtain ⟨e1, e2⟩ := uv_apart la lb h
      exact ⟨to_apart hty ha hb ma mb e1, e2⟩
theorem wireB_ne (ty : Int) (n : Nat) (r : List UInt8) : wireB ty n ++ r ≠ [] := by
  unfold wireB
  intro h
  have hl := congrArg List.length h
  rw [List.length_append] at hl
  split at hl
  · rw [le_length] at hl; simp at hl
  · split at hl
    · rw [le_length] at hl; simp at hl
    · have := uvarint_ne (toT ty n)
      have h0 : (uvarint (toT ty n)).length = 0 := by simp at hl; simpa using hl.1
      exact this (List.eq_nil_of_length_eq_zero h0)
def NumFit (ty : Int) (n : Nat) : Prop := n < 18446744073709551616 ∧ mayT ty n = true
theorem pack_apart {ty : Int} (hty : 1 ≤ ty ∧ ty ≤ 15) : ∀ {l m : List Nat}, (∀ n ∈ l, NumFit ty n) → (∀ n ∈ m, NumFit ty n) → l.flatMap (wireB ty) = m.flatMap (wireB ty) → l = m
  | [], [], _, _, _ => rfl
  | [], b :: m, _, _, h => absurd (show wireB ty b ++ m.flatMap (wireB ty) = [] from by rw [← List.flatMap_cons, ← h]; rfl) (wireB_ne ty b _)
  | a :: l, [], _, _, h => absurd (show wireB ty a ++ l.flatMap (wireB ty) = [] from by rw [← List.flatMap_cons, h]; rfl) (wireB_ne ty a _)
  | a :: l, b :: m, hl, hm, h => by
    rw [List.flatMap_cons, List.flatMap_cons] at h
    obtain ⟨a1, a2⟩ := hl a List.mem_cons_self
    obtain ⟨b1, b2⟩ := hm b List.mem_cons_self
    obtain ⟨e1, e2⟩ := wireB_apart hty a1 b1 a2 b2 h
    rw [e1, pack_apart hty (fun z hz => hl z (List.mem_cons_of_mem _ hz)) (fun z hz => hm z (List.mem_cons_of_mem _ hz)) e2]
end Go.Proofs.YtloheacncefkgaaGreatDoor

/- Layer 21, plain: how many bytes a value has, by what a tree leaves of so much. Conditions: those that each theorem names. -/
namespace Go.Proofs.YtloheacncefkgaaGreatDoor
open Go.RowKit Go.Lib
set_option linter.unusedVariables false

/-- What a tree costs, down to a level. -/
def costN : Nat → Tr → Nat
  | 0, _ => 0
  | k + 1, t => t.rest.length + t.slots.length + sumB (fun r : Rw => r.s.length / 20) t.rest + sumB (fun s : Slt => s.svals.length + sumB (fun v : Va => v.vs.length / 20 + sumB (fun u => 1 + costN k u) v.vm) s.svals) t.slots
theorem foldG_sum {α : Type} {f : Int → α → Int} (c : α → Nat) (hf : ∀ n x, 0 ≤ f n x → f n x + (c x : Int) ≤ n) : ∀ (l : List α) (n : Int), 0 ≤ foldG f n l → foldG f n l + (sumB c l : Int) ≤ n
  | [], n, h => by show n + 0 ≤ n; omega
  | x :: l, n, h => by
    have h0 : 0 ≤ n := by
      rcases Int.lt_or_le n 0 with h1 | h1
      · rw [foldG_neg f h1] at h; omega
      · exact h1
    have e : foldG f n (x :: l) = foldG f (f n x) l := by show foldG f (if 0 ≤ n then f n x else n) l = _; rw [if_pos h0]
    rw [e] at h ⊢
    have h2 := foldG_sum c hf l (f n x) h
    have h1 : 0 ≤ f n x := by omega
    have h4 := hf n x h1
    rw [sumB]; push_cast; omega
theorem cost_left : ∀ (k : Nat) (t : Tr) (n d : Int), 0 ≤ leftN k t n d → leftN k t n d + (costN k t : Int) ≤ n
  | 0, t, n, d, h => by unfold leftN costN; omega
  | k + 1, t, n, d, h => by
    unfold leftN at h ⊢
    split at h
    · omega
    rename_i hd
    rw [if_neg hd]
    obtain ⟨lf, hlf⟩ : ∃ lf, lf = (fun (u : Tr) (m : Int) => leftN k u m (d - 1)) := ⟨_, rfl⟩
    rw [← hlf] at h ⊢
    have HL : ∀ u m, 0 ≤ lf u m → lf u m + (costN k u : Int) ≤ m := fun u m h => by
      rw [hlf] at h ⊢
      exact cost_left k u m (d - 1) h
    have hM : ∀ (n : Int) (l : List Tr), 0 ≤ leftM lf n l → leftM lf n l + (sumB (fun u => 1 + costN k u) l : Int) ≤ n := fun n l h =>
      foldG_sum (f := fun n t => lf t (n - 1)) (fun u => 1 + costN k u) (fun n x hx => by
        have h1 := HL x (n - 1) hx
        show lf x (n - 1) + ((1 + costN k x : Nat) : Int) ≤ n
        omega) l n h
    have hV : ∀ (n : Int) (l : List Va), 0 ≤ leftV lf n l → leftV lf n l + (sumB (fun v : Va => v.vs.length / 20 + sumB (fun u => 1 + costN k u) v.vm) l : Int) ≤ n := fun n l h =>
      foldG_sum (f := fun n v => leftM lf (n - ((v.vs.length / 20 : Nat) : Int)) v.vm) (fun v : Va => v.vs.length / 20 + sumB (fun u => 1 + costN k u) v.vm) (fun n v hv => by
        have h1 := hM (n - ((v.vs.length / 20 : Nat) : Int)) v.vm hv
        show leftM lf (n - ((v.vs.length / 20 : Nat) : Int)) v.vm + ((v.vs.length / 20 + sumB (fun u => 1 + costN k u) v.vm : Nat) : Int) ≤ n
        omega) l n h
    have hS : ∀ (n : Int) (l : List Slt), 0 ≤ leftS lf n l → leftS lf n l + (sumB (fun s : Slt => s.svals.length + sumB (fun v : Va => v.vs.length / 20 + sumB (fun u => 1 + costN k u) v.vm) s.svals) l : Int) ≤ n := fun n l h =>
      foldG_sum (f := fun n s => leftV lf (n - (s.svals.length : Int)) s.svals) (fun s : Slt => s.svals.length + sumB (fun v : Va => v.vs.length / 20 + sumB (fun u => 1 + costN k u) v.vm) s.svals) (fun n s hs => by
        have h1 := hV (n - (s.svals.length : Int)) s.svals hs
        show leftV lf (n - (s.svals.length : Int)) s.svals + ((s.svals.length + sumB (fun v : Va => v.vs.length / 20 + sumB (fun u => 1 + costN k u) v.vm) s.svals : Nat) : Int) ≤ n
        omega) l n h
    have h2 := hS _ _ h
    have h3 : 0 ≤ foldG remR (n - (t.rest.length : Int) - (t.slots.length : Int)) t.rest := by omega
    have hR := foldG_sum (f := remR) (fun r : Rw => r.s.length / 20) (fun n r hr => by unfold remR; omega) t.rest _ h3
    have e : costN (k + 1) t = t.rest.length + t.slots.length + sumB (fun r : Rw => r.s.length / 20) t.rest + sumB (fun s : Slt => s.svals.length + sumB (fun v : Va => v.vs.length / 20 + sumB (fun u => 1 + costN k u) v.vm) s.svals) t.slots := by rw [costN]
    rw [e]
    obtain ⟨A, hA⟩ : ∃ A, A = sumB (fun s : Slt => s.svals.length + sumB (fun v : Va => v.vs.length / 20 + sumB (fun u => 1 + costN k u) v.vm) s.svals) t.slots := ⟨_, rfl⟩
    obtain ⟨B, hB⟩ : ∃ B, B = sumB (fun r : Rw => r.s.length / 20) t.rest := ⟨_, rfl⟩
    rw [← hA] at h2 ⊢
    rw [← hB] at hR ⊢
    omega
theorem bytesR_lo {r : Rw} (hn : r.n < 18446744073709551616) (hs : r.s.length < 18446744073709551616) : (bytesR r).length ≤ 20 + r.s.length := by
  unfold bytesR valR
  have h1 := Lib.uvarint_length64 (Nat.lt_trans (tagN_lt r.num r.wire) (by decide))
  have h2 := Lib.uvarint_length64 hn
  have h3 := Lib.uvarint_length64 hs
  rw [List.length_append]
  split
  · omega
  · split
    · rw [le_length]; omega
    · split
      · rw [le_length]; omega
      · rw [List.length_append]; omega
theorem putR_sum {α : Type} {g : α → List Rw} {c : α → Nat} {q : Nat} : ∀ {l : List α}, (∀ x ∈ l, (putR (g x)).length ≤ q * c x) → (putR (l.flatMap g)).length ≤ q * sumB c l
  | [], _ => by show 0 ≤ _; omega
  | x :: l, h => by
    rw [List.flatMap_cons, putR_append, List.length_append, sumB, Nat.mul_add]
    have h1 := h x List.mem_cons_self
    have h2 := putR_sum (fun y hy => h y (List.mem_cons_of_mem _ hy))
    omega
theorem putR_each {α : Type} {g : α → Rw} {c : α → Nat} {q : Nat} : ∀ {l : List α}, (∀ x ∈ l, (bytesR (g x)).length ≤ q * c x) → (putR (l.map g)).length ≤ q * sumB c l
  | [], _ => by show 0 ≤ _; omega
  | x :: l, h => by
    rw [List.map_cons, putR, List.length_append, sumB, Nat.mul_add]
    have h1 := h x List.mem_cons_self
    have h2 := putR_each (fun y hy => h y (List.mem_cons_of_mem _ hy))
    omega
theorem sumB_one {α : Type} : ∀ (l : List α), sumB (fun _ => 1) l = l.length
  | [] => rfl
  | x :: l => by rw [sumB, sumB_one l, List.length_cons]; omega
theorem wireB_len {ty : Int} {n : Nat} (h : n < 18446744073709551616) : (wireB ty n).length ≤ 10 := by
  unfold wireB
  have := Lib.uvarint_length64 (to_lt ty n h)
  split
  · rw [le_length]; omega
  · split
    · rw [le_length]; omega
    · omega
theorem pack_len {ty : Int} : ∀ {l : List Nat}, (∀ n ∈ l, n < 18446744073709551616) → (l.flatMap (wireB ty)).length ≤ 10 * l.length
  | [], _ => by show 0 ≤ _; omega
  | n :: l, h => by
    rw [List.flatMap_cons, List.length_append, List.length_cons]
    have h1 := wireB_len (ty := ty) (h n List.mem_cons_self)
    have h2 := pack_len (ty := ty) (fun y hy => h y (List.mem_cons_of_mem _ hy))
    omega
theorem enc_default (s : Sc) (k : Nat) (name : List UInt8) : encN s k name default = [] := by
  cases k with
  | zero => rfl
  | succ k =>
    unfold encN
    cases vMsg s name <;> rfl
/-- A field's values. -/
theorem sRaws_cost {E : List UInt8 → Tr → List UInt8} {C : Tr → Nat} {f : Fd} {l : List Va} (hE : ∀ v ∈ l, ∀ u ∈ v.vm, (E f.ref u).length ≤ 40 * C u) (h0 : E f.ref default = []) (hb : ∀ v ∈ l, v.vn < 18446744073709551616 ∧ v.vs.length ≤ 140737488351232) (hl : l.length ≤ 140737488351232) (hC : ∀ v ∈ l, ∀ u ∈ v.vm, C u ≤ 140737488351232) :
    (putR (sRaws E f l)).length ≤ 40 * (1 + (l.length + sumB (fun v : Va => v.vs.length / 20 + sumB (fun u => 1 + C u) v.vm) l)) := by
  unfold sRaws
  split
  · have h1 : (packB f (l.map (·.vn))).length ≤ 10 * l.length := by
      unfold packB
      split
      · have := pack_len (ty := f.ty) (l := l.map (·.vn)) (fun n hn => by
          obtain ⟨v, hv, rfl⟩ := List.mem_map.mp hn
          exact (hb v hv).1)
        rwa [List.length_map] at this
      · show 0 ≤ _; omega
    have h2 := bytesR_lo (r := ⟨f.num, 2, 0, packB f (l.map (·.vn))⟩) (by show 0 < 18446744073709551616; decide) (by dsimp only; omega)
    dsimp only at h2
    show (bytesR _ ++ []).length ≤ _
    rw [List.append_nil]
    omega
  · have := putR_each (g := eRaw E f) (q := 40) (c := fun v : Va => 1 + (v.vs.length / 20 + sumB (fun u => 1 + C u) v.vm)) (l := l) (fun v hv => by
      have hbv := hb v hv
      unfold eRaw
      split
      · have h2 := bytesR_lo (r := ⟨f.num, wireT f.ty, toT f.ty v.vn, []⟩) (to_lt _ _ hbv.1) (by show 0 < 18446744073709551616; decide)
        dsimp only [List.length_nil] at h2
        omega
      · split
        · have h3 : (E f.ref (v.vm.headD default)).length ≤ 40 * sumB (fun u => 1 + C u) v.vm ∧ (E f.ref (v.vm.headD default)).length < 18446744073709551616 := by
            cases hm : v.vm with
            | nil => rw [show ([] : List Tr).headD default = default from rfl, h0]; exact ⟨by show 0 ≤ _; omega, by decide⟩
            | cons u r =>
              have h4 := hE v hv u (by rw [hm]; exact List.mem_cons_self)
              have h5 := hC v hv u (by rw [hm]; exact List.mem_cons_self)
              rw [show (u :: r).headD default = u from rfl, sumB]
              omega
          have h2 := bytesR_lo (r := ⟨f.num, 2, 0, E f.ref (v.vm.headD default)⟩) (by show 0 < 18446744073709551616; decide) h3.2
          dsimp only at h2
          omega
        · have h2 := bytesR_lo (r := ⟨f.num, 2, 0, v.vs⟩) (by show 0 < 18446744073709551616; decide) (by dsimp only; omega)
          dsimp only at h2
          omega)
    rw [sumB_add, sumB_one] at this
    omega
theorem cost_kid {k : Nat} {t : Tr} {x : Slt} {v : Va} {u : Tr} (hx : x ∈ t.slots) (hv : v ∈ x.svals) (hu : u ∈ v.vm) : costN k u < costN (k + 1) t := by
  rw [costN]
  have h1 := sumB_mem (fun s : Slt => s.svals.length + sumB (fun v : Va => v.vs.length / 20 + sumB (fun u => 1 + costN k u) v.vm) s.svals) hx
  have h2 := sumB_mem (fun v : Va => v.vs.length / 20 + sumB (fun u => 1 + costN k u) v.vm) hv
  have h3 := sumB_mem (fun u => 1 + costN k u) hu
  omega
/-- A value's bytes are at most forty for each unit of its cost. -/
theorem enc_cost {s : Sc} : ∀ (k : Nat) (name : List UInt8) (t : Tr), OkN k t → costN k t ≤ 140737488351232 → (encN s k name t).length ≤ 40 * costN k t
  | 0, _, _, _, _ => by show 0 ≤ _; omega
  | k + 1, name, t, ho, hc => by
    obtain ⟨_, _, o3, o4⟩ := ho
    cases hm : vMsg s name with
    | none => unfold encN; rw [hm]; show 0 ≤ _; omega
    | some m =>
      rw [encN_some hm]
      unfold tRaws
      rw [putR_append, List.length_append]
      have h1 : (putR t.rest).length ≤ 40 * sumB (fun r : Rw => 1 + r.s.length / 20) t.rest := by
        have := putR_each (g := fun r : Rw => r) (q := 40) (c := fun r : Rw => 1 + r.s.length / 20) (l := t.rest) (fun r hr => by
          have h2 := o3 r hr
          have h3 := bytesR_lo (r := r) h2.2 (by omega)
          omega)
        rwa [List.map_id'] at this
      rw [sumB_add, sumB_one] at h1
      have h2 : (putR (t.slots.flatMap (xRaws (encN s k) m))).length ≤ 40 * sumB (fun x : Slt => 1 + (x.svals.length + sumB (fun v : Va => v.vs.length / 20 + sumB (fun u => 1 + costN k u) v.vm) x.svals)) t.slots := putR_sum (fun x hx => by
        unfold xRaws
        cases hf : vFld m x.snum with
        | none => show 0 ≤ _; omega
        | some f =>
          exact sRaws_cost (C := costN k) (fun v hv u hu => enc_cost k f.ref u (((o4 x hx).2 v hv).2.2 u hu) (Nat.le_trans (Nat.le_of_lt (cost_kid hx hv hu)) hc)) (enc_default s k f.ref) (fun v hv => ⟨((o4 x hx).2 v hv).1.2, ((o4 x hx).2 v hv).1.1⟩) (o4 x hx).1 (fun v hv u hu => Nat.le_trans (Nat.le_of_lt (cost_kid hx hv hu)) hc))
      rw [sumB_add, sumB_one] at h2
      rw [costN]
      omega
end Go.Proofs.YtloheacncefkgaaGreatDoor

/- Layer 21, plain: unlike values of a message have unlike bytes. Conditions: those that each theorem names. -/
namespace Go.Proofs.YtloheacncefkgaaGreatDoor
open Go.RowKit Go.Lib
set_option linter.unusedVariables false

theorem vFld_num {m : Ms} {n : Int} {f : Fd} (h : vFld m n = some f) : f.num = n := by
  unfold vFld numAtT placeZ at h
  by_cases hm : n ∈ fNums m
  · rw [if_pos hm, if_neg (by omega)] at h
    have hi : (fNums m).findIdx (fun x => decide (x = n)) < (fNums m).length := List.findIdx_lt_length.mpr ⟨n, hm, decide_eq_true rfl⟩
    have h1 := List.findIdx_getElem (w := hi)
    have h2 : (fNums m)[(fNums m).findIdx (fun x => decide (x = n))]? = some f.num := by
      unfold fNums at h ⊢
      rw [show (((m.fields.map Fd.num).findIdx (fun x => decide (x = n)) : Nat) : Int).toNat = (m.fields.map Fd.num).findIdx (fun x => decide (x = n)) by omega] at h
      rw [List.getElem?_map, h]
      rfl
    rw [List.getElem?_eq_getElem hi] at h2
    have h3 := Option.some.inj h2
    rw [h3] at h1
    exact of_decide_eq_true h1
  · rw [if_neg hm, if_pos (by decide)] at h; cases h
theorem vFld_mem {m : Ms} {n : Int} {f : Fd} (h : vFld m n = some f) : f ∈ m.fields := by
  rcases fld_way m n with ⟨_, h2⟩ | ⟨i, g, _, h1, h2⟩
  · rw [h2] at h; cases h
  · rw [h2] at h
    obtain rfl := Option.some.inj h
    exact List.mem_of_getElem? h1
theorem vMsg_mem {s : Sc} {t : List UInt8} {m : Ms} (h : vMsg s t = some m) : m ∈ s.msgs := by
  rcases msg_way s t with ⟨_, h2⟩ | ⟨i, g, _, h1, h2⟩
  · rw [h2] at h; cases h
  · rw [h2] at h
    obtain rfl := Option.some.inj h
    exact List.mem_of_getElem? h1
theorem sch_field {s : Sc} (hc : checkT s = 0) {m : Ms} (hm : m ∈ s.msgs) {f : Fd} (hf : f ∈ m.fields) : fcheckT f = 0 :=
  firstBad_zero.1 (check_parts hc).2.2.2.1 f (List.mem_flatMap.mpr ⟨m, hm, hf⟩)
section
variable {V : List UInt8 → Tr → Bool} {E : List UInt8 → Tr → List UInt8} {f : Fd} {k : Nat}
theorem val_parts {v : Va} (h : valT V f v = true) : (numberT f.ty = true ∧ mayT f.ty v.vn = true ∧ v.vs = [] ∧ v.vm = []) ∨ (numberT f.ty = false ∧ f.ty = 15 ∧ v.vn = 0 ∧ v.vs = [] ∧ ∃ t, v.vm = [t] ∧ V f.ref t = true) ∨ (numberT f.ty = false ∧ (f.ty = 12 ∨ f.ty = 13) ∧ v.vn = 0 ∧ v.vm = []) := by
  unfold valT at h
  by_cases hn : numberT f.ty = true
  · rw [if_pos hn] at h
    simp only [Bool.and_eq_true, decide_eq_true_eq] at h
    exact .inl ⟨hn, h.1, h.2.1, List.eq_nil_of_length_eq_zero h.2.2⟩
  · rw [if_neg hn] at h
    have hn' := eq_false_of_ne_true hn
    by_cases h12 : f.ty = 12
    · rw [if_pos h12] at h
      simp only [Bool.and_eq_true, decide_eq_true_eq] at h
      exact .inr (.inr ⟨hn', .inl h12, h.1, List.eq_nil_of_length_eq_zero h.2.1⟩)
    · rw [if_neg h12] at h
      by_cases h13 : f.ty = 13
      · rw [if_pos h13] at h
        simp only [Bool.and_eq_true, decide_eq_true_eq] at h
        exact .inr (.inr ⟨hn', .inr h13, h.1, List.eq_nil_of_length_eq_zero h.2⟩)
      · rw [if_neg h13] at h
        by_cases h15 : f.ty = 15
        · rw [if_pos h15] at h
          simp only [Bool.and_eq_true, decide_eq_true_eq] at h
          refine .inr (.inl ⟨hn', h15, h.1, h.2.1, ?_⟩)
          match hm : v.vm, h.2.2 with
          | [t], h3 => exact ⟨t, rfl, h3⟩
        · rw [if_neg h15] at h; cases h
theorem va_ext {a b : Va} (h1 : a.vn = b.vn) (h2 : a.vs = b.vs) (h3 : a.vm = b.vm) : a = b := by
  cases a; cases b; cases h1; cases h2; cases h3; rfl
/-- Bytes of trees within tell these. -/
def Tells21 (E : List UInt8 → Tr → List UInt8) (name : List UInt8) (t u : Tr) : Prop := E name t = E name u → t = u
theorem eRaw_apart {v w : Va} (hty : 1 ≤ f.ty ∧ f.ty ≤ 15) (hv : valT V f v = true) (hw : valT V f w = true) (bv : v.vn < 18446744073709551616) (bw : w.vn < 18446744073709551616) (hE : ∀ t u, v.vm = [t] → w.vm = [u] → V f.ref t = true → V f.ref u = true → Tells21 E f.ref t u) (h : eRaw E f v = eRaw E f w) : v = w := by
  rcases val_parts hv with ⟨n1, a1, a2, a3⟩ | ⟨n1, n2, a1, a2, t, a3, a4⟩ | ⟨n1, n2, a1, a2⟩
  · rcases val_parts hw with ⟨_, b1, b2, b3⟩ | ⟨m1, _⟩ | ⟨m1, _⟩
    · unfold eRaw at h
      rw [if_pos n1, if_pos n1] at h
      injection h with _ _ h _
      exact va_ext (to_apart hty bv bw a1 b1 h) (by rw [a2, b2]) (by rw [a3, b3])
    · rw [n1] at m1; cases m1
    · rw [n1] at m1; cases m1
  · rcases val_parts hw with ⟨m1, _⟩ | ⟨_, _, b1, b2, u, b3, b4⟩ | ⟨_, m2, _⟩
    · rw [n1] at m1; cases m1
    · unfold eRaw at h
      have nn : ¬ (numberT f.ty = true) := by rw [n1]; decide
      rw [if_neg nn, if_neg nn, if_pos n2, if_pos n2, a3, b3] at h
      injection h with _ _ _ h
      have e := hE t u a3 b3 a4 b4 h
      exact va_ext (by rw [a1, b1]) (by rw [a2, b2]) (by rw [a3, b3, e])
    · omega
  · rcases val_parts hw with ⟨m1, _⟩ | ⟨_, m2, _⟩ | ⟨_, _, b1, b2⟩
    · rw [n1] at m1; cases m1
    · omega
    · unfold eRaw at h
      have nn : ¬ (numberT f.ty = true) := by rw [n1]; decide
      have n5 : ¬ (f.ty = 15) := by omega
      rw [if_neg nn, if_neg nn, if_neg n5, if_neg n5] at h
      injection h with _ _ _ h
      exact va_ext (by rw [a1, b1]) h (by rw [a2, b2])
theorem map_apart {α β : Type} {g : α → β} : ∀ {l m : List α}, (∀ x ∈ l, ∀ y ∈ m, g x = g y → x = y) → l.map g = m.map g → l = m
  | [], [], _, _ => rfl
  | [], y :: m, _, h => by simp at h
  | x :: l, [], _, h => by simp at h
  | x :: l, y :: m, hi, h => by
    rw [List.map_cons, List.map_cons] at h
    injection h with h1 h2
    rw [hi x List.mem_cons_self y List.mem_cons_self h1, map_apart (fun a ha b hb => hi a (List.mem_cons_of_mem _ ha) b (List.mem_cons_of_mem _ hb)) h2]
theorem sRaws_apart {l m : List Va} (hty : 1 ≤ f.ty ∧ f.ty ≤ 15) (hl : ∀ v ∈ l, valT V f v = true ∧ v.vn < 18446744073709551616) (hm : ∀ v ∈ m, valT V f v = true ∧ v.vn < 18446744073709551616)
    (hE : ∀ v ∈ l, ∀ w ∈ m, ∀ t u, v.vm = [t] → w.vm = [u] → V f.ref t = true → V f.ref u = true → Tells21 E f.ref t u) (h : sRaws E f l = sRaws E f m) : l = m := by
  unfold sRaws at h
  by_cases hp : packedT f = true
  · rw [if_pos hp, if_pos hp] at h
    injection h with h _
    injection h with _ _ _ h
    have hn : numberT f.ty = true := by unfold packedT at hp; simp only [Bool.and_eq_true] at hp; exact hp.2.1
    unfold packB at h
    rw [if_pos hn, if_pos hn] at h
    have hnum : ∀ v : Va, valT V f v = true → mayT f.ty v.vn = true ∧ v.vs = [] ∧ v.vm = [] := fun v hv => by
      rcases val_parts hv with ⟨_, a1, a2, a3⟩ | ⟨n1, _⟩ | ⟨n1, _⟩
      · exact ⟨a1, a2, a3⟩
      · rw [hn] at n1; cases n1
      · rw [hn] at n1; cases n1
    have e := pack_apart hty (fun n hn' => by
      obtain ⟨v, hv, rfl⟩ := List.mem_map.mp hn'
      exact ⟨(hl v hv).2, (hnum v (hl v hv).1).1⟩) (fun n hn' => by
      obtain ⟨v, hv, rfl⟩ := List.mem_map.mp hn'
      exact ⟨(hm v hv).2, (hnum v (hm v hv).1).1⟩) h
    refine map_apart (fun x hx y hy e => ?_) e
    obtain ⟨_, a2, a3⟩ := hnum x (hl x hx).1
    obtain ⟨_, b2, b3⟩ := hnum y (hm y hy).1
    exact va_ext e (by rw [a2, b2]) (by rw [a3, b3])
  · rw [if_neg hp, if_neg hp] at h
    exact map_apart (fun x hx y hy e => eRaw_apart hty (hl x hx).1 (hm y hy).1 (hl x hx).2 (hm y hy).2 (hE x hx y hy) e) h
theorem sRaws_num {l : List Va} : ∀ r ∈ sRaws E f l, r.num = f.num := by
  intro r hr
  unfold sRaws at hr
  split at hr
  · rw [List.mem_singleton.mp hr]
  · obtain ⟨v, _, rfl⟩ := List.mem_map.mp hr
    unfold eRaw
    split
    · rfl
    · split <;> rfl
theorem sRaws_ne {l : List Va} (h : l ≠ []) : sRaws E f l ≠ [] := by
  unfold sRaws
  split
  · simp
  · simpa using h
end
theorem slotT_parts {V : List UInt8 → Tr → Bool} {m : Ms} {x : Slt} (h : slotT V m x = true) : ∃ f, vFld m x.snum = some f ∧ x.svals ≠ [] ∧ ∀ v ∈ x.svals, valT V f v = true := by
  unfold slotT at h
  cases hf : vFld m x.snum with
  | none => rw [hf] at h; cases h
  | some f =>
    rw [hf] at h
    have h : slotF V f x = true := h
    unfold slotF at h
    rw [Bool.and_eq_true, List.all_eq_true] at h
    refine ⟨f, rfl, fun e => ?_, fun v hv => ?_⟩
    · rw [e] at h; unfold manyS at h; simp at h
    · have := h.2 v hv
      unfold eachV at this
      rw [Bool.and_eq_true] at this
      exact this.1
section
variable {V : List UInt8 → Tr → Bool} {E : List UInt8 → Tr → List UInt8} {m : Ms}
theorem xRaws_some {x : Slt} {f : Fd} (h : vFld m x.snum = some f) : xRaws E m x = sRaws E f x.svals := by unfold xRaws; rw [h]
theorem xRaws_num {x : Slt} : ∀ r ∈ xRaws E m x, r.num = x.snum := by
  intro r hr
  unfold xRaws at hr
  cases hf : vFld m x.snum with
  | none => rw [hf] at hr; simp at hr
  | some f =>
    rw [hf] at hr
    rw [sRaws_num r hr]
    exact vFld_num hf
theorem head_tail {α : Type} {p : α → Bool} {a b c d : List α} (ha : ∀ x ∈ a, p x = true) (hb : ∀ x ∈ b, p x = false) (hc : ∀ x ∈ c, p x = true) (hd : ∀ x ∈ d, p x = false) (h : a ++ b = c ++ d) : a = c ∧ b = d := by
  have h1 := congrArg (List.filter p) h
  rw [List.filter_append, List.filter_append, List.filter_eq_self.mpr ha, List.filter_eq_self.mpr hc, List.filter_eq_nil_iff.mpr (fun x hx => by rw [hb x hx]; decide), List.filter_eq_nil_iff.mpr (fun x hx => by rw [hd x hx]; decide), List.append_nil, List.append_nil] at h1
  subst h1
  exact ⟨rfl, List.append_cancel_left h⟩
theorem slots_apart (hty : ∀ f ∈ m.fields, 1 ≤ f.ty ∧ f.ty ≤ 15) : ∀ {l n : List Slt}, (l.map (·.snum)).Pairwise (· < ·) → (n.map (·.snum)).Pairwise (· < ·) → (∀ x ∈ l, slotT V m x = true ∧ ∀ v ∈ x.svals, v.vn < 18446744073709551616) → (∀ x ∈ n, slotT V m x = true ∧ ∀ v ∈ x.svals, v.vn < 18446744073709551616) →
    (∀ x ∈ l, ∀ y ∈ n, ∀ v ∈ x.svals, ∀ w ∈ y.svals, ∀ f, vFld m x.snum = some f → vFld m y.snum = some f → ∀ t u, v.vm = [t] → w.vm = [u] → V f.ref t = true → V f.ref u = true → Tells21 E f.ref t u) →
    l.flatMap (xRaws E m) = n.flatMap (xRaws E m) → l = n
  | [], [], _, _, _, _, _, _ => rfl
  | [], y :: n, _, _, _, hn, _, h => by
    obtain ⟨f, h1, h2, _⟩ := slotT_parts (hn y List.mem_cons_self).1
    rw [List.flatMap_nil, List.flatMap_cons, xRaws_some h1] at h
    exact absurd (List.append_eq_nil_iff.mp h.symm).1 (sRaws_ne h2)
  | x :: l, [], _, _, hl, _, _, h => by
    obtain ⟨f, h1, h2, _⟩ := slotT_parts (hl x List.mem_cons_self).1
    rw [List.flatMap_nil, List.flatMap_cons, xRaws_some h1] at h
    exact absurd (List.append_eq_nil_iff.mp h).1 (sRaws_ne h2)
  | x :: l, y :: n, rl, rn, hl, hn, hE, h => by
    obtain ⟨f, h1, h2, h3⟩ := slotT_parts (hl x List.mem_cons_self).1
    obtain ⟨g, g1, g2, g3⟩ := slotT_parts (hn y List.mem_cons_self).1
    rw [List.flatMap_cons, List.flatMap_cons] at h
    rw [List.map_cons, List.pairwise_cons] at rl rn
    have nx : xRaws E m x ≠ [] := by rw [xRaws_some h1]; exact sRaws_ne h2
    have ny : xRaws E m y ≠ [] := by rw [xRaws_some g1]; exact sRaws_ne g2
    have hxy : x.snum = y.snum := by
      match ex : xRaws E m x, ey : xRaws E m y, nx, ny with
      | a :: _, b :: _, _, _ =>
        rw [ex, ey] at h
        injection h with h _
        have ha := xRaws_num (E := E) (m := m) (x := x) a (by rw [ex]; exact List.mem_cons_self)
        have hb := xRaws_num (E := E) (m := m) (x := y) b (by rw [ey]; exact List.mem_cons_self)
        rw [← ha, ← hb, h]
    have far : ∀ (z : Slt) (q : List Slt), (∀ a' ∈ q.map (·.snum), z.snum < a') → ∀ r ∈ q.flatMap (xRaws E m), (decide (r.num = z.snum)) = false := by
      intro z q hz r hr
      obtain ⟨y', hy', hr'⟩ := List.mem_flatMap.mp hr
      rw [xRaws_num r hr']
      have := hz y'.snum (List.mem_map_of_mem hy')
      exact decide_eq_false (by omega)
    obtain ⟨e1, e2⟩ := head_tail (p := fun r => decide (r.num = x.snum)) (fun r hr => decide_eq_true (xRaws_num r hr)) (far x l rl.1) (fun r hr => decide_eq_true ((xRaws_num r hr).trans hxy.symm)) (fun r hr => by rw [hxy]; exact far y n rn.1 r hr) h
    have hfg : f = g := by rw [← hxy, h1] at g1; exact Option.some.inj g1
    subst hfg
    rw [xRaws_some h1, xRaws_some g1] at e1
    have es := sRaws_apart (V := V) (hty f (vFld_mem h1)) (fun v hv => ⟨h3 v hv, (hl x List.mem_cons_self).2 v hv⟩) (fun v hv => ⟨g3 v hv, (hn y List.mem_cons_self).2 v hv⟩) (fun v hv w hw t u => hE x List.mem_cons_self y List.mem_cons_self v hv w hw f h1 g1 t u) e1
    have exy : x = y := by
      cases x; cases y
      cases hxy; cases es; rfl
    rw [exy, slots_apart hty rl.2 rn.2 (fun z hz => hl z (List.mem_cons_of_mem _ hz)) (fun z hz => hn z (List.mem_cons_of_mem _ hz)) (fun a ha b hb => hE a (List.mem_cons_of_mem _ ha) b (List.mem_cons_of_mem _ hb)) e2]
end
theorem bytesR_mem {r : Rw} : ∀ {l : List Rw}, r ∈ l → (bytesR r).length ≤ (putR l).length
  | x :: l, h => by
    rw [show putR (x :: l) = bytesR x ++ putR l from rfl, List.length_append]
    rcases List.mem_cons.mp h with rfl | h
    · omega
    · have := bytesR_mem h; omega
theorem bytesR_len {r : Rw} (hw : r.wire = 2) : r.s.length ≤ (bytesR r).length := by
  unfold bytesR valR
  rw [hw, if_neg (by decide), if_neg (by decide), if_neg (by decide)]
  simp only [List.length_append]
  omega
theorem xRaws_nos {V : List UInt8 → Tr → Bool} {E : List UInt8 → Tr → List UInt8} {m : Ms} {x : Slt} (hx : slotT V m x = true) : ∀ r ∈ xRaws E m x, r.wire ≠ 2 → r.s = [] := by
  obtain ⟨f, h1, h2, h3⟩ := slotT_parts hx
  intro r hr hw
  rw [xRaws_some h1] at hr
  unfold sRaws at hr
  split at hr
  · obtain rfl := List.mem_singleton.mp hr
    exact absurd rfl hw
  · obtain ⟨v, hv, rfl⟩ := List.mem_map.mp hr
    unfold eRaw at hw ⊢
    by_cases hn : numberT f.ty = true
    · rw [if_pos hn]
    · rw [if_neg hn] at hw
      split at hw
      · exact absurd rfl hw
      · exact absurd rfl hw
theorem slot_fit {s : Sc} (hc : checkT s = 0) {V : List UInt8 → Tr → Bool} {E : List UInt8 → Tr → List UInt8} {m : Ms} (hm : m ∈ s.msgs) {x : Slt} (hx : slotT V m x = true) (hb : ∀ v ∈ x.svals, v.vn < 18446744073709551616) : ∀ r ∈ xRaws E m x, r.s.length < 18446744073709551616 → RwFit r := by
  obtain ⟨f, h1, h2, h3⟩ := slotT_parts hx
  obtain ⟨_, _, _, c1, c2, c3, _, _⟩ := fcheck_ok (sch_field hc hm (vFld_mem h1))
  have hnum : numOk f.num = true := by unfold fieldB at c1; rw [Bool.and_eq_true] at c1; exact c1.1
  have hr2 : rightB f.num 2 = true := by unfold rightB; rw [hnum]; rfl
  intro r hr hs
  rw [xRaws_some h1] at hr
  unfold sRaws at hr
  split at hr
  · obtain rfl := List.mem_singleton.mp hr
    exact ⟨by unfold okR; dsimp only; rw [hr2, if_pos rfl]; rfl, by show 0 < 18446744073709551616; decide, hs⟩
  · obtain ⟨v, hv, rfl⟩ := List.mem_map.mp hr
    unfold eRaw at hs ⊢
    by_cases hn : numberT f.ty = true
    · rw [if_pos hn] at hs ⊢
      refine ⟨?_, to_lt _ _ (hb v hv), hs⟩
      have hw2 : wireT f.ty ≠ 2 := by
        intro hw
        unfold wireT at hw
        have : f.ty = 12 ∨ f.ty = 13 ∨ f.ty = 15 := by
          by_cases a : f.ty = 8 ∨ f.ty = 10
          · rw [if_pos a] at hw; cases hw
          · rw [if_neg a] at hw
            by_cases b : f.ty = 9 ∨ f.ty = 11
            · rw [if_pos b] at hw; cases hw
            · rw [if_neg b] at hw
              by_cases c : f.ty = 12 ∨ f.ty = 13 ∨ f.ty = 15
              · exact c
              · rw [if_neg c] at hw; cases hw
        rcases this with e | e | e <;> rw [e] at hn <;> revert hn <;> decide
      have hwr : rightB f.num (wireT f.ty) = true := by
        unfold rightB
        rw [hnum, Bool.true_and, isWire_iff]
        unfold wireT
        split
        · omega
        · split
          · omega
          · split <;> omega
      unfold okR
      dsimp only
      rw [hwr, if_neg hw2]
      simp only [Bool.true_and, Bool.and_eq_true, Bool.or_eq_true, decide_eq_true_eq]
      refine ⟨trivial, ?_⟩
      by_cases h5 : wireT f.ty = 5
      · exact .inr (to_wire5 _ h5)
      · exact .inl h5
    · rw [if_neg hn] at hs ⊢
      by_cases h15 : f.ty = 15
      · rw [if_pos h15] at hs ⊢
        exact ⟨by unfold okR; dsimp only; rw [hr2, if_pos rfl]; rfl, by show 0 < 18446744073709551616; decide, hs⟩
      · rw [if_neg h15] at hs ⊢
        exact ⟨by unfold okR; dsimp only; rw [hr2, if_pos rfl]; rfl, by show 0 < 18446744073709551616; decide, hs⟩
/-- Unlike values of a message have unlike bytes. -/
theorem known_at {s : Sc} {m : Ms} {x : Slt} {V : List UInt8 → Tr → Bool} (hx : slotT V m x = true) : 0 ≤ numAtT m x.snum := by
  obtain ⟨f, h1, _, _⟩ := slotT_parts hx
  unfold vFld at h1
  by_cases h : numAtT m x.snum < 0
  · rw [if_pos h] at h1; cases h1
  · omega
theorem val_kid {V : List UInt8 → Tr → Bool} {E : List UInt8 → Tr → List UInt8} {f : Fd} {l : List Va} {v : Va} {t : Tr} (hl : ∀ v ∈ l, valT V f v = true) (hv : v ∈ l) (ht : v.vm = [t]) : ∃ r ∈ sRaws E f l, r.wire = 2 ∧ r.s = E f.ref t := by
  rcases val_parts (hl v hv) with ⟨_, _, _, a3⟩ | ⟨n1, n2, _, _, u, a3, _⟩ | ⟨_, _, _, a2⟩
  · rw [ht] at a3; cases a3
  · have nn : ¬ (numberT f.ty = true) := by rw [n1]; decide
    have np : ¬ (packedT f = true) := by
      intro h; unfold packedT at h; simp only [Bool.and_eq_true] at h; exact nn h.2.1
    refine ⟨eRaw E f v, ?_, ?_, ?_⟩
    · unfold sRaws; rw [if_neg np]; exact List.mem_map_of_mem hv
    · unfold eRaw; rw [if_neg nn, if_pos n2]
    · unfold eRaw; rw [if_neg nn, if_pos n2, ht]; rfl
  · rw [ht] at a2; cases a2
theorem enc_apart {s : Sc} (hc : checkT s = 0) : ∀ (k : Nat) (name : List UInt8) (x y : Tr), treeN s k name x = true → treeN s k name y = true → OkN k x → OkN k y → (encN s k name x).length < 18446744073709551616 → encN s k name x = encN s k name y → x = y
  | 0, _, _, _, h, _, _, _, _, _ => by unfold treeN at h; cases h
  | k + 1, name, x, y, hx, hy, ox, oy, hl, h => by
    cases hm : vMsg s name with
    | none => rw [treeN_none hm] at hx; cases hx
    | some m =>
      have hmm := vMsg_mem hm
      rw [treeN_some hm] at hx hy
      simp only [Bool.and_eq_true, decide_eq_true_eq, List.all_eq_true] at hx hy
      obtain ⟨x1, x2, x3⟩ := hx
      obtain ⟨y1, y2, y3⟩ := hy
      rw [encN_some hm] at hl h
      rw [encN_some hm] at h
      have hl' : (putR (tRaws (encN s k) m y)).length < 18446744073709551616 := by rw [← h]; exact hl
      obtain ⟨_, _, oxr, oxs⟩ := ox
      obtain ⟨_, _, oyr, oys⟩ := oy
      have sl : ∀ {t : Tr}, AllS (treeN s k) m t.slots → ∀ z ∈ t.slots, slotT (treeN s k) m z = true := by
        intro t ht z hz
        obtain ⟨i, hi⟩ := List.mem_iff_getElem?.mp hz
        have := ht i z hi
        unfold okS at this
        rw [Bool.and_eq_true] at this
        exact this.1
      have sx := sl x2
      have sy := sl y2
      have fit : ∀ {t : Tr}, (∀ z ∈ t.slots, slotT (treeN s k) m z = true) → (∀ r ∈ t.rest, restT m r = true) → (∀ r ∈ t.rest, r.s.length ≤ 140737488351232 ∧ r.n < 18446744073709551616) → (∀ z ∈ t.slots, ∀ v ∈ z.svals, v.vn < 18446744073709551616) → (putR (tRaws (encN s k) m t)).length < 18446744073709551616 → ∀ r ∈ tRaws (encN s k) m t, RwFit r := by
        intro t ht hr ho hb hlen r hrm
        have hs : r.wire = 2 → r.s.length < 18446744073709551616 := fun hw => Nat.lt_of_le_of_lt (Nat.le_trans (bytesR_len hw) (bytesR_mem hrm)) hlen
        unfold tRaws at hrm
        rcases List.mem_append.mp hrm with hrm | hrm
        · obtain ⟨z, hz, hrz⟩ := List.mem_flatMap.mp hrm
          refine slot_fit hc hmm (ht z hz) (hb z hz) r hrz ?_
          by_cases hw : r.wire = 2
          · exact hs hw
          · have : r.s = [] := xRaws_nos (ht z hz) r hrz hw
            rw [this]
            decide
        · have h1 := hr r hrm
          unfold restT at h1
          rw [Bool.and_eq_true] at h1
          have h2 := ho r hrm
          exact ⟨h1.1, h2.2, by omega⟩
      have bx : ∀ z ∈ x.slots, ∀ v ∈ z.svals, v.vn < 18446744073709551616 := fun z hz v hv => ((oxs z hz).2 v hv).1.2
      have by' : ∀ z ∈ y.slots, ∀ v ∈ z.svals, v.vn < 18446744073709551616 := fun z hz v hv => ((oys z hz).2 v hv).1.2
      have e := putR_apart (fit sx x3 oxr bx hl) (fit sy y3 oyr by' hl') h
      unfold tRaws at e
      have kn : ∀ {t : Tr}, (∀ z ∈ t.slots, slotT (treeN s k) m z = true) → ∀ r ∈ t.slots.flatMap (xRaws (encN s k) m), decide (0 ≤ numAtT m r.num) = true := by
        intro t ht r hr
        obtain ⟨z, hz, hrz⟩ := List.mem_flatMap.mp hr
        rw [xRaws_num r hrz]
        exact decide_eq_true (known_at (s := s) (ht z hz))
      have un : ∀ {t : Tr}, (∀ r ∈ t.rest, restT m r = true) → ∀ r ∈ t.rest, decide (0 ≤ numAtT m r.num) = false := by
        intro t ht r hr
        have h1 := ht r hr
        unfold restT at h1
        rw [Bool.and_eq_true] at h1
        have := of_decide_eq_true h1.2
        exact decide_eq_false (by omega)
      obtain ⟨e1, e2⟩ := head_tail (p := fun r : Rw => decide (0 ≤ numAtT m r.num)) (kn sx) (un x3) (kn sy) (un y3) e
      have kid : ∀ {t : Tr}, (∀ z ∈ t.slots, slotT (treeN s k) m z = true) → (putR (tRaws (encN s k) m t)).length < 18446744073709551616 → ∀ z ∈ t.slots, ∀ v ∈ z.svals, ∀ f, vFld m z.snum = some f → ∀ u, v.vm = [u] → (encN s k f.ref u).length < 18446744073709551616 := by
        intro t ht hlen z hz v hv f hf u hu
        obtain ⟨g, g1, _, g3⟩ := slotT_parts (ht z hz)
        have : g = f := by rw [hf] at g1; exact (Option.some.inj g1).symm
        subst this
        obtain ⟨r, r1, r2, r3⟩ := val_kid (E := encN s k) g3 hv hu
        rw [← r3]
        refine Nat.lt_of_le_of_lt (Nat.le_trans (bytesR_len r2) (bytesR_mem (l := tRaws (encN s k) m t) ?_)) hlen
        unfold tRaws
        exact List.mem_append_left _ (List.mem_flatMap.mpr ⟨z, hz, by rw [xRaws_some hf]; exact r1⟩)
      have es := slots_apart (V := treeN s k) (E := encN s k) (m := m) (fun f hf => by
          obtain ⟨_, _, _, _, c2, c3, _, _⟩ := fcheck_ok (sch_field hc hmm hf)
          exact ⟨c2, c3⟩) ((rises_pair _).1 x1) ((rises_pair _).1 y1) (fun z hz => ⟨sx z hz, bx z hz⟩) (fun z hz => ⟨sy z hz, by' z hz⟩)
        (fun a ha b hb v hv w hw f f1 f2 t u ht hu vt vu et => enc_apart hc k f.ref t u vt vu (((oxs a ha).2 v hv).2.2 t (by rw [ht]; exact List.mem_cons_self)) (((oys b hb).2 w hw).2.2 u (by rw [hu]; exact List.mem_cons_self)) (kid sx hl a ha v hv f f1 t ht) et) e1
      cases x; cases y
      cases es; cases e2; rfl
end Go.Proofs.YtloheacncefkgaaGreatDoor

/- Layer 20: words that both sides' walks use (no program here). Conditions: those that each theorem names. -/
namespace Go.Proofs.YtloheacncefkgaaGreatDoor
open Go.RowKit
set_option linter.unusedVariables false
set_option maxRecDepth 100000

theorem vbel {a b c : World} (h : Below a.heap.size a b) (k : Below b.heap.size b c) : Below a.heap.size a c := h.trans (k.mono h.size)
theorem tw_facts (l : List UInt8) : ((strOf l).toList == []) = decide (l = []) := by
  rw [ByteArray.toList_eq]
  cases l <;> simp [strOf]
theorem and7 {a b c d e f g h i : Prop} (k : a ∧ b ∧ c ∧ d ∧ e ∧ f ∧ g) (l : h ∧ i) : a ∧ b ∧ c ∧ d ∧ e ∧ f ∧ g ∧ h ∧ i := ⟨k.1, k.2.1, k.2.2.1, k.2.2.2.1, k.2.2.2.2.1, k.2.2.2.2.2.1, k.2.2.2.2.2.2, l.1, l.2⟩
section
variable {V : List UInt8 → Tr → Bool} {f : Fd} {v : Va}
theorem val_num (h : numberT f.ty = true) : valT V f v = (mayT f.ty v.vn && (decide (v.vs = []) && decide (v.vm.length = 0))) := by unfold valT; rw [if_pos h]
theorem val_12 (h : f.ty = 12) : valT V f v = (decide (v.vn = 0) && (decide (v.vm.length = 0) && Lib.validD v.vs)) := by unfold valT; rw [h, if_neg (by decide), if_pos rfl]
theorem val_13 (h : f.ty = 13) : valT V f v = (decide (v.vn = 0) && decide (v.vm.length = 0)) := by unfold valT; rw [h, if_neg (by decide), if_neg (by decide), if_pos rfl]
theorem val_15 (h : f.ty = 15) : valT V f v = (decide (v.vn = 0) && (decide (v.vs = []) && soleT (V f.ref) v.vm)) := by unfold valT; rw [h, if_neg (by decide), if_neg (by decide), if_neg (by decide), if_pos rfl]
theorem val_no (h : numberT f.ty = false) (h1 : ¬ f.ty = 12) (h2 : ¬ f.ty = 13) (h3 : ¬ f.ty = 15) : valT V f v = false := by unfold valT; rw [h, if_neg (by decide), if_neg h1, if_neg h2, if_neg h3]
end
theorem txt_ways (l : List UInt8) : (decide (l = []) = true ∧ (strOf l).toList = [] ∧ (strOf l).toList.isEmpty = true) ∨ (decide (l = []) = false ∧ ¬ (strOf l).toList = [] ∧ (strOf l).toList.isEmpty = false) := by
  have h := tw_facts l
  by_cases e : l = []
  · rw [decide_eq_true e] at h ⊢
    exact .inl ⟨rfl, beq_iff_eq.1 h, by rw [beq_iff_eq.1 h]; rfl⟩
  · rw [decide_eq_false e] at h ⊢
    exact .inr ⟨rfl, (fun e => by rw [e] at h; cases h), (by rw [List.isEmpty_eq_false_iff]; intro e; rw [e] at h; cases h)⟩
theorem num_ways (n : Nat) : (decide (n = 0) = true ∧ n = 0 ∧ ((n : Int) == 0) = true) ∨ (decide (n = 0) = false ∧ ¬ (n : Int) = 0 ∧ ((n : Int) == 0) = false) := by
  by_cases e : n = 0
  · exact .inl ⟨decide_eq_true e, e, by rw [e]; rfl⟩
  · exact .inr ⟨decide_eq_false e, by omega, beq_false_of_ne (by omega)⟩
theorem one_ways (n : Nat) : (n = 1 ∧ ((n : Int) == 1) = true) ∨ (¬ n = 1 ∧ ¬ (n : Int) = 1 ∧ ((n : Int) == 1) = false) := by
  by_cases e : n = 1
  · exact .inl ⟨e, by rw [e]; rfl⟩
  · exact .inr ⟨e, by omega, beq_false_of_ne (by omega)⟩

end Go.Proofs.YtloheacncefkgaaGreatDoor
