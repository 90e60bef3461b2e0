/- Several texts in one: VdMath, VdOk, VdW. What each proves, and its conditions, stands at its own head. -/
import Derived.Test.YtmdekdmcnnbofaaDoorPkVD2
import Derived.Test.YtmdekdmcnnbofaaDoorPkVD19
import Derived.Lib.ValidU
import Derived.Test.YtmdekdmcnnbofaaDoorPkVD0
import Derived.Below
/- Layer 20 in plain words (no program here): which values are a field's, which trees are a message's. Conditions: those that each theorem names. -/
namespace Go.Proofs.YtmdekdmcnnbofaaDoor
open Go.RowKit
set_option linter.unusedVariables false

def vMsg (s : Sc) (t : List UInt8) : Option Ms := if messageT s t < 0 then none else s.msgs[(messageT s t).toNat]?
def vFld (m : Ms) (n : Int) : Option Fd := if numAtT m n < 0 then none else m.fields[(numAtT m n).toNat]?
theorem placeT_way (l : List (List UInt8)) (t : List UInt8) : placeT l t = -1 ∨ ∃ i : Nat, placeT l t = (i : Int) ∧ i < l.length := by
  unfold placeT
  by_cases h : t ∈ l
  · rw [if_pos h]
    exact .inr ⟨_, rfl, List.findIdx_lt_length.mpr ⟨t, h, decide_eq_true rfl⟩⟩
  · rw [if_neg h]; exact .inl rfl
theorem placeZ_way (l : List Int) (t : Int) : placeZ l t = -1 ∨ ∃ i : Nat, placeZ l t = (i : Int) ∧ i < l.length := by
  unfold placeZ
  by_cases h : t ∈ l
  · rw [if_pos h]
    exact .inr ⟨_, rfl, List.findIdx_lt_length.mpr ⟨t, h, decide_eq_true rfl⟩⟩
  · rw [if_neg h]; exact .inl rfl
theorem msg_way (s : Sc) (t : List UInt8) : (messageT s t = -1 ∧ vMsg s t = none) ∨ ∃ (i : Nat) (m : Ms), messageT s t = (i : Int) ∧ s.msgs[i]? = some m ∧ vMsg s t = some m := by
  unfold vMsg
  rcases placeT_way (mNames s) t with h | ⟨i, h, hi⟩
  · rw [show messageT s t = -1 from h]
    exact .inl ⟨rfl, rfl⟩
  · rw [show messageT s t = (i : Int) from h]
    unfold mNames at hi
    rw [List.length_map] at hi
    rw [if_neg (by omega), show ((i : Int)).toNat = i by omega]
    exact .inr ⟨i, s.msgs[i], rfl, List.getElem?_eq_getElem hi, List.getElem?_eq_getElem hi⟩
theorem fld_way (m : Ms) (n : Int) : (numAtT m n = -1 ∧ vFld m n = none) ∨ ∃ (i : Nat) (f : Fd), numAtT m n = (i : Int) ∧ m.fields[i]? = some f ∧ vFld m n = some f := by
  unfold vFld
  rcases placeZ_way (fNums m) n with h | ⟨i, h, hi⟩
  · rw [show numAtT m n = -1 from h]
    exact .inl ⟨rfl, rfl⟩
  · rw [show numAtT m n = (i : Int) from h]
    unfold fNums at hi
    rw [List.length_map] at hi
    rw [if_neg (by omega), show ((i : Int)).toNat = i by omega]
    exact .inr ⟨i, m.fields[i], rfl, List.getElem?_eq_getElem hi, List.getElem?_eq_getElem hi⟩

def zeroT (v : Va) : Bool := decide (v.vn = 0) && decide (v.vs = [])
def soleT (V : Tr → Bool) : List Tr → Bool
  | [t] => V t
  | _ => false
theorem soleT_not {V : Tr → Bool} {l : List Tr} (h : l.length ≠ 1) : soleT V l = false := by
  match l, h with
  | [], _ => rfl
  | [_], h => exact absurd rfl h
  | _ :: _ :: _, _ => rfl
theorem soleT_one {V : Tr → Bool} {l : List Tr} {t : Tr} (h : l.length = 1) (h0 : l[0]? = some t) : soleT V l = V t := by
  match l, h, h0 with
  | [u], _, h0 => simp at h0; rw [h0]; rfl
/-- A value of the field; the trees within are asked by V. -/
def valT (V : List UInt8 → Tr → Bool) (f : Fd) (v : Va) : Bool :=
  if numberT f.ty = true then mayT f.ty v.vn && (decide (v.vs = []) && decide (v.vm.length = 0))
  else if f.ty = 12 then decide (v.vn = 0) && (decide (v.vm.length = 0) && Lib.validD v.vs)
  else if f.ty = 13 then decide (v.vn = 0) && decide (v.vm.length = 0)
  else if f.ty = 15 then decide (v.vn = 0) && (decide (v.vs = []) && soleT (V f.ref) v.vm)
  else false
def manyS (f : Fd) (n : Nat) : Bool := decide (n = 1) || (f.rep && decide (1 < n))
def eachV (V : List UInt8 → Tr → Bool) (f : Fd) (v : Va) : Bool := valT V f v && !(hiddenT f && zeroT v)
def slotF (V : List UInt8 → Tr → Bool) (f : Fd) (x : Slt) : Bool := manyS f x.svals.length && x.svals.all (eachV V f)
def slotT (V : List UInt8 → Tr → Bool) (m : Ms) (x : Slt) : Bool := match vFld m x.snum with
  | none => false
  | some f => slotF V f x
def oneAt (m : Ms) (x : Slt) : List UInt8 := match vFld m x.snum with
  | none => []
  | some f => f.one
theorem hid_rep {f : Fd} (h : hiddenT f = true) : f.rep = false := by
  have e : hiddenT f = (!f.rep && (decide (f.one = []) && decide (f.ty ≠ 15))) := rfl
  rw [e] at h
  cases hr : f.rep
  · rfl
  · rw [hr] at h; cases h
/-- As the document asks it: the first value alone is looked at. -/
theorem slotF_first (V : List UInt8 → Tr → Bool) (f : Fd) (x : Slt) : slotF V f x = (!decide (x.svals.length = 0) && ((f.rep || decide (x.svals.length = 1)) && (x.svals.all (valT V f) && (!hiddenT f || !zeroT (x.svals.headD default))))) := by
  unfold slotF
  cases hh : hiddenT f with
  | false =>
    have : (fun v => eachV V f v) = valT V f := by
      funext v
      unfold eachV
      rw [hh]
      simp
    rw [show eachV V f = valT V f from this]
    unfold manyS
    generalize x.svals.all (valT V f) = b
    rcases Nat.lt_trichotomy x.svals.length 1 with h | h | h
    · rw [show x.svals.length = 0 by omega]; simp
    · rw [h]; simp
    · rw [decide_eq_false (by omega : ¬ x.svals.length = 1), decide_eq_true h, decide_eq_false (by omega : ¬ x.svals.length = 0)]; simp
  | true =>
    have hr := hid_rep hh
    unfold manyS
    rw [hr]
    match hx : x.svals with
    | [] => rfl
    | [v] => simp [eachV, hh]
    | _ :: _ :: _ => simp
/-- None ahead was in the same oneof. -/
def aloneB (done : List (List UInt8)) (t : List UInt8) : Bool := decide (t = []) || !decide (t ∈ done)
def okS (V : List UInt8 → Tr → Bool) (m : Ms) (l : List Slt) (x : Slt) (i : Nat) : Bool := slotT V m x && aloneB ((l.take i).map (oneAt m)) (oneAt m x)
def AllS (V : List UInt8 → Tr → Bool) (m : Ms) (l : List Slt) : Prop := ∀ (i : Nat) x, l[i]? = some x → okS V m l x i = true
instance (V : List UInt8 → Tr → Bool) (m : Ms) (l : List Slt) : Decidable (AllS V m l) :=
  decidable_of_iff (∀ i : Fin l.length, okS V m l l[i] i = true) ⟨fun h i x hx => by
    obtain ⟨hi, e⟩ := List.getElem?_eq_some_iff.mp hx
    have := h ⟨i, hi⟩
    rw [← e]; exact this, fun h i => h i _ (List.getElem?_eq_getElem i.2)⟩
def restT (m : Ms) (r : Rw) : Bool := okR r && decide (numAtT m r.num < 0)
/-- A value of the message of that name, down to a level. -/
def treeN (s : Sc) : Nat → List UInt8 → Tr → Bool
  | 0, _, _ => false
  | k + 1, name, t => match vMsg s name with
    | none => false
    | some m => risesB (t.slots.map (·.snum)) && (decide (AllS (treeN s k) m t.slots) && t.rest.all (restT m))
theorem treeN_none {s : Sc} {k : Nat} {name : List UInt8} {t : Tr} (h : vMsg s name = none) : treeN s (k + 1) name t = false := by unfold treeN; rw [h]
theorem treeN_some {s : Sc} {k : Nat} {name : List UInt8} {t : Tr} {m : Ms} (h : vMsg s name = some m) : treeN s (k + 1) name t = (risesB (t.slots.map (·.snum)) && (decide (AllS (treeN s k) m t.slots) && t.rest.all (restT m))) := by
  rw [treeN, h]
def knowsT (s : Sc) (name : List UInt8) (n : Int) : Bool := match vMsg s name with
  | none => false
  | some m => decide (0 ≤ numAtT m n)

/-! ### What follows -/
theorem rises_pair : ∀ l : List Int, risesB l = true ↔ l.Pairwise (· < ·)
  | [] => by simp [risesB]
  | [x] => by simp [risesB]
  | x :: y :: r => by
    rw [risesB, Bool.and_eq_true, rises_pair (y :: r), decide_eq_true_iff]
    constructor
    · rintro ⟨h1, h2⟩
      refine List.pairwise_cons.mpr ⟨fun a ha => ?_, h2⟩
      rcases List.mem_cons.mp ha with rfl | ha
      · exact h1
      · have := (List.pairwise_cons.mp h2).1 a ha
        omega
    · intro h
      obtain ⟨h1, h2⟩ := List.pairwise_cons.mp h
      exact ⟨h1 y List.mem_cons_self, h2⟩
theorem allS_iff {V : List UInt8 → Tr → Bool} {m : Ms} {l : List Slt} : AllS V m l ↔ (∀ x ∈ l, slotT V m x = true) ∧ l.Pairwise (fun a b => oneAt m b = [] ∨ oneAt m a ≠ oneAt m b) := by
  constructor
  · intro h
    refine ⟨fun x hx => ?_, ?_⟩
    · obtain ⟨i, hi, e⟩ := List.mem_iff_getElem.mp hx
      have := h i x (by rw [List.getElem?_eq_getElem hi, e])
      unfold okS at this
      rw [Bool.and_eq_true] at this
      exact this.1
    · rw [List.pairwise_iff_getElem]
      intro i j hi hj hij
      have := h j _ (List.getElem?_eq_getElem hj)
      unfold okS aloneB at this
      simp only [Bool.and_eq_true, Bool.or_eq_true, decide_eq_true_eq, Bool.not_eq_true', decide_eq_false_iff_not] at this
      rcases this.2 with h1 | h1
      · exact .inl h1
      · exact .inr fun e => h1 (by rw [← e]; exact List.mem_map_of_mem (List.mem_take_iff_getElem.mpr ⟨i, by omega, rfl⟩))
  · rintro ⟨h1, h2⟩ j x hx
    obtain ⟨hj, e⟩ := List.getElem?_eq_some_iff.mp hx
    rw [List.pairwise_iff_getElem] at h2
    unfold okS aloneB
    rw [h1 x (List.mem_of_getElem? hx), Bool.true_and]
    by_cases h0 : oneAt m x = []
    · rw [decide_eq_true h0]; rfl
    · rw [decide_eq_false h0, Bool.false_or, Bool.not_eq_true', decide_eq_false_iff_not]
      intro hm
      obtain ⟨y, hy, ey⟩ := List.mem_map.mp hm
      obtain ⟨i, hi, ei⟩ := List.mem_take_iff_getElem.mp hy
      have := h2 i j (by omega) hj (by omega)
      rw [e] at this
      rcases this with h3 | h3
      · exact h0 h3
      · exact h3 (by rw [ei]; exact ey)
theorem tree_empty (s : Sc) (k : Nat) (name : List UInt8) : treeN s (k + 1) name (.mk [] []) = decide (0 ≤ messageT s name) := by
  rcases msg_way s name with ⟨h1, h2⟩ | ⟨i, m, h1, _, h2⟩
  · rw [treeN_none h2, h1]; rfl
  · rw [treeN_some h2, h1, decide_eq_true (by omega : (0 : Int) ≤ (i : Int))]
    have : AllS (treeN s k) m (Tr.mk [] []).slots := fun i x hx => by simp [Tr.slots] at hx
    rw [decide_eq_true this]
    rfl
theorem tree_less {s : Sc} {k : Nat} {name : List UInt8} {t u : Tr} (h : treeN s (k + 1) name t = true) (hs : u.slots.Sublist t.slots) (hr : u.rest.Sublist t.rest) : treeN s (k + 1) name u = true := by
  rcases msg_way s name with ⟨h1, h2⟩ | ⟨i, m, h1, _, h2⟩
  · rw [treeN_none h2] at h; cases h
  · rw [treeN_some h2] at h ⊢
    simp only [Bool.and_eq_true, decide_eq_true_eq] at h ⊢
    obtain ⟨a, b, c⟩ := h
    rw [rises_pair] at a ⊢
    rw [allS_iff] at b ⊢
    refine ⟨a.sublist (hs.map _), ⟨fun x hx => b.1 x (hs.subset hx), b.2.sublist hs⟩, ?_⟩
    rw [List.all_eq_true] at c ⊢
    exact fun x hx => c x (hr.subset hx)
end Go.Proofs.YtmdekdmcnnbofaaDoor

/- Layer 20, plain: slots and fields of the Rest, one by one. Conditions: those that each theorem names. -/
namespace Go.Proofs.YtmdekdmcnnbofaaDoor
open Go.RowKit
set_option linter.unusedVariables false

def OkTo (V : List UInt8 → Tr → Bool) (m : Ms) (l : List Slt) (i : Nat) : Prop := ∀ (j : Nat) x, j < i → l[j]? = some x → okS V m l x j = true ∧ ∀ (q : Nat) p, q + 1 = j → l[q]? = some p → p.snum < x.snum
section
variable {V : List UInt8 → Tr → Bool} {m : Ms} {l : List Slt} {i : Nat}
theorem okTo_none : OkTo V m l 0 := fun j x hj => absurd hj (Nat.not_lt_zero _)
theorem okTo_more {x : Slt} (h : OkTo V m l i) (hx : l[i]? = some x) (h1 : okS V m l x i = true) (h2 : ∀ (q : Nat) p, q + 1 = i → l[q]? = some p → p.snum < x.snum) : OkTo V m l (i + 1) := by
  intro j y hj hy
  by_cases e : j < i
  · exact h j y e hy
  · obtain rfl : j = i := by omega
    have e := hx.symm.trans hy
    injection e with e
    subst e
    exact ⟨h1, h2⟩
theorem okTo_rise (h : OkTo V m l i) (hi : l.length ≤ i) : risesB (l.map (·.snum)) = true := by
  rw [risesB_iff]
  intro j a b ha hb
  rw [List.getElem?_map] at ha hb
  obtain ⟨p, hp, rfl⟩ := Option.map_eq_some_iff.mp ha
  obtain ⟨x, hx, rfl⟩ := Option.map_eq_some_iff.mp hb
  exact (h (j + 1) x (by have := (List.getElem?_eq_some_iff.mp hx).1; omega) hx).2 j p rfl hp
theorem okTo_all (h : OkTo V m l i) (hi : l.length ≤ i) : decide (AllS V m l) = true := by
  refine decide_eq_true (fun j x hx => ?_)
  exact (h j x (by have := (List.getElem?_eq_some_iff.mp hx).1; omega) hx).1
theorem bad_rise {q : Nat} {p x : Slt} (hp : l[q]? = some p) (hx : l[q + 1]? = some x) (h : ¬ p.snum < x.snum) : risesB (l.map (·.snum)) = false :=
  risesB_off (j := q) (by rw [List.getElem?_map, hp]; rfl) (by rw [List.getElem?_map, hx]; rfl) h
theorem bad_slot {x : Slt} (hx : l[i]? = some x) (h : okS V m l x i = false) : decide (AllS V m l) = false := by
  refine decide_eq_false (fun ha => ?_)
  have := ha i x hx
  rw [h] at this
  cases this
theorem okS_no {x : Slt} (h : slotT V m x = false) : okS V m l x i = false := by unfold okS; rw [h]; rfl
theorem okS_found {x : Slt} {q : Nat} {t : List UInt8} (hq : ((l.take i).map (oneAt m))[q]? = some t) (he : t = oneAt m x) (h0 : ¬ oneAt m x = []) : okS V m l x i = false := by
  unfold okS aloneB
  rw [decide_eq_false h0, decide_eq_true (by rw [← he]; exact List.mem_of_getElem? hq)]
  simp
theorem okS_free {x : Slt} (h : slotT V m x = true) (hn : ∀ (q : Nat) t, q < i → ((l.take i).map (oneAt m))[q]? = some t → ¬ (t = oneAt m x ∧ ¬ oneAt m x = [])) : okS V m l x i = true := by
  unfold okS aloneB
  rw [h, Bool.true_and]
  by_cases h0 : oneAt m x = []
  · rw [decide_eq_true h0]; rfl
  · rw [decide_eq_false h0, Bool.false_or, Bool.not_eq_true', decide_eq_false_iff_not]
    intro hm
    obtain ⟨q, hq, e⟩ := List.mem_iff_getElem.mp hm
    have hqi : q < i := by rw [List.length_map, List.length_take] at hq; omega
    exact hn q _ hqi (List.getElem?_eq_getElem hq) ⟨e, h0⟩
theorem ones_more {x : Slt} (hx : l[i]? = some x) : (l.take (i + 1)).map (oneAt m) = (l.take i).map (oneAt m) ++ [oneAt m x] := by rw [take_snoc' hx, List.map_append]; rfl
theorem ones_len (hi : i ≤ l.length) : ((l.take i).map (oneAt m)).length = i := by rw [List.length_map, List.length_take]; omega
end
theorem rest_pts {m : Ms} {l : List Rw} {i : Nat} (h : ∀ (j : Nat) r, j < i → l[j]? = some r → restT m r = true) (hi : l.length ≤ i) : l.all (restT m) = true := by
  rw [List.all_eq_true]
  intro x hx
  obtain ⟨j, hj, e⟩ := List.mem_iff_getElem.mp hx
  exact h j x (by omega) (by rw [List.getElem?_eq_getElem hj, e])
theorem rest_bad {m : Ms} {l : List Rw} {j : Nat} {r : Rw} (hr : l[j]? = some r) (h : restT m r = false) : l.all (restT m) = false := by
  rw [List.all_eq_false]
  exact ⟨r, List.mem_of_getElem? hr, by rw [h]; simp⟩
end Go.Proofs.YtmdekdmcnnbofaaDoor

/- Layer 20: words that both sides' walks use (no program here). Conditions: those that each theorem names. -/
namespace Go.Proofs.YtmdekdmcnnbofaaDoor
open Go.RowKit
set_option linter.unusedVariables false
set_option maxRecDepth 100000

theorem vbel {a b c : World} (h : Below a.heap.size a b) (k : Below b.heap.size b c) : Below a.heap.size a c := h.trans (k.mono h.size)
theorem tw_facts (l : List UInt8) : ((strOf l).toList == []) = decide (l = []) := by
  rw [ByteArray.toList_eq]
  cases l <;> simp [strOf]
theorem and7 {a b c d e f g h i : Prop} (k : a ∧ b ∧ c ∧ d ∧ e ∧ f ∧ g) (l : h ∧ i) : a ∧ b ∧ c ∧ d ∧ e ∧ f ∧ g ∧ h ∧ i := ⟨k.1, k.2.1, k.2.2.1, k.2.2.2.1, k.2.2.2.2.1, k.2.2.2.2.2.1, k.2.2.2.2.2.2, l.1, l.2⟩
section
variable {V : List UInt8 → Tr → Bool} {f : Fd} {v : Va}
theorem val_num (h : numberT f.ty = true) : valT V f v = (mayT f.ty v.vn && (decide (v.vs = []) && decide (v.vm.length = 0))) := by unfold valT; rw [if_pos h]
theorem val_12 (h : f.ty = 12) : valT V f v = (decide (v.vn = 0) && (decide (v.vm.length = 0) && Lib.validD v.vs)) := by unfold valT; rw [h, if_neg (by decide), if_pos rfl]
theorem val_13 (h : f.ty = 13) : valT V f v = (decide (v.vn = 0) && decide (v.vm.length = 0)) := by unfold valT; rw [h, if_neg (by decide), if_neg (by decide), if_pos rfl]
theorem val_15 (h : f.ty = 15) : valT V f v = (decide (v.vn = 0) && (decide (v.vs = []) && soleT (V f.ref) v.vm)) := by unfold valT; rw [h, if_neg (by decide), if_neg (by decide), if_neg (by decide), if_pos rfl]
theorem val_no (h : numberT f.ty = false) (h1 : ¬ f.ty = 12) (h2 : ¬ f.ty = 13) (h3 : ¬ f.ty = 15) : valT V f v = false := by unfold valT; rw [h, if_neg (by decide), if_neg h1, if_neg h2, if_neg h3]
end
theorem txt_ways (l : List UInt8) : (decide (l = []) = true ∧ (strOf l).toList = [] ∧ (strOf l).toList.isEmpty = true) ∨ (decide (l = []) = false ∧ ¬ (strOf l).toList = [] ∧ (strOf l).toList.isEmpty = false) := by
  have h := tw_facts l
  by_cases e : l = []
  · rw [decide_eq_true e] at h ⊢
    exact .inl ⟨rfl, beq_iff_eq.1 h, by rw [beq_iff_eq.1 h]; rfl⟩
  · rw [decide_eq_false e] at h ⊢
    exact .inr ⟨rfl, (fun e => by rw [e] at h; cases h), (by rw [List.isEmpty_eq_false_iff]; intro e; rw [e] at h; cases h)⟩
theorem num_ways (n : Nat) : (decide (n = 0) = true ∧ n = 0 ∧ ((n : Int) == 0) = true) ∨ (decide (n = 0) = false ∧ ¬ (n : Int) = 0 ∧ ((n : Int) == 0) = false) := by
  by_cases e : n = 0
  · exact .inl ⟨decide_eq_true e, e, by rw [e]; rfl⟩
  · exact .inr ⟨decide_eq_false e, by omega, beq_false_of_ne (by omega)⟩
theorem one_ways (n : Nat) : (n = 1 ∧ ((n : Int) == 1) = true) ∨ (¬ n = 1 ∧ ¬ (n : Int) = 1 ∧ ((n : Int) == 1) = false) := by
  by_cases e : n = 1
  · exact .inl ⟨e, by rw [e]; rfl⟩
  · exact .inr ⟨e, by omega, beq_false_of_ne (by omega)⟩

end Go.Proofs.YtmdekdmcnnbofaaDoor
