/- Several texts in one: VdMath, EncInj, VdW. What each proves, and its conditions, stands at its own head. -/
import Derived.Test.YtpfdnggacpehdaaGreatDoorPkDU23
import Derived.Test.YtpfdnggacpehdaaGreatDoorPkDU15
import Derived.Lib.ValidU
import Derived.Test.YtpfdnggacpehdaaGreatDoorPkDU4
import Derived.Test.YtpfdnggacpehdaaGreatDoorPkDU1
import Derived.Test.YtpfdnggacpehdaaGreatDoorPkDU0
import Derived.Below
/- Layer 20 in plain words (no program here): which values are a field's, which trees are a message's. Conditions: those that each theorem names. -/
namespace Go.Proofs.YtpfdnggacpehdaaGreatDoor
open Go.RowKit
set_option linter.unusedVariables false

def vMsg (s : Sc) (t : List UInt8) : Option Ms := if messageT s t < 0 then none else s.msgs[(messageT s t).toNat]?
def vFld (m : Ms) (n : Int) : Option Fd := if numAtT m n < 0 then none else m.fields[(numAtT m n).toNat]?
theorem placeT_way (l : List (List UInt8)) (t : List UInt8) : placeT l t = -1 ∨ ∃ i : Nat, placeT l t = (i : Int) ∧ i < l.length := by
  unfold placeT
  by_cases h : t ∈ l
  · rw [if_pos h]
    exact .inr ⟨_, rfl, List.findIdx_lt_length.mpr ⟨t, h, decide_eq_true rfl⟩⟩
  · rw [if_neg h]; exact .inl rfl
theorem placeZ_way (l : List Int) (t : Int) : placeZ l t = -1 ∨ ∃ i : Nat, placeZ l t = (i : Int) ∧ i < l.length := by
  unfold placeZ
  by_cases h : t ∈ l
  · rw [if_pos h]
    exact .inr ⟨_, rfl, List.findIdx_lt_length.mpr ⟨t, h, decide_eq_true rfl⟩⟩
  · rw [if_neg h]; exact .inl rfl
theorem msg_way (s : Sc) (t : List UInt8) : (messageT s t = -1 ∧ vMsg s t = none) ∨ ∃ (i : Nat) (m : Ms), messageT s t = (i : Int) ∧ s.msgs[i]? = some m ∧ vMsg s t = some m := by
  unfold vMsg
  rcases placeT_way (mNames s) t with h | ⟨i, h, hi⟩
  · rw [show messageT s t = -1 from h]
    exact .inl ⟨rfl, rfl⟩
  · rw [show messageT s t = (i : Int) from h]
    unfold mNames at hi
    rw [List.length_map] at hi
    rw [if_neg (by omega), show ((i : Int)).toNat = i by omega]
    exact .inr ⟨i, s.msgs[i], rfl, List.getElem?_eq_getElem hi, List.getElem?_eq_getElem hi⟩
theorem fld_way (m : Ms) (n : Int) : (numAtT m n = -1 ∧ vFld m n = none) ∨ ∃ (i : Nat) (f : Fd), numAtT m n = (i : Int) ∧ m.fields[i]? = some f ∧ vFld m n = some f := by
  unfold vFld
  rcases placeZ_way (fNums m) n with h | ⟨i, h, hi⟩
  · rw [show numAtT m n = -1 from h]
    exact .inl ⟨rfl, rfl⟩
  · rw [show numAtT m n = (i : Int) from h]
    unfold fNums at hi
    rw [List.length_map] at hi
    rw [if_neg (by omega), show ((i : Int)).toNat = i by omega]
    exact .inr ⟨i, m.fields[i], rfl, List.getElem?_eq_getElem hi, List.getElem?_eq_getElem hi⟩

def zeroT (v : Va) : Bool := decide (v.vn = 0) && decide (v.vs = [])
def soleT (V : Tr → Bool) : List Tr → Bool
  | [t] => V t
  | _ => false
/-- A value of the field; the trees within are asked by V. -/
def valT (V : List UInt8 → Tr → Bool) (f : Fd) (v : Va) : Bool :=
  if numberT f.ty = true then mayT f.ty v.vn && (decide (v.vs = []) && decide (v.vm.length = 0))
  else if f.ty = 12 then decide (v.vn = 0) && (decide (v.vm.length = 0) && Lib.validD v.vs)
  else if f.ty = 13 then decide (v.vn = 0) && decide (v.vm.length = 0)
  else if f.ty = 15 then decide (v.vn = 0) && (decide (v.vs = []) && soleT (V f.ref) v.vm)
  else false
def manyS (f : Fd) (n : Nat) : Bool := decide (n = 1) || (f.rep && decide (1 < n))
def eachV (V : List UInt8 → Tr → Bool) (f : Fd) (v : Va) : Bool := valT V f v && !(hiddenT f && zeroT v)
def slotF (V : List UInt8 → Tr → Bool) (f : Fd) (x : Slt) : Bool := manyS f x.svals.length && x.svals.all (eachV V f)
def slotT (V : List UInt8 → Tr → Bool) (m : Ms) (x : Slt) : Bool := match vFld m x.snum with
  | none => false
  | some f => slotF V f x
def oneAt (m : Ms) (x : Slt) : List UInt8 := match vFld m x.snum with
  | none => []
  | some f => f.one
theorem hid_rep {f : Fd} (h : hiddenT f = true) : f.rep = false := by
  have e : hiddenT f = (!f.rep && (decide (f.one = []) && decide (f.ty ≠ 15))) := rfl
  rw [e] at h
  cases hr : f.rep
  · rfl
  · rw [hr] at h; cases h
/-- None ahead was in the same oneof. -/
def aloneB (done : List (List UInt8)) (t : List UInt8) : Bool := decide (t = []) || !decide (t ∈ done)
def okS (V : List UInt8 → Tr → Bool) (m : Ms) (l : List Slt) (x : Slt) (i : Nat) : Bool := slotT V m x && aloneB ((l.take i).map (oneAt m)) (oneAt m x)
def AllS (V : List UInt8 → Tr → Bool) (m : Ms) (l : List Slt) : Prop := ∀ (i : Nat) x, l[i]? = some x → okS V m l x i = true
instance (V : List UInt8 → Tr → Bool) (m : Ms) (l : List Slt) : Decidable (AllS V m l) :=
  decidable_of_iff (∀ i : Fin l.length, okS V m l l[i] i = true) ⟨fun h i x hx => by
    obtain ⟨hi, e⟩ := List.getElem?_eq_some_iff.mp hx
    have := h ⟨i, hi⟩
    rw [← e]; exact this, fun h i => h i _ (List.getElem?_eq_getElem i.2)⟩
def restT (m : Ms) (r : Rw) : Bool := okR r && decide (numAtT m r.num < 0)
/-- A value of the message of that name, down to a level. -/
def treeN (s : Sc) : Nat → List UInt8 → Tr → Bool
  | 0, _, _ => false
  | k + 1, name, t => match vMsg s name with
    | none => false
    | some m => risesB (t.slots.map (·.snum)) && (decide (AllS (treeN s k) m t.slots) && t.rest.all (restT m))
theorem treeN_none {s : Sc} {k : Nat} {name : List UInt8} {t : Tr} (h : vMsg s name = none) : treeN s (k + 1) name t = false := by unfold treeN; rw [h]
theorem treeN_some {s : Sc} {k : Nat} {name : List UInt8} {t : Tr} {m : Ms} (h : vMsg s name = some m) : treeN s (k + 1) name t = (risesB (t.slots.map (·.snum)) && (decide (AllS (treeN s k) m t.slots) && t.rest.all (restT m))) := by
  rw [treeN, h]
/-! ### What follows -/
theorem rises_pair : ∀ l : List Int, risesB l = true ↔ l.Pairwise (· < ·)
  | [] => by simp [risesB]
  | [x] => by simp [risesB]
  | x :: y :: r => by
    rw [risesB, Bool.and_eq_true, rises_pair (y :: r), decide_eq_true_iff]
    constructor
    · rintro ⟨h1, h2⟩
      refine List.pairwise_cons.mpr ⟨fun a ha => ?_, h2⟩
      rcases List.mem_cons.mp ha with rfl | ha
      · exact h1
      · have := (List.pairwise_cons.mp h2).1 a ha
        omega
    · intro h
      obtain ⟨h1, h2⟩ := List.pairwise_cons.mp h
      exact ⟨h1 y List.mem_cons_self, h2⟩
theorem allS_iff {V : List UInt8 → Tr → Bool} {m : Ms} {l : List Slt} : AllS V m l ↔ (∀ x ∈ l, slotT V m x = true) ∧ l.Pairwise (fun a b => oneAt m b = [] ∨ oneAt m a ≠ oneAt m b) := by
  constructor
  · intro h
    refine ⟨fun x hx => ?_, ?_⟩
    · obtain ⟨i, hi, e⟩ := List.mem_iff_getElem.mp hx
      have := h i x (by rw [List.getElem?_eq_getElem hi, e])
      unfold okS at this
      rw [Bool.and_eq_true] at this
      exact this.1
    · rw [List.pairwise_iff_getElem]
      intro i j hi hj hij
      have := h j _ (List.getElem?_eq_getElem hj)
      unfold okS aloneB at this
      simp only [Bool.and_eq_true, Bool.or_eq_true, decide_eq_true_eq, Bool.not_eq_true', decide_eq_false_iff_not] at this
      rcases this.2 with h1 | h1
      · exact .inl h1
      · exact .inr fun e => h1 (by rw [← e]; exact List.mem_map_of_mem (List.mem_take_iff_getElem.mpr ⟨i, by omega, rfl⟩))
  · rintro ⟨h1, h2⟩ j x hx
    obtain ⟨hj, e⟩ := List.getElem?_eq_some_iff.mp hx
    rw [List.pairwise_iff_getElem] at h2
    unfold okS aloneB
    rw [h1 x (List.mem_of_getElem? hx), Bool.true_and]
    by_cases h0 : oneAt m x = []
    · rw [decide_eq_true h0]; rfl
    · rw [decide_eq_false h0, Bool.false_or, Bool.not_eq_true', decide_eq_false_iff_not]
      intro hm
      obtain ⟨y, hy, ey⟩ := List.mem_map.mp hm
      obtain ⟨i, hi, ei⟩ := List.mem_take_iff_getElem.mp hy
      have := h2 i j (by omega) hj (by omega)
      rw [e] at this
      rcases this with h3 | h3
      · exact h0 h3
      · exact h3 (by rw [ei]; exact ey)
theorem tree_empty (s : Sc) (k : Nat) (name : List UInt8) : treeN s (k + 1) name (.mk [] []) = decide (0 ≤ messageT s name) := by
  rcases msg_way s name with ⟨h1, h2⟩ | ⟨i, m, h1, _, h2⟩
  · rw [treeN_none h2, h1]; rfl
  · rw [treeN_some h2, h1, decide_eq_true (by omega : (0 : Int) ≤ (i : Int))]
    have : AllS (treeN s k) m (Tr.mk [] []).slots := fun i x hx => by simp [Tr.slots] at hx
    rw [decide_eq_true this]
    rfl
end Go.Proofs.YtpfdnggacpehdaaGreatDoor

/- Layer 21, plain: unlike values of a message have unlike bytes. Conditions: those that each theorem names. -/
namespace Go.Proofs.YtpfdnggacpehdaaGreatDoor
open Go.RowKit Go.Lib
set_option linter.unusedVariables false

theorem vFld_num {m : Ms} {n : Int} {f : Fd} (h : vFld m n = some f) : f.num = n := by
  unfold vFld numAtT placeZ at h
  by_cases hm : n ∈ fNums m
  · rw [if_pos hm, if_neg (by omega)] at h
    have hi : (fNums m).findIdx (fun x => decide (x = n)) < (fNums m).length := List.findIdx_lt_length.mpr ⟨n, hm, decide_eq_true rfl⟩
    have h1 := List.findIdx_getElem (w := hi)
    have h2 : (fNums m)[(fNums m).findIdx (fun x => decide (x = n))]? = some f.num := by
      unfold fNums at h ⊢
      rw [show (((m.fields.map Fd.num).findIdx (fun x => decide (x = n)) : Nat) : Int).toNat = (m.fields.map Fd.num).findIdx (fun x => decide (x = n)) by omega] at h
      rw [List.getElem?_map, h]
      rfl
    rw [List.getElem?_eq_getElem hi] at h2
    have h3 := Option.some.inj h2
    rw [h3] at h1
    exact of_decide_eq_true h1
  · rw [if_neg hm, if_pos (by decide)] at h; cases h
theorem vFld_mem {m : Ms} {n : Int} {f : Fd} (h : vFld m n = some f) : f ∈ m.fields := by
  rcases fld_way m n with ⟨_, h2⟩ | ⟨i, g, _, h1, h2⟩
  · rw [h2] at h; cases h
  · rw [h2] at h
    obtain rfl := Option.some.inj h
    exact List.mem_of_getElem? h1
theorem vMsg_mem {s : Sc} {t : List UInt8} {m : Ms} (h : vMsg s t = some m) : m ∈ s.msgs := by
  rcases msg_way s t with ⟨_, h2⟩ | ⟨i, g, _, h1, h2⟩
  · rw [h2] at h; cases h
  · rw [h2] at h
    obtain rfl := Option.some.inj h
    exact List.mem_of_getElem? h1
theorem sch_field {s : Sc} (hc : checkT s = 0) {m : Ms} (hm : m ∈ s.msgs) {f : Fd} (hf : f ∈ m.fields) : fcheckT f = 0 :=
  firstBad_zero.1 (check_parts hc).2.2.2.1 f (List.mem_flatMap.mpr ⟨m, hm, hf⟩)
section
variable {V : List UInt8 → Tr → Bool} {E : List UInt8 → Tr → List UInt8} {f : Fd} {k : Nat}
theorem val_parts {v : Va} (h : valT V f v = true) : (numberT f.ty = true ∧ mayT f.ty v.vn = true ∧ v.vs = [] ∧ v.vm = []) ∨ (numberT f.ty = false ∧ f.ty = 15 ∧ v.vn = 0 ∧ v.vs = [] ∧ ∃ t, v.vm = [t] ∧ V f.ref t = true) ∨ (numberT f.ty = false ∧ (f.ty = 12 ∨ f.ty = 13) ∧ v.vn = 0 ∧ v.vm = []) := by
  unfold valT at h
  by_cases hn : numberT f.ty = true
  · rw [if_pos hn] at h
    simp only [Bool.and_eq_true, decide_eq_true_eq] at h
    exact .inl ⟨hn, h.1, h.2.1, List.eq_nil_of_length_eq_zero h.2.2⟩
  · rw [if_neg hn] at h
    have hn' := eq_false_of_ne_true hn
    by_cases h12 : f.ty = 12
    · rw [if_pos h12] at h
      simp only [Bool.and_eq_true, decide_eq_true_eq] at h
      exact .inr (.inr ⟨hn', .inl h12, h.1, List.eq_nil_of_length_eq_zero h.2.1⟩)
    · rw [if_neg h12] at h
      by_cases h13 : f.ty = 13
      · rw [if_pos h13] at h
        simp only [Bool.and_eq_true, decide_eq_true_eq] at h
        exact .inr (.inr ⟨hn', .inr h13, h.1, List.eq_nil_of_length_eq_zero h.2⟩)
      · rw [if_neg h13] at h
        by_cases h15 : f.ty = 15
        · rw [if_pos h15] at h
          simp only [Bool.and_eq_true, decide_eq_true_eq] at h
          refine .inr (.inl ⟨hn', h15, h.1, h.2.1, ?_⟩)
          match hm : v.vm, h.2.2 with
          | [t], h3 => exact ⟨t, rfl, h3⟩
        · rw [if_neg h15] at h; cases h
end
theorem slotT_parts {V : List UInt8 → Tr → Bool} {m : Ms} {x : Slt} (h : slotT V m x = true) : ∃ f, vFld m x.snum = some f ∧ x.svals ≠ [] ∧ ∀ v ∈ x.svals, valT V f v = true := by
  unfold slotT at h
  cases hf : vFld m x.snum with
  | none => rw [hf] at h; cases h
  | some f =>
    rw [hf] at h
    have h : slotF V f x = true := h
    unfold slotF at h
    rw [Bool.and_eq_true, List.all_eq_true] at h
    refine ⟨f, rfl, fun e => ?_, fun v hv => ?_⟩
    · rw [e] at h; unfold manyS at h; simp at h
    · have := h.2 v hv
      unfold eachV at this
      rw [Bool.and_eq_true] at this
      exact this.1
section
variable {V : List UInt8 → Tr → Bool} {E : List UInt8 → Tr → List UInt8} {m : Ms}
end
end Go.Proofs.YtpfdnggacpehdaaGreatDoor

/- Layer 20: words that both sides' walks use (no program here). Conditions: those that each theorem names. -/
namespace Go.Proofs.YtpfdnggacpehdaaGreatDoor
open Go.RowKit
set_option linter.unusedVariables false
set_option maxRecDepth 100000

theorem vbel {a b c : World} (h : Below a.heap.size a b) (k : Below b.heap.size b c) : Below a.heap.size a c := h.trans (k.mono h.size)
theorem tw_facts (l : List UInt8) : ((strOf l).toList == []) = decide (l = []) := by
  rw [ByteArray.toList_eq]
  cases l <;> simp [strOf]
section
variable {V : List UInt8 → Tr → Bool} {f : Fd} {v : Va}
theorem val_num (h : numberT f.ty = true) : valT V f v = (mayT f.ty v.vn && (decide (v.vs = []) && decide (v.vm.length = 0))) := by unfold valT; rw [if_pos h]
theorem val_12 (h : f.ty = 12) : valT V f v = (decide (v.vn = 0) && (decide (v.vm.length = 0) && Lib.validD v.vs)) := by unfold valT; rw [h, if_neg (by decide), if_pos rfl]
theorem val_13 (h : f.ty = 13) : valT V f v = (decide (v.vn = 0) && decide (v.vm.length = 0)) := by unfold valT; rw [h, if_neg (by decide), if_neg (by decide), if_pos rfl]
theorem val_15 (h : f.ty = 15) : valT V f v = (decide (v.vn = 0) && (decide (v.vs = []) && soleT (V f.ref) v.vm)) := by unfold valT; rw [h, if_neg (by decide), if_neg (by decide), if_neg (by decide), if_pos rfl]
end
theorem txt_ways (l : List UInt8) : (decide (l = []) = true ∧ (strOf l).toList = [] ∧ (strOf l).toList.isEmpty = true) ∨ (decide (l = []) = false ∧ ¬ (strOf l).toList = [] ∧ (strOf l).toList.isEmpty = false) := by
  have h := tw_facts l
  by_cases e : l = []
  · rw [decide_eq_true e] at h ⊢
    exact .inl ⟨rfl, beq_iff_eq.1 h, by rw [beq_iff_eq.1 h]; rfl⟩
  · rw [decide_eq_false e] at h ⊢
    exact .inr ⟨rfl, (fun e => by rw [e] at h; cases h), (by rw [List.isEmpty_eq_false_iff]; intro e; rw [e] at h; cases h)⟩
end Go.Proofs.YtpfdnggacpehdaaGreatDoor
