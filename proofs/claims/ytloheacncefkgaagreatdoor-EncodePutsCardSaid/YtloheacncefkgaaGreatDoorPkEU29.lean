/- Several texts in one: VdMath, EncMath, EncCost, EncInj, VdOk, VdW. What each proves, and its conditions, stands at its own head. -/
import Derived.Test.YtloheacncefkgaaGreatDoorPkEU28
import Derived.Test.YtloheacncefkgaaGreatDoorPkEU20
import Derived.Lib.ValidU
import Derived.Test.YtloheacncefkgaaGreatDoorPkEU4
import Derived.Test.YtloheacncefkgaaGreatDoorPkEU1
import Derived.Test.YtloheacncefkgaaGreatDoorPkEU0
import Derived.Below
/- Layer 20 in plain words (no program here): which values are a field's, which trees are a message's. Conditions: those that each theorem names. -/
namespace Go.Proofs.YtloheacncefkgaaGreatDoor
open Go.RowKit
set_option linter.unusedVariables false

def vMsg (s : Sc) (t : List UInt8) : Option Ms := if messageT s t < 0 then none else s.msgs[(messageT s t).toNat]?
def vFld (m : Ms) (n : Int) : Option Fd := if numAtT m n < 0 then none else m.fields[(numAtT m n).toNat]?
theorem placeT_way (l : List (List UInt8)) (t : List UInt8) : placeT l t = -1 ∨ ∃ i : Nat, placeT l t = (i : Int) ∧ i < l.length := by
 unfold placeT
 by_cases h : t ∈ l
 ·rw [if_pos h]
  exact .inr ⟨_, rfl, List.findIdx_lt_length.mpr ⟨t, h, decide_eq_true rfl⟩⟩
 ·rw [if_neg h]; exact .inl rfl
theorem placeZ_way (l : List Int) (t : Int) : placeZ l t = -1 ∨ ∃ i : Nat, placeZ l t = (i : Int) ∧ i < l.length := by
 unfold placeZ
 by_cases h : t ∈ l
 ·rw [if_pos h]
  exact .inr ⟨_, rfl, List.findIdx_lt_length.mpr ⟨t, h, decide_eq_true rfl⟩⟩
 ·rw [if_neg h]; exact .inl rfl
theorem msg_way (s : Sc) (t : List UInt8) : (messageT s t = -1 ∧ vMsg s t = none) ∨ ∃ (i : Nat) (m : Ms), messageT s t = (i : Int) ∧ s.msgs[i]? = some m ∧ vMsg s t = some m := by
 unfold vMsg
 rcases placeT_way (mNames s) t with h | ⟨i, h, hi⟩
 ·rw [show messageT s t = -1 from h]
  exact .inl ⟨rfl, rfl⟩
 ·rw [show messageT s t = (i : Int) from h]
  unfold mNames at hi
  rw [List.length_map] at hi
  rw [if_neg (by omega), show ((i : Int)).toNat = i by omega]
  exact .inr ⟨i, s.msgs[i], rfl, List.getElem?_eq_getElem hi, List.getElem?_eq_getElem hi⟩
theorem fld_way (m : Ms) (n : Int) : (numAtT m n = -1 ∧ vFld m n = none) ∨ ∃ (i : Nat) (f : Fd), numAtT m n = (i : Int) ∧ m.fields[i]? = some f ∧ vFld m n = some f := by
 unfold vFld
 rcases placeZ_way (fNums m) n with h | ⟨i, h, hi⟩
 ·rw [show numAtT m n = -1 from h]
  exact .inl ⟨rfl, rfl⟩
 ·rw [show numAtT m n = (i : Int) from h]
  unfold fNums at hi
  rw [List.length_map] at hi
  rw [if_neg (by omega), show ((i : Int)).toNat = i by omega]
  exact .inr ⟨i, m.fields[i], rfl, List.getElem?_eq_getElem hi, List.getElem?_eq_getElem hi⟩

def zeroT (v : Va) : Bool := decide (v.vn = 0) && decide (v.vs = [])
def soleT (V : Tr → Bool) : List Tr → Bool
 | [t] => V t
 | _ => false
theorem soleT_not {V : Tr → Bool} {l : List Tr} (h : l.length ≠ 1) : soleT V l = false := by
 match l, h with
 | [], _ => rfl
 | [_], h => exact absurd rfl h
 | _ :: _ :: _, _ => rfl
theorem soleT_one {V : Tr → Bool} {l : List Tr} {t : Tr} (h : l.length = 1) (h0 : l[0]? = some t) : soleT V l = V t := by
 match l, h, h0 with
 | [u], _, h0 => simp at h0; rw [h0]; rfl
/-- A value of the field; the trees within are asked by V. -/
def valT (V : List UInt8 → Tr → Bool) (f : Fd) (v : Va) : Bool :=
 if numberT f.ty = true then mayT f.ty v.vn && (decide (v.vs = []) && decide (v.vm.length = 0))
 else if f.ty = 12 then decide (v.vn = 0) && (decide (v.vm.length = 0) && Lib.validD v.vs)
 else if f.ty = 13 then decide (v.vn = 0) && decide (v.vm.length = 0)
 else if f.ty = 15 then decide (v.vn = 0) && (decide (v.vs = []) && soleT (V f.ref) v.vm)
 else false
def manyS (f : Fd) (n : Nat) : Bool := decide (n = 1) || (f.rep && decide (1 < n))
def eachV (V : List UInt8 → Tr → Bool) (f : Fd) (v : Va) : Bool := valT V f v && !(hiddenT f && zeroT v)
def slotF (V : List UInt8 → Tr → Bool) (f : Fd) (x : Slt) : Bool := manyS f x.svals.length && x.svals.all (eachV V f)
def slotT (V : List UInt8 → Tr → Bool) (m : Ms) (x : Slt) : Bool := match vFld m x.snum with
 | none => false
 | some f => slotF V f x
def oneAt (m : Ms) (x : Slt) : List UInt8 := match vFld m x.snum with
 | none => []
 | some f => f.one
theorem hid_rep {f : Fd} (h : hiddenT f = true) : f.rep = false := by
 have e : hiddenT f = (!f.rep && (decide (f.one = []) && decide (f.ty ≠ 15))) := rfl
 rw [e] at h
 cases hr : f.rep
 ·rfl
 ·rw [hr] at h; cases h
/-- As the document asks it: the first value alone is looked at. -/
theorem slotF_first (V : List UInt8 → Tr → Bool) (f : Fd) (x : Slt) : slotF V f x = (!decide (x.svals.length = 0) && ((f.rep || decide (x.svals.length = 1)) && (x.svals.all (valT V f) && (!hiddenT f || !zeroT (x.svals.headD default))))) := by
 unfold slotF
 cases hh : hiddenT f with
 | false =>
   have : (fun v => eachV V f v) = valT V f := by
    funext v
    unfold eachV
    rw [hh]
    simp
   rw [show eachV V f = valT V f from this]
   unfold manyS
   generalize x.svals.all (valT V f) = b
   rcases Nat.lt_trichotomy x.svals.length 1 with h | h | h
   ·rw [show x.svals.length = 0 by omega]; simp
   ·rw [h]; simp
   ·rw [decide_eq_false (by omega : ¬ x.svals.length = 1), decide_eq_true h, decide_eq_false (by omega : ¬ x.svals.length = 0)]; simp
 | true =>
   have hr := hid_rep hh
   unfold manyS
   rw [hr]
   match hx : x.svals with
   | [] => rfl
   | [v] => simp [eachV, hh]
   | _ :: _ :: _ => simp
/-- None ahead was in the same oneof. -/
def aloneB (done : List (List UInt8)) (t : List UInt8) : Bool := decide (t = []) || !decide (t ∈ done)
def okS (V : List UInt8 → Tr → Bool) (m : Ms) (l : List Slt) (x : Slt) (i : Nat) : Bool := slotT V m x && aloneB ((l.take i).map (oneAt m)) (oneAt m x)
def AllS (V : List UInt8 → Tr → Bool) (m : Ms) (l : List Slt) : Prop := ∀ (i : Nat) x, l[i]? = some x → okS V m l x i = true
instance (V : List UInt8 → Tr → Bool) (m : Ms) (l : List Slt) : Decidable (AllS V m l) :=
 decidable_of_iff (∀ i : Fin l.length, okS V m l l[i] i = true) ⟨fun h i x hx => by
  obtain ⟨hi, e⟩ := List.getElem?_eq_some_iff.mp hx
  have := h ⟨i, hi⟩
  rw [← e]; exact this, fun h i => h i _ (List.getElem?_eq_getElem i.2)⟩
def restT (m : Ms) (r : Rw) : Bool := okR r && decide (numAtT m r.num < 0)
/-- A value of the message of that name, down to a level. -/
def treeN (s : Sc) : Nat → List UInt8 → Tr → Bool
 | 0, _, _ => false
 | k + 1, name, t => match vMsg s name with
   | none => false
   | some m => risesB (t.slots.map (·.snum)) && (decide (AllS (treeN s k) m t.slots) && t.rest.all (restT m))
theorem treeN_none {s : Sc} {k : Nat} {name : List UInt8} {t : Tr} (h : vMsg s name = none) : treeN s (k + 1) name t = false := by unfold treeN; rw [h]
theorem treeN_some {s : Sc} {k : Nat} {name : List UInt8} {t : Tr} {m : Ms} (h : vMsg s name = some m) : treeN s (k + 1) name t = (risesB (t.slots.map (·.snum)) && (decide (AllS (treeN s k) m t.slots) && t.rest.all (restT m))) := by
 rw [treeN, h]
/-! ### What follows -/
end Go.Proofs.YtloheacncefkgaaGreatDoor

/- Layer 21 in plain words (no program here): what bytes a message's value is; unlike values have unlike bytes. Conditions: those that each theorem names. -/
namespace Go.Proofs.YtloheacncefkgaaGreatDoor
open Go.RowKit Go.Lib
set_option linter.unusedVariables false

/-- One number on the wire. -/
def wireB (ty : Int) (n : Nat) : List UInt8 := if wireT ty = 1 then le 8 (toT ty n) else if wireT ty = 5 then le 4 (toT ty n) else uvarint (toT ty n)
def packB (f : Fd) (l : List Nat) : List UInt8 := if numberT f.ty = true then l.flatMap (wireB f.ty) else []
def eRaw (E : List UInt8 → Tr → List UInt8) (f : Fd) (v : Va) : Rw :=
 if numberT f.ty = true then ⟨f.num, wireT f.ty, toT f.ty v.vn, []⟩ else if f.ty = 15 then ⟨f.num, 2, 0, E f.ref (v.vm.headD default)⟩ else ⟨f.num, 2, 0, v.vs⟩
def sRaws (E : List UInt8 → Tr → List UInt8) (f : Fd) (l : List Va) : List Rw := if packedT f = true then [⟨f.num, 2, 0, packB f (l.map (·.vn))⟩] else l.map (eRaw E f)
def xRaws (E : List UInt8 → Tr → List UInt8) (m : Ms) (x : Slt) : List Rw := match vFld m x.snum with
 | none => []
 | some f => sRaws E f x.svals
def tRaws (E : List UInt8 → Tr → List UInt8) (m : Ms) (t : Tr) : List Rw := t.slots.flatMap (xRaws E m) ++ t.rest
/-- A value's bytes, down to a level. -/
def encN (s : Sc) : Nat → List UInt8 → Tr → List UInt8
 | 0, _, _ => []
 | k + 1, name, t => match vMsg s name with
   | none => []
   | some m => putR (tRaws (encN s k) m t)
theorem encN_some {s : Sc} {k : Nat} {name : List UInt8} {t : Tr} {m : Ms} (h : vMsg s name = some m) : encN s (k + 1) name t = putR (tRaws (encN s k) m t) := by rw [encN, h]

/-! ### Codes that no other one begins with -/
def RwFit (x : Rw) : Prop := okR x = true ∧ x.n < 18446744073709551616 ∧ x.s.length < 18446744073709551616
theorem to_wire5 {ty : Int} (n : Nat) (h : wireT ty = 5) : toT ty n < 4294967296 := by
 unfold wireT at h
 have : ty = 8 ∨ ty = 10 := by
  by_cases h1 : ty = 8 ∨ ty = 10
  ·exact h1
  ·rw [if_neg h1] at h
   split at h
   ·cases h
   ·split at h <;> cases h
 unfold toT
 rw [if_pos (by omega)]
 omega
end Go.Proofs.YtloheacncefkgaaGreatDoor

/- Layer 21, plain: how many bytes a value has, by what a tree leaves of so much. Conditions: those that each theorem names. -/
namespace Go.Proofs.YtloheacncefkgaaGreatDoor
open Go.RowKit Go.Lib
set_option linter.unusedVariables false

/-- What a tree costs, down to a level. -/
def costN : Nat → Tr → Nat
 | 0, _ => 0
 | k + 1, t => t.rest.length + t.slots.length + sumB (fun r : Rw => r.s.length / 20) t.rest + sumB (fun s : Slt => s.svals.length + sumB (fun v : Va => v.vs.length / 20 + sumB (fun u => 1 + costN k u) v.vm) s.svals) t.slots
theorem foldG_sum {α : Type} {f : Int → α → Int} (c : α → Nat) (hf : ∀ n x, 0 ≤ f n x → f n x + (c x : Int) ≤ n) : ∀ (l : List α) (n : Int), 0 ≤ foldG f n l → foldG f n l + (sumB c l : Int) ≤ n
 | [], n, h => by show n + 0 ≤ n; omega
 | x :: l, n, h => by
   have h0 : 0 ≤ n := by
    rcases Int.lt_or_le n 0 with h1 | h1
    ·rw [foldG_neg f h1] at h; omega
    ·exact h1
   have e : foldG f n (x :: l) = foldG f (f n x) l := by show foldG f (if 0 ≤ n then f n x else n) l = _; rw [if_pos h0]
   rw [e] at h ⊢
   have h2 := foldG_sum c hf l (f n x) h
   have h1 : 0 ≤ f n x := by omega
   have h4 := hf n x h1
   rw [sumB]; push_cast; omega
theorem cost_left : ∀ (k : Nat) (t : Tr) (n d : Int), 0 ≤ leftN k t n d → leftN k t n d + (costN k t : Int) ≤ n
 | 0, t, n, d, h => by unfold leftN costN; omega
 | k + 1, t, n, d, h => by
   unfold leftN at h ⊢
   split at h
   ·omega
   rename_i hd
   rw [if_neg hd]
   obtain ⟨lf, hlf⟩ : ∃ lf, lf = (fun (u : Tr) (m : Int) => leftN k u m (d - 1)) := ⟨_, rfl⟩
   rw [← hlf] at h ⊢
   have HL : ∀ u m, 0 ≤ lf u m → lf u m + (costN k u : Int) ≤ m := fun u m h => by
    rw [hlf] at h ⊢
    exact cost_left k u m (d - 1) h
   have hM : ∀ (n : Int) (l : List Tr), 0 ≤ leftM lf n l → leftM lf n l + (sumB (fun u => 1 + costN k u) l : Int) ≤ n := fun n l h =>
    foldG_sum (f := fun n t => lf t (n - 1)) (fun u => 1 + costN k u) (fun n x hx => by
     have h1 := HL x (n - 1) hx
     show lf x (n - 1) + ((1 + costN k x : Nat) : Int) ≤ n
     omega) l n h
   have hV : ∀ (n : Int) (l : List Va), 0 ≤ leftV lf n l → leftV lf n l + (sumB (fun v : Va => v.vs.length / 20 + sumB (fun u => 1 + costN k u) v.vm) l : Int) ≤ n := fun n l h =>
    foldG_sum (f := fun n v => leftM lf (n - ((v.vs.length / 20 : Nat) : Int)) v.vm) (fun v : Va => v.vs.length / 20 + sumB (fun u => 1 + costN k u) v.vm) (fun n v hv => by
     have h1 := hM (n - ((v.vs.length / 20 : Nat) : Int)) v.vm hv
     show leftM lf (n - ((v.vs.length / 20 : Nat) : Int)) v.vm + ((v.vs.length / 20 + sumB (fun u => 1 + costN k u) v.vm : Nat) : Int) ≤ n
     omega) l n h
   have hS : ∀ (n : Int) (l : List Slt), 0 ≤ leftS lf n l → leftS lf n l + (sumB (fun s : Slt => s.svals.length + sumB (fun v : Va => v.vs.length / 20 + sumB (fun u => 1 + costN k u) v.vm) s.svals) l : Int) ≤ n := fun n l h =>
    foldG_sum (f := fun n s => leftV lf (n - (s.svals.length : Int)) s.svals) (fun s : Slt => s.svals.length + sumB (fun v : Va => v.vs.length / 20 + sumB (fun u => 1 + costN k u) v.vm) s.svals) (fun n s hs => by
     have h1 := hV (n - (s.svals.length : Int)) s.svals hs
     show leftV lf (n - (s.svals.length : Int)) s.svals + ((s.svals.length + sumB (fun v : Va => v.vs.length / 20 + sumB (fun u => 1 + costN k u) v.vm) s.svals : Nat) : Int) ≤ n
     omega) l n h
   have h2 := hS _ _ h
   have h3 : 0 ≤ foldG remR (n - (t.rest.length : Int) - (t.slots.length : Int)) t.rest := by omega
   have hR := foldG_sum (f := remR) (fun r : Rw => r.s.length / 20) (fun n r hr => by unfold remR; omega) t.rest _ h3
   have e : costN (k + 1) t = t.rest.length + t.slots.length + sumB (fun r : Rw => r.s.length / 20) t.rest + sumB (fun s : Slt => s.svals.length + sumB (fun v : Va => v.vs.length / 20 + sumB (fun u => 1 + costN k u) v.vm) s.svals) t.slots := by rw [costN]
   rw [e]
   obtain ⟨A, hA⟩ : ∃ A, A = sumB (fun s : Slt => s.svals.length + sumB (fun v : Va => v.vs.length / 20 + sumB (fun u => 1 + costN k u) v.vm) s.svals) t.slots := ⟨_, rfl⟩
   obtain ⟨B, hB⟩ : ∃ B, B = sumB (fun r : Rw => r.s.length / 20) t.rest := ⟨_, rfl⟩
   rw [← hA] at h2 ⊢
   rw [← hB] at hR ⊢
   omega
theorem bytesR_lo {r : Rw} (hn : r.n < 18446744073709551616) (hs : r.s.length < 18446744073709551616) : (bytesR r).length ≤ 20 + r.s.length := by
 unfold bytesR valR
 have h1 := Lib.uvarint_length64 (Nat.lt_trans (tagN_lt r.num r.wire) (by decide))
 have h2 := Lib.uvarint_length64 hn
 have h3 := Lib.uvarint_length64 hs
 rw [List.length_append]
 split
 ·omega
 ·split
  ·rw [le_length]; omega
  ·split
   ·rw [le_length]; omega
   ·rw [List.length_append]; omega
theorem putR_sum {α : Type} {g : α → List Rw} {c : α → Nat} {q : Nat} : ∀ {l : List α}, (∀ x ∈ l, (putR (g x)).length ≤ q * c x) → (putR (l.flatMap g)).length ≤ q * sumB c l
 | [], _ => by show 0 ≤ _; omega
 | x :: l, h => by
   rw [List.flatMap_cons, putR_append, List.length_append, sumB, Nat.mul_add]
   have h1 := h x List.mem_cons_self
   have h2 := putR_sum (fun y hy => h y (List.mem_cons_of_mem _ hy))
   omega
theorem putR_each {α : Type} {g : α → Rw} {c : α → Nat} {q : Nat} : ∀ {l : List α}, (∀ x ∈ l, (bytesR (g x)).length ≤ q * c x) → (putR (l.map g)).length ≤ q * sumB c l
 | [], _ => by show 0 ≤ _; omega
 | x :: l, h => by
   rw [List.map_cons, putR, List.length_append, sumB, Nat.mul_add]
   have h1 := h x List.mem_cons_self
   have h2 := putR_each (fun y hy => h y (List.mem_cons_of_mem _ hy))
   omega
theorem sumB_one {α : Type} : ∀ (l : List α), sumB (fun _ => 1) l = l.length
 | [] => rfl
 | x :: l => by rw [sumB, sumB_one l, List.length_cons]; omega
theorem wireB_len {ty : Int} {n : Nat} (h : n < 18446744073709551616) : (wireB ty n).length ≤ 10 := by
 unfold wireB
 have := Lib.uvarint_length64 (to_lt ty n h)
 split
 ·rw [le_length]; omega
 ·split
  ·rw [le_length]; omega
  ·omega
theorem pack_len {ty : Int} : ∀ {l : List Nat}, (∀ n ∈ l, n < 18446744073709551616) → (l.flatMap (wireB ty)).length ≤ 10 * l.length
 | [], _ => by show 0 ≤ _; omega
 | n :: l, h => by
   rw [List.flatMap_cons, List.length_append, List.length_cons]
   have h1 := wireB_len (ty := ty) (h n List.mem_cons_self)
   have h2 := pack_len (ty := ty) (fun y hy => h y (List.mem_cons_of_mem _ hy))
   omega
theorem enc_default (s : Sc) (k : Nat) (name : List UInt8) : encN s k name default = [] := by
 cases k with
 | zero => rfl
 | succ k =>
   unfold encN
   cases vMsg s name <;> rfl
/-- A field's values. -/
theorem sRaws_cost {E : List UInt8 → Tr → List UInt8} {C : Tr → Nat} {f : Fd} {l : List Va} (hE : ∀ v ∈ l, ∀ u ∈ v.vm, (E f.ref u).length ≤ 40 * C u) (h0 : E f.ref default = []) (hb : ∀ v ∈ l, v.vn < 18446744073709551616 ∧ v.vs.length ≤ 140737488351232) (hl : l.length ≤ 140737488351232) (hC : ∀ v ∈ l, ∀ u ∈ v.vm, C u ≤ 140737488351232) :
 (putR (sRaws E f l)).length ≤ 40 * (1 + (l.length + sumB (fun v : Va => v.vs.length / 20 + sumB (fun u => 1 + C u) v.vm) l)) := by
 unfold sRaws
 split
 ·have h1 : (packB f (l.map (·.vn))).length ≤ 10 * l.length := by
   unfold packB
   split
   ·have := pack_len (ty := f.ty) (l := l.map (·.vn)) (fun n hn => by
     obtain ⟨v, hv, rfl⟩ := List.mem_map.mp hn
     exact (hb v hv).1)
    rwa [List.length_map] at this
   ·show 0 ≤ _; omega
  have h2 := bytesR_lo (r := ⟨f.num, 2, 0, packB f (l.map (·.vn))⟩) (by show 0 < 18446744073709551616; decide) (by dsimp only; omega)
  dsimp only at h2
  show (bytesR _ ++ []).length ≤ _
  rw [List.append_nil]
  omega
 ·have := putR_each (g := eRaw E f) (q := 40) (c := fun v : Va => 1 + (v.vs.length / 20 + sumB (fun u => 1 + C u) v.vm)) (l := l) (fun v hv => by
   have hbv := hb v hv
   unfold eRaw
   split
   ·have h2 := bytesR_lo (r := ⟨f.num, wireT f.ty, toT f.ty v.vn, []⟩) (to_lt _ _ hbv.1) (by show 0 < 18446744073709551616; decide)
    dsimp only [List.length_nil] at h2
    omega
   ·split
    ·have h3 : (E f.ref (v.vm.headD default)).length ≤ 40 * sumB (fun u => 1 + C u) v.vm ∧ (E f.ref (v.vm.headD default)).length < 18446744073709551616 := by
      cases hm : v.vm with
      | nil => rw [show ([] : List Tr).headD default = default from rfl, h0]; exact ⟨by show 0 ≤ _; omega, by decide⟩
      | cons u r =>
        have h4 := hE v hv u (by rw [hm]; exact List.mem_cons_self)
        have h5 := hC v hv u (by rw [hm]; exact List.mem_cons_self)
        rw [show (u :: r).headD default = u from rfl, sumB]
        omega
     have h2 := bytesR_lo (r := ⟨f.num, 2, 0, E f.ref (v.vm.headD default)⟩) (by show 0 < 18446744073709551616; decide) h3.2
     dsimp only at h2
     omega
    ·have h2 := bytesR_lo (r := ⟨f.num, 2, 0, v.vs⟩) (by show 0 < 18446744073709551616; decide) (by dsimp only; omega)
     dsimp only at h2
     omega)
  rw [sumB_add, sumB_one] at this
  omega
theorem cost_kid {k : Nat} {t : Tr} {x : Slt} {v : Va} {u : Tr} (hx : x ∈ t.slots) (hv : v ∈ x.svals) (hu : u ∈ v.vm) : costN k u < costN (k + 1) t := by
 rw [costN]
 have h1 := sumB_mem (fun s : Slt => s.svals.length + sumB (fun v : Va => v.vs.length / 20 + sumB (fun u => 1 + costN k u) v.vm) s.svals) hx
 have h2 := sumB_mem (fun v : Va => v.vs.length / 20 + sumB (fun u => 1 + costN k u) v.vm) hv
 have h3 := sumB_mem (fun u => 1 + costN k u) hu
 omega
/-- A value's bytes are at most forty for each unit of its cost. -/
theorem enc_cost {s : Sc} : ∀ (k : Nat) (name : List UInt8) (t : Tr), OkN k t → costN k t ≤ 140737488351232 → (encN s k name t).length ≤ 40 * costN k t
 | 0, _, _, _, _ => by show 0 ≤ _; omega
 | k + 1, name, t, ho, hc => by
   obtain ⟨_, _, o3, o4⟩ := ho
   cases hm : vMsg s name with
   | none => unfold encN; rw [hm]; show 0 ≤ _; omega
   | some m =>
     rw [encN_some hm]
     unfold tRaws
     rw [putR_append, List.length_append]
     have h1 : (putR t.rest).length ≤ 40 * sumB (fun r : Rw => 1 + r.s.length / 20) t.rest := by
      have := putR_each (g := fun r : Rw => r) (q := 40) (c := fun r : Rw => 1 + r.s.length / 20) (l := t.rest) (fun r hr => by
       have h2 := o3 r hr
       have h3 := bytesR_lo (r := r) h2.2 (by omega)
       omega)
      rwa [List.map_id'] at this
     rw [sumB_add, sumB_one] at h1
     have h2 : (putR (t.slots.flatMap (xRaws (encN s k) m))).length ≤ 40 * sumB (fun x : Slt => 1 + (x.svals.length + sumB (fun v : Va => v.vs.length / 20 + sumB (fun u => 1 + costN k u) v.vm) x.svals)) t.slots := putR_sum (fun x hx => by
      unfold xRaws
      cases hf : vFld m x.snum with
      | none => show 0 ≤ _; omega
      | some f =>
        exact sRaws_cost (C := costN k) (fun v hv u hu => enc_cost k f.ref u (((o4 x hx).2 v hv).2.2 u hu) (Nat.le_trans (Nat.le_of_lt (cost_kid hx hv hu)) hc)) (enc_default s k f.ref) (fun v hv => ⟨((o4 x hx).2 v hv).1.2, ((o4 x hx).2 v hv).1.1⟩) (o4 x hx).1 (fun v hv u hu => Nat.le_trans (Nat.le_of_lt (cost_kid hx hv hu)) hc))
     rw [sumB_add, sumB_one] at h2
     rw [costN]
     omega
end Go.Proofs.YtloheacncefkgaaGreatDoor

/- Layer 21, plain: unlike values of a message have unlike bytes. Conditions: those that each theorem names. -/
namespace Go.Proofs.YtloheacncefkgaaGreatDoor
open Go.RowKit Go.Lib
set_option linter.unusedVariables false

theorem vFld_mem {m : Ms} {n : Int} {f : Fd} (h : vFld m n = some f) : f ∈ m.fields := by
 rcases fld_way m n with ⟨_, h2⟩ | ⟨i, g, _, h1, h2⟩
 ·rw [h2] at h; cases h
 ·rw [h2] at h
  obtain rfl := Option.some.inj h
  exact List.mem_of_getElem? h1
theorem vMsg_mem {s : Sc} {t : List UInt8} {m : Ms} (h : vMsg s t = some m) : m ∈ s.msgs := by
 rcases msg_way s t with ⟨_, h2⟩ | ⟨i, g, _, h1, h2⟩
 ·rw [h2] at h; cases h
 ·rw [h2] at h
  obtain rfl := Option.some.inj h
  exact List.mem_of_getElem? h1
theorem sch_field {s : Sc} (hc : checkT s = 0) {m : Ms} (hm : m ∈ s.msgs) {f : Fd} (hf : f ∈ m.fields) : fcheckT f = 0 :=
 firstBad_zero.1 (check_parts hc).2.2.2.1 f (List.mem_flatMap.mpr ⟨m, hm, hf⟩)
section
variable {V : List UInt8 → Tr → Bool} {E : List UInt8 → Tr → List UInt8} {f : Fd} {k : Nat}
theorem val_parts {v : Va} (h : valT V f v = true) : (numberT f.ty = true ∧ mayT f.ty v.vn = true ∧ v.vs = [] ∧ v.vm = []) ∨ (numberT f.ty = false ∧ f.ty = 15 ∧ v.vn = 0 ∧ v.vs = [] ∧ ∃ t, v.vm = [t] ∧ V f.ref t = true) ∨ (numberT f.ty = false ∧ (f.ty = 12 ∨ f.ty = 13) ∧ v.vn = 0 ∧ v.vm = []) := by
 unfold valT at h
 by_cases hn : numberT f.ty = true
 ·rw [if_pos hn] at h
  simp only [Bool.and_eq_true, decide_eq_true_eq] at h
  exact .inl ⟨hn, h.1, h.2.1, List.eq_nil_of_length_eq_zero h.2.2⟩
 ·rw [if_neg hn] at h
  have hn' := eq_false_of_ne_true hn
  by_cases h12 : f.ty = 12
  ·rw [if_pos h12] at h
   simp only [Bool.and_eq_true, decide_eq_true_eq] at h
   exact .inr (.inr ⟨hn', .inl h12, h.1, List.eq_nil_of_length_eq_zero h.2.1⟩)
  ·rw [if_neg h12] at h
   by_cases h13 : f.ty = 13
   ·rw [if_pos h13] at h
    simp only [Bool.and_eq_true, decide_eq_true_eq] at h
    exact .inr (.inr ⟨hn', .inr h13, h.1, List.eq_nil_of_length_eq_zero h.2⟩)
   ·rw [if_neg h13] at h
    by_cases h15 : f.ty = 15
    ·rw [if_pos h15] at h
     simp only [Bool.and_eq_true, decide_eq_true_eq] at h
     refine .inr (.inl ⟨hn', h15, h.1, h.2.1, ?_⟩)
     match hm : v.vm, h.2.2 with
     | [t], h3 => exact ⟨t, rfl, h3⟩
    ·rw [if_neg h15] at h; cases h
end
theorem slotT_parts {V : List UInt8 → Tr → Bool} {m : Ms} {x : Slt} (h : slotT V m x = true) : ∃ f, vFld m x.snum = some f ∧ x.svals ≠ [] ∧ ∀ v ∈ x.svals, valT V f v = true := by
 unfold slotT at h
 cases hf : vFld m x.snum with
 | none => rw [hf] at h; cases h
 | some f =>
   rw [hf] at h
   have h : slotF V f x = true := h
   unfold slotF at h
   rw [Bool.and_eq_true, List.all_eq_true] at h
   refine ⟨f, rfl, fun e => ?_, fun v hv => ?_⟩
   ·rw [e] at h; unfold manyS at h; simp at h
   ·have := h.2 v hv
    unfold eachV at this
    rw [Bool.and_eq_true] at this
    exact this.1
section
variable {V : List UInt8 → Tr → Bool} {E : List UInt8 → Tr → List UInt8} {m : Ms}
theorem xRaws_some {x : Slt} {f : Fd} (h : vFld m x.snum = some f) : xRaws E m x = sRaws E f x.svals := by unfold xRaws; rw [h]
end
theorem bytesR_mem {r : Rw} : ∀ {l : List Rw}, r ∈ l → (bytesR r).length ≤ (putR l).length
 | x :: l, h => by
   rw [show putR (x :: l) = bytesR x ++ putR l from rfl, List.length_append]
   rcases List.mem_cons.mp h with rfl | h
   ·omega
   ·have := bytesR_mem h; omega
theorem bytesR_len {r : Rw} (hw : r.wire = 2) : r.s.length ≤ (bytesR r).length := by
 unfold bytesR valR
 rw [hw, if_neg (by decide), if_neg (by decide), if_neg (by decide)]
 simp only [List.length_append]
 omega
theorem xRaws_nos {V : List UInt8 → Tr → Bool} {E : List UInt8 → Tr → List UInt8} {m : Ms} {x : Slt} (hx : slotT V m x = true) : ∀ r ∈ xRaws E m x, r.wire ≠ 2 → r.s = [] := by
 obtain ⟨f, h1, h2, h3⟩ := slotT_parts hx
 intro r hr hw
 rw [xRaws_some h1] at hr
 unfold sRaws at hr
 split at hr
 ·obtain rfl := List.mem_singleton.mp hr
  exact absurd rfl hw
 ·obtain ⟨v, hv, rfl⟩ := List.mem_map.mp hr
  unfold eRaw at hw ⊢
  by_cases hn : numberT f.ty = true
  ·rw [if_pos hn]
  ·rw [if_neg hn] at hw
   split at hw
   ·exact absurd rfl hw
   ·exact absurd rfl hw
theorem slot_fit {s : Sc} (hc : checkT s = 0) {V : List UInt8 → Tr → Bool} {E : List UInt8 → Tr → List UInt8} {m : Ms} (hm : m ∈ s.msgs) {x : Slt} (hx : slotT V m x = true) (hb : ∀ v ∈ x.svals, v.vn < 18446744073709551616) : ∀ r ∈ xRaws E m x, r.s.length < 18446744073709551616 → RwFit r := by
 obtain ⟨f, h1, h2, h3⟩ := slotT_parts hx
 obtain ⟨_, _, _, c1, c2, c3, _, _⟩ := fcheck_ok (sch_field hc hm (vFld_mem h1))
 have hnum : numOk f.num = true := by unfold fieldB at c1; rw [Bool.and_eq_true] at c1; exact c1.1
 have hr2 : rightB f.num 2 = true := by unfold rightB; rw [hnum]; rfl
 intro r hr hs
 rw [xRaws_some h1] at hr
 unfold sRaws at hr
 split at hr
 ·obtain rfl := List.mem_singleton.mp hr
  exact ⟨by unfold okR; dsimp only; rw [hr2, if_pos rfl]; rfl, by show 0 < 18446744073709551616; decide, hs⟩
 ·obtain ⟨v, hv, rfl⟩ := List.mem_map.mp hr
  unfold eRaw at hs ⊢
  by_cases hn : numberT f.ty = true
  ·rw [if_pos hn] at hs ⊢
   refine ⟨?_, to_lt _ _ (hb v hv), hs⟩
   have hw2 : wireT f.ty ≠ 2 := by
    intro hw
    unfold wireT at hw
    have : f.ty = 12 ∨ f.ty = 13 ∨ f.ty = 15 := by
     by_cases a : f.ty = 8 ∨ f.ty = 10
     ·rw [if_pos a] at hw; cases hw
     ·rw [if_neg a] at hw
      by_cases b : f.ty = 9 ∨ f.ty = 11
      ·rw [if_pos b] at hw; cases hw
      ·rw [if_neg b] at hw
       by_cases c : f.ty = 12 ∨ f.ty = 13 ∨ f.ty = 15
       ·exact c
       ·rw [if_neg c] at hw; cases hw
    rcases this with e | e | e <;> rw [e] at hn <;> revert hn <;> decide
   have hwr : rightB f.num (wireT f.ty) = true := by
    unfold rightB
    rw [hnum, Bool.true_and, isWire_iff]
    unfold wireT
    split
    ·omega
    ·split
     ·omega
     ·split <;> omega
   unfold okR
   dsimp only
   rw [hwr, if_neg hw2]
   simp only [Bool.true_and, Bool.and_eq_true, Bool.or_eq_true, decide_eq_true_eq]
   refine ⟨trivial, ?_⟩
   by_cases h5 : wireT f.ty = 5
   ·exact .inr (to_wire5 _ h5)
   ·exact .inl h5
  ·rw [if_neg hn] at hs ⊢
   by_cases h15 : f.ty = 15
   ·rw [if_pos h15] at hs ⊢
    exact ⟨by unfold okR; dsimp only; rw [hr2, if_pos rfl]; rfl, by show 0 < 18446744073709551616; decide, hs⟩
   ·rw [if_neg h15] at hs ⊢
    exact ⟨by unfold okR; dsimp only; rw [hr2, if_pos rfl]; rfl, by show 0 < 18446744073709551616; decide, hs⟩
end Go.Proofs.YtloheacncefkgaaGreatDoor

/- Layer 20, plain: slots and fields of the Rest, one by one. Conditions: those that each theorem names. -/
namespace Go.Proofs.YtloheacncefkgaaGreatDoor
open Go.RowKit
set_option linter.unusedVariables false

def OkTo (V : List UInt8 → Tr → Bool) (m : Ms) (l : List Slt) (i : Nat) : Prop := ∀ (j : Nat) x, j < i → l[j]? = some x → okS V m l x j = true ∧ ∀ (q : Nat) p, q + 1 = j → l[q]? = some p → p.snum < x.snum
section
variable {V : List UInt8 → Tr → Bool} {m : Ms} {l : List Slt} {i : Nat}
theorem okTo_none : OkTo V m l 0 := fun j x hj => absurd hj (Nat.not_lt_zero _)
theorem okTo_more {x : Slt} (h : OkTo V m l i) (hx : l[i]? = some x) (h1 : okS V m l x i = true) (h2 : ∀ (q : Nat) p, q + 1 = i → l[q]? = some p → p.snum < x.snum) : OkTo V m l (i + 1) := by
 intro j y hj hy
 by_cases e : j < i
 ·exact h j y e hy
 ·obtain rfl : j = i := by omega
  have e := hx.symm.trans hy
  injection e with e
  subst e
  exact ⟨h1, h2⟩
theorem okTo_rise (h : OkTo V m l i) (hi : l.length ≤ i) : risesB (l.map (·.snum)) = true := by
 rw [risesB_iff]
 intro j a b ha hb
 rw [List.getElem?_map] at ha hb
 obtain ⟨p, hp, rfl⟩ := Option.map_eq_some_iff.mp ha
 obtain ⟨x, hx, rfl⟩ := Option.map_eq_some_iff.mp hb
 exact (h (j + 1) x (by have := (List.getElem?_eq_some_iff.mp hx).1; omega) hx).2 j p rfl hp
theorem okTo_all (h : OkTo V m l i) (hi : l.length ≤ i) : decide (AllS V m l) = true := by
 refine decide_eq_true (fun j x hx => ?_)
 exact (h j x (by have := (List.getElem?_eq_some_iff.mp hx).1; omega) hx).1
theorem bad_rise {q : Nat} {p x : Slt} (hp : l[q]? = some p) (hx : l[q + 1]? = some x) (h : ¬ p.snum < x.snum) : risesB (l.map (·.snum)) = false :=
 risesB_off (j := q) (by rw [List.getElem?_map, hp]; rfl) (by rw [List.getElem?_map, hx]; rfl) h
theorem bad_slot {x : Slt} (hx : l[i]? = some x) (h : okS V m l x i = false) : decide (AllS V m l) = false := by
 refine decide_eq_false (fun ha => ?_)
 have := ha i x hx
 rw [h] at this
 cases this
theorem okS_no {x : Slt} (h : slotT V m x = false) : okS V m l x i = false := by unfold okS; rw [h]; rfl
theorem okS_found {x : Slt} {q : Nat} {t : List UInt8} (hq : ((l.take i).map (oneAt m))[q]? = some t) (he : t = oneAt m x) (h0 : ¬ oneAt m x = []) : okS V m l x i = false := by
 unfold okS aloneB
 rw [decide_eq_false h0, decide_eq_true (by rw [← he]; exact List.mem_of_getElem? hq)]
 simp
theorem okS_free {x : Slt} (h : slotT V m x = true) (hn : ∀ (q : Nat) t, q < i → ((l.take i).map (oneAt m))[q]? = some t → ¬ (t = oneAt m x ∧ ¬ oneAt m x = [])) : okS V m l x i = true := by
 unfold okS aloneB
 rw [h, Bool.true_and]
 by_cases h0 : oneAt m x = []
 ·rw [decide_eq_true h0]; rfl
 ·rw [decide_eq_false h0, Bool.false_or, Bool.not_eq_true', decide_eq_false_iff_not]
  intro hm
  obtain ⟨q, hq, e⟩ := List.mem_iff_getElem.mp hm
  have hqi : q < i := by rw [List.length_map, List.length_take] at hq; omega
  exact hn q _ hqi (List.getElem?_eq_getElem hq) ⟨e, h0⟩
theorem ones_more {x : Slt} (hx : l[i]? = some x) : (l.take (i + 1)).map (oneAt m) = (l.take i).map (oneAt m) ++ [oneAt m x] := by rw [take_snoc' hx, List.map_append]; rfl
theorem ones_len (hi : i ≤ l.length) : ((l.take i).map (oneAt m)).length = i := by rw [List.length_map, List.length_take]; omega
end
theorem rest_pts {m : Ms} {l : List Rw} {i : Nat} (h : ∀ (j : Nat) r, j < i → l[j]? = some r → restT m r = true) (hi : l.length ≤ i) : l.all (restT m) = true := by
 rw [List.all_eq_true]
 intro x hx
 obtain ⟨j, hj, e⟩ := List.mem_iff_getElem.mp hx
 exact h j x (by omega) (by rw [List.getElem?_eq_getElem hj, e])
theorem rest_bad {m : Ms} {l : List Rw} {j : Nat} {r : Rw} (hr : l[j]? = some r) (h : restT m r = false) : l.all (restT m) = false := by
 rw [List.all_eq_false]
 exact ⟨r, List.mem_of_getElem? hr, by rw [h]; simp⟩
end Go.Proofs.YtloheacncefkgaaGreatDoor

/- Layer 20: words that both sides' walks use (no program here). Conditions: those that each theorem names. -/
namespace Go.Proofs.YtloheacncefkgaaGreatDoor
open Go.RowKit
set_option linter.unusedVariables false
set_option maxRecDepth 100000

theorem vbel {a b c : World} (h : Below a.heap.size a b) (k : Below b.heap.size b c) : Below a.heap.size a c := h.trans (k.mono h.size)
theorem tw_facts (l : List UInt8) : ((strOf l).toList == []) = decide (l = []) := by
 rw [ByteArray.toList_eq]
 cases l <;> simp [strOf]
theorem and7 {a b c d e f g h i : Prop} (k : a ∧ b ∧ c ∧ d ∧ e ∧ f ∧ g) (l : h ∧ i) : a ∧ b ∧ c ∧ d ∧ e ∧ f ∧ g ∧ h ∧ i := ⟨k.1, k.2.1, k.2.2.1, k.2.2.2.1, k.2.2.2.2.1, k.2.2.2.2.2.1, k.2.2.2.2.2.2, l.1, l.2⟩
section
variable {V : List UInt8 → Tr → Bool} {f : Fd} {v : Va}
theorem val_num (h : numberT f.ty = true) : valT V f v = (mayT f.ty v.vn && (decide (v.vs = []) && decide (v.vm.length = 0))) := by unfold valT; rw [if_pos h]
theorem val_12 (h : f.ty = 12) : valT V f v = (decide (v.vn = 0) && (decide (v.vm.length = 0) && Lib.validD v.vs)) := by unfold valT; rw [h, if_neg (by decide), if_pos rfl]
theorem val_13 (h : f.ty = 13) : valT V f v = (decide (v.vn = 0) && decide (v.vm.length = 0)) := by unfold valT; rw [h, if_neg (by decide), if_neg (by decide), if_pos rfl]
theorem val_15 (h : f.ty = 15) : valT V f v = (decide (v.vn = 0) && (decide (v.vs = []) && soleT (V f.ref) v.vm)) := by unfold valT; rw [h, if_neg (by decide), if_neg (by decide), if_neg (by decide), if_pos rfl]
theorem val_no (h : numberT f.ty = false) (h1 : ¬ f.ty = 12) (h2 : ¬ f.ty = 13) (h3 : ¬ f.ty = 15) : valT V f v = false := by unfold valT; rw [h, if_neg (by decide), if_neg h1, if_neg h2, if_neg h3]
end
theorem txt_ways (l : List UInt8) : (decide (l = []) = true ∧ (strOf l).toList = [] ∧ (strOf l).toList.isEmpty = true) ∨ (decide (l = []) = false ∧ ¬ (strOf l).toList = [] ∧ (strOf l).toList.isEmpty = false) := by
 have h := tw_facts l
 by_cases e : l = []
 ·rw [decide_eq_true e] at h ⊢
  exact .inl ⟨rfl, beq_iff_eq.1 h, by rw [beq_iff_eq.1 h]; rfl⟩
 ·rw [decide_eq_false e] at h ⊢
  exact .inr ⟨rfl, (fun e => by rw [e] at h; cases h), (by rw [List.isEmpty_eq_false_iff]; intro e; rw [e] at h; cases h)⟩
theorem num_ways (n : Nat) : (decide (n = 0) = true ∧ n = 0 ∧ ((n : Int) == 0) = true) ∨ (decide (n = 0) = false ∧ ¬ (n : Int) = 0 ∧ ((n : Int) == 0) = false) := by
 by_cases e : n = 0
 ·exact .inl ⟨decide_eq_true e, e, by rw [e]; rfl⟩
 ·exact .inr ⟨decide_eq_false e, by omega, beq_false_of_ne (by omega)⟩
theorem one_ways (n : Nat) : (n = 1 ∧ ((n : Int) == 1) = true) ∨ (¬ n = 1 ∧ ¬ (n : Int) = 1 ∧ ((n : Int) == 1) = false) := by
 by_cases e : n = 1
 ·exact .inl ⟨e, by rw [e]; rfl⟩
 ·exact .inr ⟨e, by omega, beq_false_of_ne (by omega)⟩

end Go.Proofs.YtloheacncefkgaaGreatDoor
