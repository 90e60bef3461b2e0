/- Several texts in one: FxA, FxM, LstApp. What each proves, and its conditions, stands at its own head. -/
import Derived.Test.YtloheacncefkgaaGreatDoorPkEU20
import Derived.Shelf.Abstract
import Derived.Deep.RegionHeld3
import Derived.Test.YtloheacncefkgaaGreatDoorPkEU2
import Derived.Maps.OwnSet
import Derived.Maps.OwnIn
import Derived.Below
import Derived.Test.YtloheacncefkgaaGreatDoorPkEU19
import Derived.Test.YtloheacncefkgaaGreatDoorPkEU5
import Derived.Test.YtloheacncefkgaaGreatDoorPkEU0
/- slices.IndexFunc at the lists of a schema, by whatever function is handed on: the first place. Conditions: those that each theorem names. -/
namespace Go.Proofs.YtloheacncefkgaaGreatDoor
open Go.RowKit
set_option linter.unusedVariables false
set_option maxRecDepth 100000

/-- The first place at which it is so; -1, if it is so at none. -/
def posP {α : Type} (l : List α) (p : α → Bool) : Int := if l.any p = true then (l.findIdx p : Int) else -1
theorem posP_hit {α : Type} {l : List α} {p : α → Bool} {i : Nat} {x : α} (h : l[i]? = some x) (hp : p x = true) (ht : (l.take i).any p = false) : posP l p = (i : Int) := by
 have hi := (List.getElem?_eq_some_iff.mp h).1
 have hx := (List.getElem?_eq_some_iff.mp h).2
 unfold posP
 rw [if_pos (List.any_eq_true.mpr ⟨x, List.mem_of_getElem? h, hp⟩)]
 have : l.findIdx p = i := by
  rw [List.findIdx_eq hi]
  refine ⟨by rw [hx]; exact hp, fun j hj => ?_⟩
  rw [List.any_eq_false] at ht
  have hm : l[j] ∈ l.take i := List.mem_take_iff_getElem.mpr ⟨j, by omega, rfl⟩
  have := ht _ hm
  simpa using this
 rw [this]
theorem posP_miss {α : Type} {l : List α} {p : α → Bool} {i n : Nat} (hn : n = l.length) (hi : ¬ i < n) (h : (l.take i).any p = false) : posP l p = -1 := by
 rw [List.take_of_length_le (by omega)] at h
 unfold posP
 rw [h]
 rfl
theorem placeT_pos {α : Type} (l : List α) (f : α → List UInt8) (t : List UInt8) : placeT (l.map f) t = posP l (fun x => decide (f x = t)) := by
 unfold placeT posP
 have e : (t ∈ l.map f) ↔ l.any (fun x => decide (f x = t)) = true := by
  simp only [List.mem_map, List.any_eq_true, decide_eq_true_eq]
 by_cases h : t ∈ l.map f
 ·rw [if_pos h, if_pos (e.mp h), List.findIdx_map]
  rfl
 ·rw [if_neg h, if_neg (fun h2 => h (e.mpr h2))]
theorem placeZ_pos {α : Type} (l : List α) (f : α → Int) (t : Int) : placeZ (l.map f) t = posP l (fun x => decide (f x = t)) := by
 unfold placeZ posP
 have e : (t ∈ l.map f) ↔ l.any (fun x => decide (f x = t)) = true := by
  simp only [List.mem_map, List.any_eq_true, decide_eq_true_eq]
 by_cases h : t ∈ l.map f
 ·rw [if_pos h, if_pos (e.mp h), List.findIdx_map]
  rfl
 ·rw [if_neg h, if_neg (fun h2 => h (e.mpr h2))]

set_option maxHeartbeats 4000000 in
theorem fxi_ms {S : Nat → Nat → Prop} (w : World) {A : Option Addr} {cap n : Nat} {l : List Ms} (h : Lst 3 (S 4) (msR S) w A cap l) (hn : n = l.length) (kf : Nat) (caps : Array Value) (henter : Enters Tryz.prog kf) (p : Ms → Bool)
 (hp : ∀ x ∈ l, ∀ A1 cap1 A2 cap2, Lst 7 (S 1) fdR w A1 cap1 x.fields → Lst 1 (S 2) inR w A2 cap2 x.barred → ∀ wr, Below w.heap.size w wr → Calls Tryz.prog kf (#[.agg #[.string (strOf x.name), .slice A1 x.fields.length cap1, .slice A2 x.barred.length cap2]] ++ caps) wr fun e w' => e = .returned (.bool (p x)) ∧ Below wr.heap.size wr w') :
 Calls Tryz.prog 55 #[.slice A n cap, .func (.func kf) #[] caps] w fun e w' => e = .returned (.int .i64 (posP l p)) ∧ Below w.heap.size w w' := by
 have q1 : n ≤ cap := by have := h.l_le; omega
 have q2 := h.l_max
 unfold maxLen at q2
 have hent : ∀ (args : Array Value) (w : World), (callFunc kf args).run Tryz.prog w = .ok (.enter kf args) w := henter
 have H := Lib.hid h
 have HN := Lib.hid hn
 have HP := Lib.hid hp
 clear h hn hp henter
 go_enter Tryz.func55, Tryz.ntmps55
 go_wp2
 go_loopw [5, 8] (fun u x wr => ∃ i : Nat, x = .int .i64 (i : Int) ∧ i ≤ n ∧ (l.take i).any p = false ∧ Below w.heap.size w wr) (fun u x _ => n - (intOf x).toNat)
 case atStart => exact ⟨0, rfl, Nat.zero_le _, by simp, Below.refl _ _⟩
 case round =>
  obtain ⟨i, rfl, hi, hall, hbel⟩ := hrel
  have HALL := Lib.hid hall
  have hb0 := Lib.hid hbel
  clear hall hbel
  by_cases hlt : i < n
  ·have g1 : decide ((i : Int) < (n : Int)) = true := decide_eq_true (by omega)
   obtain ⟨x, hx⟩ : ∃ x, l[i]? = some x := ⟨_, List.getElem?_eq_getElem (by have := HN.out; omega)⟩
   have HANY := Lib.hid (any_snoc l p i x hx)
   have HIT : Hid (p x = true → posP l p = (i : Int)) := Lib.hid (fun e => posP_hit hx e HALL.out)
   obtain ⟨ge, oe, A1, cap1, A2, cap2, rfl, _, hc, hl, hl2⟩ := ms_at H.out hx
   have HCK := Lib.hid (HP.out x (List.mem_of_getElem? hx) A1 cap1 A2 cap2 hl hl2 _ hb0.out)
   obtain ⟨nf, hnf⟩ : ∃ nf, nf = x.fields.length := ⟨_, rfl⟩
   obtain ⟨nb, hnb⟩ : ∃ nb, nb = x.barred.length := ⟨_, rfl⟩
   obtain ⟨sn, hsn⟩ : ∃ sn, sn = strOf x.name := ⟨_, rfl⟩
   rw [← hnf, ← hnb] at hc HCK
   rw [← hsn] at hc HCK
   obtain ⟨c0, c1, c2⟩ := hc _ hb0.out
   obtain ⟨b, hbp⟩ : ∃ b, b = p x := ⟨_, rfl⟩
   have HBP := Lib.hid hbp
   rw [← hbp] at HCK HANY
   clear hbp hx hc hl hl2 hnf hnb hsn
   cases b with
   | true =>
     go_wp2_with (go_at_fn kf; refine HCK.out.mono ?_; rintro e w2 ⟨rfl, hb⟩; have HB2 := Lib.hid (hb0.out.trans (hb.mono hb0.out.size)); clear hb)
     go_ret
     exact ⟨ret_int' (HIT.out HBP.out.symm).symm, HB2.out⟩
   | false =>
     go_wp2_with (go_at_fn kf; refine HCK.out.mono ?_; rintro e w2 ⟨rfl, hb⟩; have HB2 := Lib.hid (hb0.out.trans (hb.mono hb0.out.size)); clear hb)
     go_roundw
     case rel => exact ⟨i + 1, by go_num, by omega, by rw [HANY.out, HALL.out]; rfl, HB2.out⟩
     case measure => simp [intOf]; omega
  ·have g1 : decide ((i : Int) < (n : Int)) = false := decide_eq_false (by omega)
   have HF := Lib.hid (posP_miss HN.out hlt HALL.out)
   go_wp2
   go_ret
   exact ⟨ret_int' HF.out.symm, hb0.out⟩

set_option maxHeartbeats 4000000 in
theorem fxi_fd {S : Nat → Prop} (w : World) {A : Option Addr} {cap n : Nat} {l : List Fd} (h : Lst 7 S fdR w A cap l) (hn : n = l.length) (kf : Nat) (caps : Array Value) (henter : Enters Tryz.prog kf) (p : Fd → Bool)
 (hp : ∀ x ∈ l, ∀ wr, Below w.heap.size w wr → Calls Tryz.prog kf (#[fdV x] ++ caps) wr fun e w' => e = .returned (.bool (p x)) ∧ Below wr.heap.size wr w') :
 Calls Tryz.prog 101 #[.slice A n cap, .func (.func kf) #[] caps] w fun e w' => e = .returned (.int .i64 (posP l p)) ∧ Below w.heap.size w w' := by
 have q1 : n ≤ cap := by have := h.l_le; omega
 have q2 := h.l_max
 unfold maxLen at q2
 have hent : ∀ (args : Array Value) (w : World), (callFunc kf args).run Tryz.prog w = .ok (.enter kf args) w := henter
 have H := Lib.hid h
 have HN := Lib.hid hn
 have HP := Lib.hid hp
 clear h hn hp henter
 go_enter Tryz.func101, Tryz.ntmps101
 go_wp2
 go_loopw [5, 8] (fun u x wr => ∃ i : Nat, x = .int .i64 (i : Int) ∧ i ≤ n ∧ (l.take i).any p = false ∧ Below w.heap.size w wr) (fun u x _ => n - (intOf x).toNat)
 case atStart => exact ⟨0, rfl, Nat.zero_le _, by simp, Below.refl _ _⟩
 case round =>
  obtain ⟨i, rfl, hi, hall, hbel⟩ := hrel
  have HALL := Lib.hid hall
  have hb0 := Lib.hid hbel
  clear hall hbel
  by_cases hlt : i < n
  ·have g1 : decide ((i : Int) < (n : Int)) = true := decide_eq_true (by omega)
   obtain ⟨x, hx⟩ : ∃ x, l[i]? = some x := ⟨_, List.getElem?_eq_getElem (by have := HN.out; omega)⟩
   have HANY := Lib.hid (any_snoc l p i x hx)
   have HIT : Hid (p x = true → posP l p = (i : Int)) := Lib.hid (fun e => posP_hit hx e HALL.out)
   obtain ⟨ge, oe, rfl, _, hc⟩ := fd_at H.out hx
   have HCK := Lib.hid (HP.out x (List.mem_of_getElem? hx) _ hb0.out)
   unfold fdV at HCK
   obtain ⟨s0, hs0⟩ : ∃ s0, s0 = strOf x.name := ⟨_, rfl⟩
   obtain ⟨s3, hs3⟩ : ∃ s3, s3 = strOf x.ref := ⟨_, rfl⟩
   obtain ⟨s6, hs6⟩ : ∃ s6, s6 = strOf x.one := ⟨_, rfl⟩
   obtain ⟨z1, hz1⟩ : ∃ z1, z1 = x.num := ⟨_, rfl⟩
   obtain ⟨z2, hz2⟩ : ∃ z2, z2 = x.ty := ⟨_, rfl⟩
   obtain ⟨b4, hb4⟩ : ∃ b4, b4 = x.rep := ⟨_, rfl⟩
   obtain ⟨b5, hb5⟩ : ∃ b5, b5 = x.loose := ⟨_, rfl⟩
   rw [← hs0, ← hs3, ← hs6, ← hz1, ← hz2, ← hb4, ← hb5] at hc HCK
   obtain ⟨c0, c1, c2, c3, c4, c5, c6⟩ := hc _ hb0.out
   obtain ⟨b, hbp⟩ : ∃ b, b = p x := ⟨_, rfl⟩
   have HBP := Lib.hid hbp
   rw [← hbp] at HCK HANY
   clear hbp hx hc hs0 hs3 hs6 hz1 hz2 hb4 hb5
   cases b with
   | true =>
     go_wp2_with (go_at_fn kf; refine HCK.out.mono ?_; rintro e w2 ⟨rfl, hb⟩; have HB2 := Lib.hid (hb0.out.trans (hb.mono hb0.out.size)); clear hb)
     go_ret
     exact ⟨ret_int' (HIT.out HBP.out.symm).symm, HB2.out⟩
   | false =>
     go_wp2_with (go_at_fn kf; refine HCK.out.mono ?_; rintro e w2 ⟨rfl, hb⟩; have HB2 := Lib.hid (hb0.out.trans (hb.mono hb0.out.size)); clear hb)
     go_roundw
     case rel => exact ⟨i + 1, by go_num, by omega, by rw [HANY.out, HALL.out]; rfl, HB2.out⟩
     case measure => simp [intOf]; omega
  ·have g1 : decide ((i : Int) < (n : Int)) = false := decide_eq_false (by omega)
   have HF := Lib.hid (posP_miss HN.out hlt HALL.out)
   go_wp2
   go_ret
   exact ⟨ret_int' HF.out.symm, hb0.out⟩
end Go.Proofs.YtloheacncefkgaaGreatDoor

/- Maps from texts to numbers: what they hold, where they lie (no program here but the types' own facts). Conditions: those that each theorem names. -/
namespace Go.Proofs.YtloheacncefkgaaGreatDoor
open Go.RowKit Go.Maps Go.WideMaps Go.WideShapes
set_option linter.unusedVariables false
set_option maxRecDepth 100000
attribute [local go_sem] Oper.semAt_some

/-- What a map from names to numbers holds. -/
def MapIs (D : DataW Unit) (f : List UInt8 → Option Int) : Prop := IsMap D ∧ ∀ t, Maps.has D (.string t) = (f t).isSome ∧ ∀ z x, f t = some x → D.atKey (.string t) z = .lit (.int .i64 x)
theorem lit_ne {t u : List UInt8} (h : u ≠ t) : (Lit.string u) ≠ .string t := fun e => h (by injection e)
theorem mapIs_empty : MapIs (.map []) (fun _ => none) := ⟨isMap_empty, fun t => ⟨rfl, fun z x h => by cases h⟩⟩
theorem mapIs_put {D : DataW Unit} {f : List UInt8 → Option Int} (h : MapIs D f) (t : List UInt8) (x : Int) : MapIs (D.put (.string t) (.lit (.int .i64 x))) (fun u => if u = t then some x else f u) := by
 refine ⟨h.1.put _ _, fun u => ?_⟩
 dsimp only
 by_cases hu : u = t
 ·subst hu
  rw [if_pos rfl]
  exact ⟨has_put_same h.1 (show WideAt.IsKeyLit (.string u) from trivial) _, fun z y hy => by cases hy; exact atKey_put_same h.1 (show WideAt.IsKeyLit (.string u) from trivial) _ _⟩
 ·rw [if_neg hu]
  exact ⟨(has_put_other (lit_ne hu) _).trans (h.2 u).1, fun z y hy => (atKey_put_other (lit_ne hu) _ _).trans ((h.2 u).2 z y hy)⟩
theorem mapIs_congr {D : DataW Unit} {f g : List UInt8 → Option Int} (h : MapIs D f) (e : ∀ t, f t = g t) : MapIs D g := ⟨h.1, fun t => by rw [← e t]; exact h.2 t⟩

theorem zero_int (w : World) : (zeroValue 3).run Tryz.prog w = .ok (.int .i64 0) w := by kernel_rfl
theorem str_keyed : Keyed Tryz.prog 9 := string_keyed Tryz.underlying9
theorem str_key {t : List UInt8} (h : t.length ≤ 140737488351232) : keyOf Tryz.prog 9 (.string (strOf t)) = some (.string t) := by
 have h1 : (strOf t).size = t.length := str_size t
 have := keyOf_string_mk (P := Tryz.prog) (k := 9) (s := strOf t) Tryz.underlying9 (by rw [h1]; unfold maxLen; omega)
 rw [this]
 simp [strOf]

/-- The map in block bm holds f. -/
def MapAt (w : World) (bm n : Nat) (f : List UInt8 → Option Int) : Prop := ∃ D : DataW Unit, w.ownsMap Tryz.prog 9 (plainElem Tryz.prog 3) bm n D ∧ MapIs D f
theorem MapAt.kept {w w' : World} {bm n : Nat} {f : List UInt8 → Option Int} {row : Option Nat} (h : MapAt w bm n f) (hg : w.grownBy w' row) (hne : some bm ≠ row) : MapAt w' bm n f := by
 obtain ⟨D, h1, h2⟩ := h
 exact ⟨D, h1.kept hg hne, h2⟩
theorem MapAt.lt {w : World} {bm n : Nat} {f : List UInt8 → Option Int} (h : MapAt w bm n f) : bm < w.heap.size := by
 obtain ⟨D, h1, h2⟩ := h
 exact h1.lt
theorem MapAt.bel {w w' : World} {bm n : Nat} {f : List UInt8 → Option Int} (h : MapAt w bm n f) (hb : Below w.heap.size w w') : MapAt w' bm n f :=
 h.kept (row := none) ⟨hb.os, hb.tape, hb.output, hb.size, fun i hi _ => hb.block i hi⟩ (by simp)

end Go.Proofs.YtloheacncefkgaaGreatDoor

/- append of lists of structs onto a row of the call's own, whatever they are; rows by the kind of their block. Conditions: those that each theorem names. -/
namespace Go.Proofs.YtloheacncefkgaaGreatDoor
open Go.RowKit
set_option linter.unusedVariables false
set_option maxRecDepth 100000

theorem own_typed {w : World} {base k n : Nat} {t : TypeId} {v : Value} {xs : List Value} (h : w.ownsRow base t k v n xs) {g : Nat} (hg : v.ownBlock = some g) : base ≤ g ∧ ∃ cs, w.heap[g]? = some (.cells cs t (0, 0)) := by
 rcases h.2 with ⟨rfl, _⟩ | ⟨g', cap, cur, rfl, hb, hh, _⟩
 ·simp [Value.ownBlock] at hg
 ·simp [Value.ownBlock] at hg
  subst hg
  exact ⟨hb, _, hh⟩
end Go.Proofs.YtloheacncefkgaaGreatDoor
