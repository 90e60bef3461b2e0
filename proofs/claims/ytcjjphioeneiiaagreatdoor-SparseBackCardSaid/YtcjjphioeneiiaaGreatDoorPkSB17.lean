/- Several texts in one: FxA, SxA, SxB, LstApp, Cpy, SqIns, RzA, LexEnd. What each proves, and its conditions, stands at its own head. -/
import Derived.Test.YtcjjphioeneiiaaGreatDoorPkSB16
import Derived.Test.YtcjjphioeneiiaaGreatDoorPkSB15
import Derived.Shelf.Abstract
import Derived.Deep.RegionHeld3
import Derived.Test.YtcjjphioeneiiaaGreatDoorPkSB0
import Derived.Test.YtcjjphioeneiiaaGreatDoorPkSB4
import Derived.Test.YtcjjphioeneiiaaGreatDoorChecked
import Derived.WalkKit
import Derived.RowKitTokens
import Derived.OwnWalk
import Derived.Test.YtcjjphioeneiiaaGreatDoorPkSB7
import Derived.Test.YtcjjphioeneiiaaGreatDoorPkSB14
/- slices.IndexFunc at the lists of a schema, by whatever function is handed on: the first place. Conditions: those that each theorem names. -/
namespace Go.Proofs.YtcjjphioeneiiaaGreatDoor
open Go.RowKit
set_option linter.unusedVariables false
set_option maxRecDepth 100000

/-- The first place at which it is so; -1, if it is so at none. -/
def posP {α : Type} (l : List α) (p : α → Bool) : Int := if l.any p = true then (l.findIdx p : Int) else -1
theorem posP_hit {α : Type} {l : List α} {p : α → Bool} {i : Nat} {x : α} (h : l[i]? = some x) (hp : p x = true) (ht : (l.take i).any p = false) : posP l p = (i : Int) := by
 have hi := (List.getElem?_eq_some_iff.mp h).1
 have hx := (List.getElem?_eq_some_iff.mp h).2
 unfold posP
 rw [if_pos (List.any_eq_true.mpr ⟨x, List.mem_of_getElem? h, hp⟩)]
 have : l.findIdx p = i := by
  rw [List.findIdx_eq hi]
  refine ⟨by rw [hx]; exact hp, fun j hj => ?_⟩
  rw [List.any_eq_false] at ht
  have hm : l[j] ∈ l.take i := List.mem_take_iff_getElem.mpr ⟨j, by omega, rfl⟩
  have := ht _ hm
  simpa using this
 rw [this]
theorem posP_miss {α : Type} {l : List α} {p : α → Bool} {i n : Nat} (hn : n = l.length) (hi : ¬ i < n) (h : (l.take i).any p = false) : posP l p = -1 := by
 rw [List.take_of_length_le (by omega)] at h
 unfold posP
 rw [h]
 rfl
theorem placeT_pos {α : Type} (l : List α) (f : α → List UInt8) (t : List UInt8) : placeT (l.map f) t = posP l (fun x => decide (f x = t)) := by
 unfold placeT posP
 have e : (t ∈ l.map f) ↔ l.any (fun x => decide (f x = t)) = true := by
  simp only [List.mem_map, List.any_eq_true, decide_eq_true_eq]
 by_cases h : t ∈ l.map f
 ·rw [if_pos h, if_pos (e.mp h), List.findIdx_map]
  rfl
 ·rw [if_neg h, if_neg (fun h2 => h (e.mpr h2))]
set_option maxHeartbeats 4000000 in
theorem fxi_en {S : Nat → Nat → Prop} (w : World) {A : Option Addr} {cap n : Nat} {l : List En} (h : Lst 2 (S 3) (enR S) w A cap l) (hn : n = l.length) (kf : Nat) (caps : Array Value) (henter : Enters Tryz.prog kf) (p : En → Bool)
 (hp : ∀ x ∈ l, ∀ A1 cap1, Lst 2 (S 0) vlR w A1 cap1 x.values → ∀ wr, Below w.heap.size w wr → Calls Tryz.prog kf (#[.agg #[.string (strOf x.name), .slice A1 x.values.length cap1]] ++ caps) wr fun e w' => e = .returned (.bool (p x)) ∧ Below wr.heap.size wr w') :
 Calls Tryz.prog 190 #[.slice A n cap, .func (.func kf) #[] caps] w fun e w' => e = .returned (.int .i64 (posP l p)) ∧ Below w.heap.size w w' := by
 have q1 : n ≤ cap := by have := h.l_le; omega
 have q2 := h.l_max
 unfold maxLen at q2
 have hent : ∀ (args : Array Value) (w : World), (callFunc kf args).run Tryz.prog w = .ok (.enter kf args) w := henter
 have H := Lib.hid h
 have HN := Lib.hid hn
 have HP := Lib.hid hp
 clear h hn hp henter
 go_enter Tryz.func190, Tryz.ntmps190
 go_wp2
 go_loopw [5, 8] (fun u x wr => ∃ i : Nat, x = .int .i64 (i : Int) ∧ i ≤ n ∧ (l.take i).any p = false ∧ Below w.heap.size w wr) (fun u x _ => n - (intOf x).toNat)
 case atStart => exact ⟨0, rfl, Nat.zero_le _, by simp, Below.refl _ _⟩
 case round =>
  obtain ⟨i, rfl, hi, hall, hbel⟩ := hrel
  have HALL := Lib.hid hall
  have hb0 := Lib.hid hbel
  clear hall hbel
  by_cases hlt : i < n
  ·have g1 : decide ((i : Int) < (n : Int)) = true := decide_eq_true (by omega)
   obtain ⟨x, hx⟩ : ∃ x, l[i]? = some x := ⟨_, List.getElem?_eq_getElem (by have := HN.out; omega)⟩
   have HANY := Lib.hid (any_snoc l p i x hx)
   have HIT : Hid (p x = true → posP l p = (i : Int)) := Lib.hid (fun e => posP_hit hx e HALL.out)
   obtain ⟨ge, oe, A1, cap1, rfl, _, hc, hl⟩ := en_at H.out hx
   have HCK := Lib.hid (HP.out x (List.mem_of_getElem? hx) A1 cap1 hl _ hb0.out)
   obtain ⟨nv, hnv⟩ : ∃ nv, nv = x.values.length := ⟨_, rfl⟩
   obtain ⟨sn, hsn⟩ : ∃ sn, sn = strOf x.name := ⟨_, rfl⟩
   rw [← hnv] at hc HCK
   rw [← hsn] at hc HCK
   obtain ⟨c0, c1⟩ := hc _ hb0.out
   obtain ⟨b, hbp⟩ : ∃ b, b = p x := ⟨_, rfl⟩
   have HBP := Lib.hid hbp
   rw [← hbp] at HCK HANY
   clear hbp hx hc hl hnv hsn
   cases b with
   | true =>
     go_wp2_with (go_at_fn kf; refine HCK.out.mono ?_; rintro e w2 ⟨rfl, hb⟩; have HB2 := Lib.hid (hb0.out.trans (hb.mono hb0.out.size)); clear hb)
     go_ret
     exact ⟨ret_int' (HIT.out HBP.out.symm).symm, HB2.out⟩
   | false =>
     go_wp2_with (go_at_fn kf; refine HCK.out.mono ?_; rintro e w2 ⟨rfl, hb⟩; have HB2 := Lib.hid (hb0.out.trans (hb.mono hb0.out.size)); clear hb)
     go_roundw
     case rel => exact ⟨i + 1, by go_num, by omega, by rw [HANY.out, HALL.out]; rfl, HB2.out⟩
     case measure => simp [intOf]; omega
  ·have g1 : decide ((i : Int) < (n : Int)) = false := decide_eq_false (by omega)
   have HF := Lib.hid (posP_miss HN.out hlt HALL.out)
   go_wp2
   go_ret
   exact ⟨ret_int' HF.out.symm, hb0.out⟩

end Go.Proofs.YtcjjphioeneiiaaGreatDoor

/- slices.IndexFunc and slices.ContainsFunc at the lists of layer 15, by whatever function is handed on. Conditions: those that each theorem names. -/
namespace Go.Proofs.YtcjjphioeneiiaaGreatDoor
open Go.RowKit
set_option linter.unusedVariables false
set_option maxRecDepth 100000

theorem any_none {α : Type} {l : List α} {p : α → Bool} {i n : Nat} (hn : n = l.length) (hi : ¬ i < n) (h : (l.take i).any p = false) : l.any p = false := by
 rw [List.take_of_length_le (by omega)] at h
 exact h

set_option maxHeartbeats 4000000 in
theorem idx_en {S : Nat → Nat → Prop} (w : World) {A : Option Addr} {cap n : Nat} {l : List En} (h : Lst 2 (S 3) (enR S) w A cap l) (hn : n = l.length) (kf : Nat) (caps : Array Value) (henter : Enters Tryz.prog kf) (p : En → Bool)
 (hp : ∀ x ∈ l, ∀ A1 cap1, Lst 2 (S 0) vlR w A1 cap1 x.values → ∀ wr, Below w.heap.size w wr → Calls Tryz.prog kf (#[.agg #[.string (strOf x.name), .slice A1 x.values.length cap1]] ++ caps) wr fun e w' => e = .returned (.bool (p x)) ∧ Below wr.heap.size wr w') :
 Calls Tryz.prog 190 #[.slice A n cap, .func (.func kf) #[] caps] w fun e w' => ∃ r : Int, e = .returned (.int .i64 r) ∧ decide (r ≥ 0) = l.any p ∧ Below w.heap.size w w' := by
 have q1 : n ≤ cap := by have := h.l_le; omega
 have q2 := h.l_max
 unfold maxLen at q2
 have hent : ∀ (args : Array Value) (w : World), (callFunc kf args).run Tryz.prog w = .ok (.enter kf args) w := henter
 have H := Lib.hid h
 have HN := Lib.hid hn
 have HP := Lib.hid hp
 clear h hn hp henter
 go_enter Tryz.func190, Tryz.ntmps190
 go_wp2
 go_loopw [5, 8] (fun u x wr => ∃ i : Nat, x = .int .i64 (i : Int) ∧ i ≤ n ∧ (l.take i).any p = false ∧ Below w.heap.size w wr) (fun u x _ => n - (intOf x).toNat)
 case atStart => exact ⟨0, rfl, Nat.zero_le _, by simp, Below.refl _ _⟩
 case round =>
  obtain ⟨i, rfl, hi, hall, hbel⟩ := hrel
  have HALL := Lib.hid hall
  have hb0 := Lib.hid hbel
  clear hall hbel
  by_cases hlt : i < n
  ·have g1 : decide ((i : Int) < (n : Int)) = true := decide_eq_true (by omega)
   obtain ⟨x, hx⟩ : ∃ x, l[i]? = some x := ⟨_, List.getElem?_eq_getElem (by have := HN.out; omega)⟩
   have HANY := Lib.hid (any_snoc l p i x hx)
   have HIT : Hid (p x = true → l.any p = true) := Lib.hid (fun e => any_off hx e)
   obtain ⟨ge, oe, A1, cap1, rfl, _, hc, hl⟩ := en_at H.out hx
   have HCK := Lib.hid (HP.out x (List.mem_of_getElem? hx) A1 cap1 hl _ hb0.out)
   obtain ⟨nv, hnv⟩ : ∃ nv, nv = x.values.length := ⟨_, rfl⟩
   obtain ⟨sn, hsn⟩ : ∃ sn, sn = strOf x.name := ⟨_, rfl⟩
   rw [← hnv] at hc HCK
   rw [← hsn] at hc HCK
   obtain ⟨c0, c1⟩ := hc _ hb0.out
   obtain ⟨b, hbp⟩ : ∃ b, b = p x := ⟨_, rfl⟩
   have HBP := Lib.hid hbp
   rw [← hbp] at HCK HANY
   clear hbp hx hc hl hnv hsn
   cases b with
   | true =>
     go_wp2_with (go_at_fn kf; refine HCK.out.mono ?_; rintro e w2 ⟨rfl, hb⟩; have HB2 := Lib.hid (hb0.out.trans (hb.mono hb0.out.size)); clear hb)
     go_ret
     exact ⟨(i : Int), rfl, (by rw [HIT.out HBP.out.symm]; exact decide_eq_true (by omega)), HB2.out⟩
   | false =>
     go_wp2_with (go_at_fn kf; refine HCK.out.mono ?_; rintro e w2 ⟨rfl, hb⟩; have HB2 := Lib.hid (hb0.out.trans (hb.mono hb0.out.size)); clear hb)
     go_roundw
     case rel => exact ⟨i + 1, by go_num, by omega, by rw [HANY.out, HALL.out]; rfl, HB2.out⟩
     case measure => simp [intOf]; omega
  ·have g1 : decide ((i : Int) < (n : Int)) = false := decide_eq_false (by omega)
   have HF := Lib.hid (any_none HN.out hlt HALL.out)
   go_wp2
   go_ret
   exact ⟨-1, rfl, (by rw [HF.out]; rfl), hb0.out⟩
theorem con_en {S : Nat → Nat → Prop} (w : World) {A : Option Addr} {cap n : Nat} {l : List En} (h : Lst 2 (S 3) (enR S) w A cap l) (hn : n = l.length) (kf : Nat) (caps : Array Value) (henter : Enters Tryz.prog kf) (p : En → Bool)
 (hp : ∀ x ∈ l, ∀ A1 cap1, Lst 2 (S 0) vlR w A1 cap1 x.values → ∀ wr, Below w.heap.size w wr → Calls Tryz.prog kf (#[.agg #[.string (strOf x.name), .slice A1 x.values.length cap1]] ++ caps) wr fun e w' => e = .returned (.bool (p x)) ∧ Below wr.heap.size wr w') :
 Calls Tryz.prog 118 #[.slice A n cap, .func (.func kf) #[] caps] w fun e w' => e = .returned (.bool (l.any p)) ∧ Below w.heap.size w w' := by
 have HI := Lib.hid (idx_en w h hn kf caps henter p hp)
 clear h hn henter hp
 go_enter Tryz.func118, Tryz.ntmps118
 go_wp2_with (go_at_call 190; refine HI.out.mono ?_; rintro e w2 ⟨r, rfl, hr, hb⟩; have HR := Lib.hid hr; have HB2 := Lib.hid hb; clear hr hb)
 go_ret
 exact ⟨by rw [← HR.out]; rfl, HB2.out⟩

set_option maxHeartbeats 4000000 in
theorem idx_ms {S : Nat → Nat → Prop} (w : World) {A : Option Addr} {cap n : Nat} {l : List Ms} (h : Lst 3 (S 4) (msR S) w A cap l) (hn : n = l.length) (kf : Nat) (caps : Array Value) (henter : Enters Tryz.prog kf) (p : Ms → Bool)
 (hp : ∀ x ∈ l, ∀ A1 cap1 A2 cap2, Lst 7 (S 1) fdR w A1 cap1 x.fields → Lst 1 (S 2) inR w A2 cap2 x.barred → ∀ wr, Below w.heap.size w wr → Calls Tryz.prog kf (#[.agg #[.string (strOf x.name), .slice A1 x.fields.length cap1, .slice A2 x.barred.length cap2]] ++ caps) wr fun e w' => e = .returned (.bool (p x)) ∧ Below wr.heap.size wr w') :
 Calls Tryz.prog 217 #[.slice A n cap, .func (.func kf) #[] caps] w fun e w' => ∃ r : Int, e = .returned (.int .i64 r) ∧ decide (r ≥ 0) = l.any p ∧ Below w.heap.size w w' := by
 have q1 : n ≤ cap := by have := h.l_le; omega
 have q2 := h.l_max
 unfold maxLen at q2
 have hent : ∀ (args : Array Value) (w : World), (callFunc kf args).run Tryz.prog w = .ok (.enter kf args) w := henter
 have H := Lib.hid h
 have HN := Lib.hid hn
 have HP := Lib.hid hp
 clear h hn hp henter
 go_enter Tryz.func217, Tryz.ntmps217
 go_wp2
 go_loopw [5, 8] (fun u x wr => ∃ i : Nat, x = .int .i64 (i : Int) ∧ i ≤ n ∧ (l.take i).any p = false ∧ Below w.heap.size w wr) (fun u x _ => n - (intOf x).toNat)
 case atStart => exact ⟨0, rfl, Nat.zero_le _, by simp, Below.refl _ _⟩
 case round =>
  obtain ⟨i, rfl, hi, hall, hbel⟩ := hrel
  have HALL := Lib.hid hall
  have hb0 := Lib.hid hbel
  clear hall hbel
  by_cases hlt : i < n
  ·have g1 : decide ((i : Int) < (n : Int)) = true := decide_eq_true (by omega)
   obtain ⟨x, hx⟩ : ∃ x, l[i]? = some x := ⟨_, List.getElem?_eq_getElem (by have := HN.out; omega)⟩
   have HANY := Lib.hid (any_snoc l p i x hx)
   have HIT : Hid (p x = true → l.any p = true) := Lib.hid (fun e => any_off hx e)
   obtain ⟨ge, oe, A1, cap1, A2, cap2, rfl, _, hc, hl, hl2⟩ := ms_at H.out hx
   have HCK := Lib.hid (HP.out x (List.mem_of_getElem? hx) A1 cap1 A2 cap2 hl hl2 _ hb0.out)
   obtain ⟨nf, hnf⟩ : ∃ nf, nf = x.fields.length := ⟨_, rfl⟩
   obtain ⟨nb, hnb⟩ : ∃ nb, nb = x.barred.length := ⟨_, rfl⟩
   obtain ⟨sn, hsn⟩ : ∃ sn, sn = strOf x.name := ⟨_, rfl⟩
   rw [← hnf, ← hnb] at hc HCK
   rw [← hsn] at hc HCK
   obtain ⟨c0, c1, c2⟩ := hc _ hb0.out
   obtain ⟨b, hbp⟩ : ∃ b, b = p x := ⟨_, rfl⟩
   have HBP := Lib.hid hbp
   rw [← hbp] at HCK HANY
   clear hbp hx hc hl hl2 hnf hnb hsn
   cases b with
   | true =>
     go_wp2_with (go_at_fn kf; refine HCK.out.mono ?_; rintro e w2 ⟨rfl, hb⟩; have HB2 := Lib.hid (hb0.out.trans (hb.mono hb0.out.size)); clear hb)
     go_ret
     exact ⟨(i : Int), rfl, (by rw [HIT.out HBP.out.symm]; exact decide_eq_true (by omega)), HB2.out⟩
   | false =>
     go_wp2_with (go_at_fn kf; refine HCK.out.mono ?_; rintro e w2 ⟨rfl, hb⟩; have HB2 := Lib.hid (hb0.out.trans (hb.mono hb0.out.size)); clear hb)
     go_roundw
     case rel => exact ⟨i + 1, by go_num, by omega, by rw [HANY.out, HALL.out]; rfl, HB2.out⟩
     case measure => simp [intOf]; omega
  ·have g1 : decide ((i : Int) < (n : Int)) = false := decide_eq_false (by omega)
   have HF := Lib.hid (any_none HN.out hlt HALL.out)
   go_wp2
   go_ret
   exact ⟨-1, rfl, (by rw [HF.out]; rfl), hb0.out⟩
theorem con_ms {S : Nat → Nat → Prop} (w : World) {A : Option Addr} {cap n : Nat} {l : List Ms} (h : Lst 3 (S 4) (msR S) w A cap l) (hn : n = l.length) (kf : Nat) (caps : Array Value) (henter : Enters Tryz.prog kf) (p : Ms → Bool)
 (hp : ∀ x ∈ l, ∀ A1 cap1 A2 cap2, Lst 7 (S 1) fdR w A1 cap1 x.fields → Lst 1 (S 2) inR w A2 cap2 x.barred → ∀ wr, Below w.heap.size w wr → Calls Tryz.prog kf (#[.agg #[.string (strOf x.name), .slice A1 x.fields.length cap1, .slice A2 x.barred.length cap2]] ++ caps) wr fun e w' => e = .returned (.bool (p x)) ∧ Below wr.heap.size wr w') :
 Calls Tryz.prog 134 #[.slice A n cap, .func (.func kf) #[] caps] w fun e w' => e = .returned (.bool (l.any p)) ∧ Below w.heap.size w w' := by
 have HI := Lib.hid (idx_ms w h hn kf caps henter p hp)
 clear h hn henter hp
 go_enter Tryz.func134, Tryz.ntmps134
 go_wp2_with (go_at_call 217; refine HI.out.mono ?_; rintro e w2 ⟨r, rfl, hr, hb⟩; have HR := Lib.hid hr; have HB2 := Lib.hid hb; clear hr hb)
 go_ret
 exact ⟨by rw [← HR.out]; rfl, HB2.out⟩

set_option maxHeartbeats 4000000 in
theorem idx_fd {S : Nat → Prop} (w : World) {A : Option Addr} {cap n : Nat} {l : List Fd} (h : Lst 7 S fdR w A cap l) (hn : n = l.length) (kf : Nat) (caps : Array Value) (henter : Enters Tryz.prog kf) (p : Fd → Bool)
 (hp : ∀ x ∈ l, ∀ wr, Below w.heap.size w wr → Calls Tryz.prog kf (#[fdV x] ++ caps) wr fun e w' => e = .returned (.bool (p x)) ∧ Below wr.heap.size wr w') :
 Calls Tryz.prog 218 #[.slice A n cap, .func (.func kf) #[] caps] w fun e w' => ∃ r : Int, e = .returned (.int .i64 r) ∧ decide (r ≥ 0) = l.any p ∧ Below w.heap.size w w' := by
 have q1 : n ≤ cap := by have := h.l_le; omega
 have q2 := h.l_max
 unfold maxLen at q2
 have hent : ∀ (args : Array Value) (w : World), (callFunc kf args).run Tryz.prog w = .ok (.enter kf args) w := henter
 have H := Lib.hid h
 have HN := Lib.hid hn
 have HP := Lib.hid hp
 clear h hn hp henter
 go_enter Tryz.func218, Tryz.ntmps218
 go_wp2
 go_loopw [5, 8] (fun u x wr => ∃ i : Nat, x = .int .i64 (i : Int) ∧ i ≤ n ∧ (l.take i).any p = false ∧ Below w.heap.size w wr) (fun u x _ => n - (intOf x).toNat)
 case atStart => exact ⟨0, rfl, Nat.zero_le _, by simp, Below.refl _ _⟩
 case round =>
  obtain ⟨i, rfl, hi, hall, hbel⟩ := hrel
  have HALL := Lib.hid hall
  have hb0 := Lib.hid hbel
  clear hall hbel
  by_cases hlt : i < n
  ·have g1 : decide ((i : Int) < (n : Int)) = true := decide_eq_true (by omega)
   obtain ⟨x, hx⟩ : ∃ x, l[i]? = some x := ⟨_, List.getElem?_eq_getElem (by have := HN.out; omega)⟩
   have HANY := Lib.hid (any_snoc l p i x hx)
   have HIT : Hid (p x = true → l.any p = true) := Lib.hid (fun e => any_off hx e)
   obtain ⟨ge, oe, rfl, _, hc⟩ := fd_at H.out hx
   have HCK := Lib.hid (HP.out x (List.mem_of_getElem? hx) _ hb0.out)
   unfold fdV at HCK
   obtain ⟨s0, hs0⟩ : ∃ s0, s0 = strOf x.name := ⟨_, rfl⟩
   obtain ⟨s3, hs3⟩ : ∃ s3, s3 = strOf x.ref := ⟨_, rfl⟩
   obtain ⟨s6, hs6⟩ : ∃ s6, s6 = strOf x.one := ⟨_, rfl⟩
   obtain ⟨z1, hz1⟩ : ∃ z1, z1 = x.num := ⟨_, rfl⟩
   obtain ⟨z2, hz2⟩ : ∃ z2, z2 = x.ty := ⟨_, rfl⟩
   obtain ⟨b4, hb4⟩ : ∃ b4, b4 = x.rep := ⟨_, rfl⟩
   obtain ⟨b5, hb5⟩ : ∃ b5, b5 = x.loose := ⟨_, rfl⟩
   rw [← hs0, ← hs3, ← hs6, ← hz1, ← hz2, ← hb4, ← hb5] at hc HCK
   obtain ⟨c0, c1, c2, c3, c4, c5, c6⟩ := hc _ hb0.out
   obtain ⟨b, hbp⟩ : ∃ b, b = p x := ⟨_, rfl⟩
   have HBP := Lib.hid hbp
   rw [← hbp] at HCK HANY
   clear hbp hx hc hs0 hs3 hs6 hz1 hz2 hb4 hb5
   cases b with
   | true =>
     go_wp2_with (go_at_fn kf; refine HCK.out.mono ?_; rintro e w2 ⟨rfl, hb⟩; have HB2 := Lib.hid (hb0.out.trans (hb.mono hb0.out.size)); clear hb)
     go_ret
     exact ⟨(i : Int), rfl, (by rw [HIT.out HBP.out.symm]; exact decide_eq_true (by omega)), HB2.out⟩
   | false =>
     go_wp2_with (go_at_fn kf; refine HCK.out.mono ?_; rintro e w2 ⟨rfl, hb⟩; have HB2 := Lib.hid (hb0.out.trans (hb.mono hb0.out.size)); clear hb)
     go_roundw
     case rel => exact ⟨i + 1, by go_num, by omega, by rw [HANY.out, HALL.out]; rfl, HB2.out⟩
     case measure => simp [intOf]; omega
  ·have g1 : decide ((i : Int) < (n : Int)) = false := decide_eq_false (by omega)
   have HF := Lib.hid (any_none HN.out hlt HALL.out)
   go_wp2
   go_ret
   exact ⟨-1, rfl, (by rw [HF.out]; rfl), hb0.out⟩
theorem con_fd {S : Nat → Prop} (w : World) {A : Option Addr} {cap n : Nat} {l : List Fd} (h : Lst 7 S fdR w A cap l) (hn : n = l.length) (kf : Nat) (caps : Array Value) (henter : Enters Tryz.prog kf) (p : Fd → Bool)
 (hp : ∀ x ∈ l, ∀ wr, Below w.heap.size w wr → Calls Tryz.prog kf (#[fdV x] ++ caps) wr fun e w' => e = .returned (.bool (p x)) ∧ Below wr.heap.size wr w') :
 Calls Tryz.prog 136 #[.slice A n cap, .func (.func kf) #[] caps] w fun e w' => e = .returned (.bool (l.any p)) ∧ Below w.heap.size w w' := by
 have HI := Lib.hid (idx_fd w h hn kf caps henter p hp)
 clear h hn henter hp
 go_enter Tryz.func136, Tryz.ntmps136
 go_wp2_with (go_at_call 218; refine HI.out.mono ?_; rintro e w2 ⟨r, rfl, hr, hb⟩; have HR := Lib.hid hr; have HB2 := Lib.hid hb; clear hr hb)
 go_ret
 exact ⟨by rw [← HR.out]; rfl, HB2.out⟩

set_option maxHeartbeats 4000000 in
theorem idx_st  (w : World) {A : Option Addr} {cap n : Nat} {l : List (List UInt8)} (h : Sl w A cap (txts l)) (hn : n = l.length) (kf : Nat) (caps : Array Value) (henter : Enters Tryz.prog kf) (p : (List UInt8) → Bool)
 (hp : ∀ x ∈ l, ∀ wr, Below w.heap.size w wr → Calls Tryz.prog kf (#[.string (strOf x)] ++ caps) wr fun e w' => e = .returned (.bool (p x)) ∧ Below wr.heap.size wr w') :
 Calls Tryz.prog 198 #[.slice A n cap, .func (.func kf) #[] caps] w fun e w' => ∃ r : Int, e = .returned (.int .i64 r) ∧ decide (r ≥ 0) = l.any p ∧ Below w.heap.size w w' := by
 have q1 : n ≤ cap := by have := h.le; rw [txts_length] at this; omega
 have q2 := h.max
 unfold maxLen at q2
 have hent : ∀ (args : Array Value) (w : World), (callFunc kf args).run Tryz.prog w = .ok (.enter kf args) w := henter
 have H := Lib.hid h
 have HN := Lib.hid hn
 have HP := Lib.hid hp
 clear h hn hp henter
 go_enter Tryz.func198, Tryz.ntmps198
 go_wp2
 go_loopw [5, 8] (fun u x wr => ∃ i : Nat, x = .int .i64 (i : Int) ∧ i ≤ n ∧ (l.take i).any p = false ∧ Below w.heap.size w wr) (fun u x _ => n - (intOf x).toNat)
 case atStart => exact ⟨0, rfl, Nat.zero_le _, by simp, Below.refl _ _⟩
 case round =>
  obtain ⟨i, rfl, hi, hall, hbel⟩ := hrel
  have HALL := Lib.hid hall
  have hb0 := Lib.hid hbel
  clear hall hbel
  by_cases hlt : i < n
  ·have g1 : decide ((i : Int) < (n : Int)) = true := decide_eq_true (by omega)
   obtain ⟨x, hx⟩ : ∃ x, l[i]? = some x := ⟨_, List.getElem?_eq_getElem (by have := HN.out; omega)⟩
   have HANY := Lib.hid (any_snoc l p i x hx)
   have HIT : Hid (p x = true → l.any p = true) := Lib.hid (fun e => any_off hx e)
   obtain ⟨ge, oe, rfl, c1⟩ := H.out.at_ i (.string (strOf x)) (by rw [txts, List.getElem?_map, hx]; rfl)
   have HCK := Lib.hid (HP.out x (List.mem_of_getElem? hx) _ hb0.out)
   have c0 := cell_under hb0.out c1
   obtain ⟨sn, hsn⟩ : ∃ sn, sn = strOf x := ⟨_, rfl⟩
   rw [← hsn] at c0 HCK
   obtain ⟨b, hbp⟩ : ∃ b, b = p x := ⟨_, rfl⟩
   have HBP := Lib.hid hbp
   rw [← hbp] at HCK HANY
   clear hbp hx c1 hsn
   cases b with
   | true =>
     go_wp2_with (go_at_fn kf; refine HCK.out.mono ?_; rintro e w2 ⟨rfl, hb⟩; have HB2 := Lib.hid (hb0.out.trans (hb.mono hb0.out.size)); clear hb)
     go_ret
     exact ⟨(i : Int), rfl, (by rw [HIT.out HBP.out.symm]; exact decide_eq_true (by omega)), HB2.out⟩
   | false =>
     go_wp2_with (go_at_fn kf; refine HCK.out.mono ?_; rintro e w2 ⟨rfl, hb⟩; have HB2 := Lib.hid (hb0.out.trans (hb.mono hb0.out.size)); clear hb)
     go_roundw
     case rel => exact ⟨i + 1, by go_num, by omega, by rw [HANY.out, HALL.out]; rfl, HB2.out⟩
     case measure => simp [intOf]; omega
  ·have g1 : decide ((i : Int) < (n : Int)) = false := decide_eq_false (by omega)
   have HF := Lib.hid (any_none HN.out hlt HALL.out)
   go_wp2
   go_ret
   exact ⟨-1, rfl, (by rw [HF.out]; rfl), hb0.out⟩
theorem con_st  (w : World) {A : Option Addr} {cap n : Nat} {l : List (List UInt8)} (h : Sl w A cap (txts l)) (hn : n = l.length) (kf : Nat) (caps : Array Value) (henter : Enters Tryz.prog kf) (p : (List UInt8) → Bool)
 (hp : ∀ x ∈ l, ∀ wr, Below w.heap.size w wr → Calls Tryz.prog kf (#[.string (strOf x)] ++ caps) wr fun e w' => e = .returned (.bool (p x)) ∧ Below wr.heap.size wr w') :
 Calls Tryz.prog 124 #[.slice A n cap, .func (.func kf) #[] caps] w fun e w' => e = .returned (.bool (l.any p)) ∧ Below w.heap.size w w' := by
 have HI := Lib.hid (idx_st w h hn kf caps henter p hp)
 clear h hn henter hp
 go_enter Tryz.func124, Tryz.ntmps124
 go_wp2_with (go_at_call 198; refine HI.out.mono ?_; rintro e w2 ⟨r, rfl, hr, hb⟩; have HR := Lib.hid hr; have HB2 := Lib.hid hb; clear hr hb)
 go_ret
 exact ⟨by rw [← HR.out]; rfl, HB2.out⟩

set_option maxHeartbeats 4000000 in
theorem idx_in {S : Nat → Prop} (w : World) {A : Option Addr} {cap n : Nat} {l : List Int} (h : Lst 1 S inR w A cap l) (hn : n = l.length) (kf : Nat) (caps : Array Value) (henter : Enters Tryz.prog kf) (p : Int → Bool)
 (hp : ∀ x ∈ l, ∀ wr, Below w.heap.size w wr → Calls Tryz.prog kf (#[.int .i64 x] ++ caps) wr fun e w' => e = .returned (.bool (p x)) ∧ Below wr.heap.size wr w') :
 Calls Tryz.prog 252 #[.slice A n cap, .func (.func kf) #[] caps] w fun e w' => ∃ r : Int, e = .returned (.int .i64 r) ∧ decide (r ≥ 0) = l.any p ∧ Below w.heap.size w w' := by
 have q1 : n ≤ cap := by have := h.l_le; omega
 have q2 := h.l_max
 unfold maxLen at q2
 have hent : ∀ (args : Array Value) (w : World), (callFunc kf args).run Tryz.prog w = .ok (.enter kf args) w := henter
 have H := Lib.hid h
 have HN := Lib.hid hn
 have HP := Lib.hid hp
 clear h hn hp henter
 go_enter Tryz.func252, Tryz.ntmps252
 go_wp2
 go_loopw [5, 8] (fun u x wr => ∃ i : Nat, x = .int .i64 (i : Int) ∧ i ≤ n ∧ (l.take i).any p = false ∧ Below w.heap.size w wr) (fun u x _ => n - (intOf x).toNat)
 case atStart => exact ⟨0, rfl, Nat.zero_le _, by simp, Below.refl _ _⟩
 case round =>
  obtain ⟨i, rfl, hi, hall, hbel⟩ := hrel
  have HALL := Lib.hid hall
  have hb0 := Lib.hid hbel
  clear hall hbel
  by_cases hlt : i < n
  ·have g1 : decide ((i : Int) < (n : Int)) = true := decide_eq_true (by omega)
   obtain ⟨x, hx⟩ : ∃ x, l[i]? = some x := ⟨_, List.getElem?_eq_getElem (by have := HN.out; omega)⟩
   have HANY := Lib.hid (any_snoc l p i x hx)
   have HIT : Hid (p x = true → l.any p = true) := Lib.hid (fun e => any_off hx e)
   obtain ⟨ge, oe, rfl, _, hc⟩ := in_at H.out hx
   have HCK := Lib.hid (HP.out x (List.mem_of_getElem? hx) _ hb0.out)
   have c0 := hc _ hb0.out
   obtain ⟨b, hbp⟩ : ∃ b, b = p x := ⟨_, rfl⟩
   have HBP := Lib.hid hbp
   rw [← hbp] at HCK HANY
   clear hbp hx hc
   cases b with
   | true =>
     go_wp2_with (go_at_fn kf; refine HCK.out.mono ?_; rintro e w2 ⟨rfl, hb⟩; have HB2 := Lib.hid (hb0.out.trans (hb.mono hb0.out.size)); clear hb)
     go_ret
     exact ⟨(i : Int), rfl, (by rw [HIT.out HBP.out.symm]; exact decide_eq_true (by omega)), HB2.out⟩
   | false =>
     go_wp2_with (go_at_fn kf; refine HCK.out.mono ?_; rintro e w2 ⟨rfl, hb⟩; have HB2 := Lib.hid (hb0.out.trans (hb.mono hb0.out.size)); clear hb)
     go_roundw
     case rel => exact ⟨i + 1, by go_num, by omega, by rw [HANY.out, HALL.out]; rfl, HB2.out⟩
     case measure => simp [intOf]; omega
  ·have g1 : decide ((i : Int) < (n : Int)) = false := decide_eq_false (by omega)
   have HF := Lib.hid (any_none HN.out hlt HALL.out)
   go_wp2
   go_ret
   exact ⟨-1, rfl, (by rw [HF.out]; rfl), hb0.out⟩
theorem con_in {S : Nat → Prop} (w : World) {A : Option Addr} {cap n : Nat} {l : List Int} (h : Lst 1 S inR w A cap l) (hn : n = l.length) (kf : Nat) (caps : Array Value) (henter : Enters Tryz.prog kf) (p : Int → Bool)
 (hp : ∀ x ∈ l, ∀ wr, Below w.heap.size w wr → Calls Tryz.prog kf (#[.int .i64 x] ++ caps) wr fun e w' => e = .returned (.bool (p x)) ∧ Below wr.heap.size wr w') :
 Calls Tryz.prog 215 #[.slice A n cap, .func (.func kf) #[] caps] w fun e w' => e = .returned (.bool (l.any p)) ∧ Below w.heap.size w w' := by
 have HI := Lib.hid (idx_in w h hn kf caps henter p hp)
 clear h hn henter hp
 go_enter Tryz.func215, Tryz.ntmps215
 go_wp2_with (go_at_call 252; refine HI.out.mono ?_; rintro e w2 ⟨r, rfl, hr, hb⟩; have HR := Lib.hid hr; have HB2 := Lib.hid hb; clear hr hb)
 go_ret
 exact ⟨by rw [← HR.out]; rfl, HB2.out⟩
end Go.Proofs.YtcjjphioeneiiaaGreatDoor

/- slices.Index, slices.Contains at texts and numbers; numbers that rise. Conditions: those that each theorem names. -/
namespace Go.Proofs.YtcjjphioeneiiaaGreatDoor
open Go.RowKit
set_option linter.unusedVariables false
set_option maxRecDepth 100000

set_option maxHeartbeats 4000000 in
theorem ind_st  (w : World) {A : Option Addr} {cap n : Nat} {l : List (List UInt8)} (h : Sl w A cap (txts l)) (hn : n = l.length) (m : (List UInt8)) :
 Calls Tryz.prog 220 #[.slice A n cap, .string (strOf m)] w fun e w' => ∃ r : Int, e = .returned (.int .i64 r) ∧ decide (r ≥ 0) = l.any (fun x => decide (x = m)) ∧ w = w' := by
 have q1 : n ≤ cap := by have := h.le; rw [txts_length] at this; omega
 have q2 := h.max
 unfold maxLen at q2
 have H := Lib.hid h
 have HN := Lib.hid hn
 obtain ⟨sm, hsm⟩ : ∃ sm, sm = strOf m := ⟨_, rfl⟩
 have HSM := Lib.hid hsm
 rw [← hsm]
 clear hsm
 clear h hn
 go_enter Tryz.func220, Tryz.ntmps220
 go_wp2
 go_loopw [5, 8] (fun u x wr => ∃ i : Nat, x = .int .i64 (i : Int) ∧ i ≤ n ∧ (l.take i).any (fun x => decide (x = m)) = false ∧ w = wr) (fun u x _ => n - (intOf x).toNat)
 case atStart => exact ⟨0, rfl, Nat.zero_le _, by simp, rfl⟩
 case round =>
  obtain ⟨i, rfl, hi, hall, rfl⟩ := hrel
  have HALL := Lib.hid hall
  clear hall
  by_cases hlt : i < n
  ·have g1 : decide ((i : Int) < (n : Int)) = true := decide_eq_true (by omega)
   obtain ⟨x, hx⟩ : ∃ x, l[i]? = some x := ⟨_, List.getElem?_eq_getElem (by have := HN.out; omega)⟩
   have HANY := Lib.hid (any_snoc l (fun x => decide (x = m)) i x hx)
   have HIT : Hid (x = m → l.any (fun x => decide (x = m)) = true) := Lib.hid (fun e => any_off hx (decide_eq_true e))
   obtain ⟨ge, oe, rfl, c0⟩ := H.out.at_ i (.string (strOf x)) (by rw [txts, List.getElem?_map, hx]; rfl)
   obtain ⟨sx, hsx⟩ : ∃ sx, sx = strOf x := ⟨_, rfl⟩
   have HSX := Lib.hid hsx
   rw [← hsx] at c0
   clear hx hsx
   by_cases hab : x = m
   ·have HO := Lib.hid (HIT.out hab)
    have es : sx = sm := by rw [HSX.out, HSM.out, hab]
    subst es
    clear hab
    go_wp2
    go_ret
    exact ⟨(i : Int), rfl, (by rw [HO.out]; exact decide_eq_true (by omega)), rfl⟩
   ·have HNO : Hid (decide (x = m) = false) := Lib.hid (decide_eq_false hab)
    have hne : ¬ sm.toList = sx.toList := by rw [HSX.out, HSM.out, str_list, str_list]; exact fun e => hab e.symm
    have hne2 : (sm.toList == sx.toList) = false := by rw [HSX.out, HSM.out, strOf_beq]; exact decide_eq_false (fun e => hab e.symm)
    clear hab
    go_wp2
    go_roundw
    case rel => exact ⟨i + 1, by go_num, by omega, by rw [HANY.out, HALL.out, HNO.out]; rfl, by trivial⟩
    case measure => simp [intOf]; omega
  ·have g1 : decide ((i : Int) < (n : Int)) = false := decide_eq_false (by omega)
   have HF := Lib.hid (any_none HN.out hlt HALL.out)
   go_wp2
   go_ret
   exact ⟨-1, rfl, (by rw [HF.out]; rfl), rfl⟩
theorem cts_st  (w : World) {A : Option Addr} {cap n : Nat} {l : List (List UInt8)} (h : Sl w A cap (txts l)) (hn : n = l.length) (m : (List UInt8)) :
 Calls Tryz.prog 140 #[.slice A n cap, .string (strOf m)] w fun e w' => e = .returned (.bool (l.any (fun x => decide (x = m)))) ∧ w = w' := by
 have HI := Lib.hid (ind_st w h hn m)
 clear h hn
 go_enter Tryz.func140, Tryz.ntmps140
 go_wp2_with (go_at_call 220; refine HI.out.mono ?_; rintro e w2 ⟨r, rfl, hr, rfl⟩; have HR := Lib.hid hr; clear hr)
 go_ret
 exact ⟨by rw [← HR.out]; rfl, rfl⟩

set_option maxHeartbeats 4000000 in
theorem ind_in {S : Nat → Prop} (w : World) {A : Option Addr} {cap n : Nat} {l : List Int} (h : Lst 1 S inR w A cap l) (hn : n = l.length) (m : Int) :
 Calls Tryz.prog 219 #[.slice A n cap, .int .i64 m] w fun e w' => ∃ r : Int, e = .returned (.int .i64 r) ∧ decide (r ≥ 0) = l.any (fun x => decide (x = m)) ∧ w = w' := by
 have q1 : n ≤ cap := by have := h.l_le; omega
 have q2 := h.l_max
 unfold maxLen at q2
 have H := Lib.hid h
 have HN := Lib.hid hn
 clear h hn
 go_enter Tryz.func219, Tryz.ntmps219
 go_wp2
 go_loopw [5, 8] (fun u x wr => ∃ i : Nat, x = .int .i64 (i : Int) ∧ i ≤ n ∧ (l.take i).any (fun x => decide (x = m)) = false ∧ w = wr) (fun u x _ => n - (intOf x).toNat)
 case atStart => exact ⟨0, rfl, Nat.zero_le _, by simp, rfl⟩
 case round =>
  obtain ⟨i, rfl, hi, hall, rfl⟩ := hrel
  have HALL := Lib.hid hall
  clear hall
  by_cases hlt : i < n
  ·have g1 : decide ((i : Int) < (n : Int)) = true := decide_eq_true (by omega)
   obtain ⟨x, hx⟩ : ∃ x, l[i]? = some x := ⟨_, List.getElem?_eq_getElem (by have := HN.out; omega)⟩
   have HANY := Lib.hid (any_snoc l (fun x => decide (x = m)) i x hx)
   have HIT : Hid (x = m → l.any (fun x => decide (x = m)) = true) := Lib.hid (fun e => any_off hx (decide_eq_true e))
   obtain ⟨ge, oe, rfl, _, hc⟩ := in_at H.out hx
   have c0 := hc _ (Below.refl _ _)
   clear hx hc
   by_cases hab : x = m
   ·have HO := Lib.hid (HIT.out hab)
    subst hab
    go_wp2
    go_ret
    exact ⟨(i : Int), rfl, (by rw [HO.out]; exact decide_eq_true (by omega)), rfl⟩
   ·have HNO : Hid (decide (x = m) = false) := Lib.hid (decide_eq_false hab)
    have g2 : (m == x) = false := beq_false_of_ne (fun e => hab e.symm)
    have g3 : (x == m) = false := beq_false_of_ne hab
    clear hab
    go_wp2
    go_roundw
    case rel => exact ⟨i + 1, by go_num, by omega, by rw [HANY.out, HALL.out, HNO.out]; rfl, by trivial⟩
    case measure => simp [intOf]; omega
  ·have g1 : decide ((i : Int) < (n : Int)) = false := decide_eq_false (by omega)
   have HF := Lib.hid (any_none HN.out hlt HALL.out)
   go_wp2
   go_ret
   exact ⟨-1, rfl, (by rw [HF.out]; rfl), rfl⟩
theorem cts_in {S : Nat → Prop} (w : World) {A : Option Addr} {cap n : Nat} {l : List Int} (h : Lst 1 S inR w A cap l) (hn : n = l.length) (m : Int) :
 Calls Tryz.prog 138 #[.slice A n cap, .int .i64 m] w fun e w' => e = .returned (.bool (l.any (fun x => decide (x = m)))) ∧ w = w' := by
 have HI := Lib.hid (ind_in w h hn m)
 clear h hn
 go_enter Tryz.func138, Tryz.ntmps138
 go_wp2_with (go_at_call 219; refine HI.out.mono ?_; rintro e w2 ⟨r, rfl, hr, rfl⟩; have HR := Lib.hid hr; clear hr)
 go_ret
 exact ⟨by rw [← HR.out]; rfl, rfl⟩

set_option maxHeartbeats 4000000 in
theorem srise_any {S : Nat → Prop} (w : World) {A : Option Addr} {cap n : Nat} {l : List Int} (h : Lst 1 S inR w A cap l) (hn : n = l.length) :
 Calls Tryz.prog 212 #[.slice A n cap] w fun e w' => e = .returned (.bool (risesB l)) ∧ w = w' := by
 have hle : n ≤ cap := by have := h.l_le; omega
 have hmx := h.l_max
 unfold maxLen at hmx
 have H := Lib.hid h
 have HN := Lib.hid hn
 clear h hn
 go_enter Tryz.func212, Tryz.ntmps212
 go_wp2
 go_loopw [3, 4, 7] (fun u v x wr => ∃ k : Nat, x = .int .i64 (k : Int) ∧ k ≤ n ∧ w = wr ∧ ∀ (j : Nat) a b, j + 1 < k → l[j]? = some a → l[j + 1]? = some b → a < b) (fun u v x _ => n - (intOf x).toNat)
 case atStart => exact ⟨0, rfl, Nat.zero_le _, rfl, fun j a b hj => absurd hj (Nat.not_lt_zero _)⟩
 case round =>
  obtain ⟨k, rfl, hk, rfl, hall⟩ := hrel
  have HALL := Lib.hid hall
  clear hall
  by_cases hlt : k < n
  ·have g1 : decide ((k : Int) < (n : Int)) = true := decide_eq_true (by omega)
   obtain ⟨b, hb⟩ : ∃ b, l[k]? = some b := ⟨_, List.getElem?_eq_getElem (by have := HN.out; omega)⟩
   obtain ⟨g, off, rfl, _, hc⟩ := in_at H.out hb
   have c1 := hc _ (Below.refl _ _)
   have HB := Lib.hid hb
   clear hc
   by_cases hk0 : k = 0
   ·subst hk0
    rw [Nat.add_zero] at c1
    have HALL2 : Hid (∀ (j : Nat) a b, j + 1 < 0 + 1 → l[j]? = some a → l[j + 1]? = some b → a < b) := Lib.hid (fun j a b hj => absurd hj (by omega))
    clear hb
    go_wp2
    go_roundw
    case rel => exact ⟨1, by go_num, by omega, by trivial, HALL2.out⟩
    case measure => simp [intOf]; omega
   ·obtain ⟨k0, hk0⟩ : ∃ k0, k = k0 + 1 := ⟨k - 1, by omega⟩
    have gp : decide ((k : Int) > 0) = true := decide_eq_true (by omega)
    obtain ⟨a, ha⟩ : ∃ a, l[k0]? = some a := ⟨_, List.getElem?_eq_getElem (by have := HN.out; omega)⟩
    obtain ⟨g', off', e', _, hc'⟩ := in_at H.out ha
    cases e'
    have c3 := hc' _ (Below.refl _ _)
    have HA := Lib.hid ha
    have gx : (k : Int) - 1 = (k0 : Int) := by omega
    have gw : IntKind.i64.wrap ((k : Int) - 1) = (k0 : Int) := by rw [gx]; exact IntWalk.i64_in _ (by omega)
    have hkk : k0 < n := by omega
    have HK0 := Lib.hid hk0
    clear ha hb hk0 hk hc'
    by_cases hr : a < b
    ·have HR := Lib.hid hr
     have g2 : decide (a ≥ b) = false := decide_eq_false (by omega)
     have g3 : decide (b ≤ a) = false := decide_eq_false (by omega)
     clear hr
     go_wp2
     go_roundw
     case rel =>
      refine ⟨k + 1, by go_num, by omega, by trivial, fun j x y hj hx hy => ?_⟩
      by_cases hjk : j + 1 < k
      ·exact HALL.out j x y hjk hx hy
      ·have : j = k0 := by have := HK0.out; omega
       subst this
       have e1 := HA.out.symm.trans hx
       rw [← HK0.out] at hy
       have e2 := HB.out.symm.trans hy
       injection e1 with e1
       injection e2 with e2
       subst e1 e2
       exact HR.out
     case measure => simp [intOf]; omega
    ·have HO : Hid (risesB l = false) := Lib.hid (risesB_off (j := k0) HA.out (by rw [← HK0.out]; exact HB.out) hr)
     have g2 : decide (a ≥ b) = true := decide_eq_true (by omega)
     have g3 : decide (b ≤ a) = true := decide_eq_true (by omega)
     clear hr
     go_wp2
     go_ret
     exact ⟨ret_bool' HO.out.symm, rfl⟩
  ·have g1 : decide ((k : Int) < (n : Int)) = false := decide_eq_false (by omega)
   have HO : Hid (risesB l = true) := Lib.hid ((risesB_iff l).2 (fun j a b ha hb => HALL.out j a b (by have := (List.getElem?_eq_some_iff.mp hb).1; have := HN.out; omega) ha hb))
   go_wp2
   go_ret
   exact ⟨ret_bool' HO.out.symm, rfl⟩
end Go.Proofs.YtcjjphioeneiiaaGreatDoor

/- append of lists of structs onto a row of the call's own, whatever they are; rows by the kind of their block. Conditions: those that each theorem names. -/
namespace Go.Proofs.YtcjjphioeneiiaaGreatDoor
open Go.RowKit
set_option linter.unusedVariables false
set_option maxRecDepth 100000

theorem flat_inv {α β : Type} (f : α → List β) (k : Nat) (hk : 0 < k) (hf : ∀ a, (f a).length = k) (l : List α) (j : Nat) (u : β) (h : (l.flatMap f)[j]? = some u) : ∃ x, l[j / k]? = some x ∧ (f x)[j % k]? = some u := by
 have hj := (List.getElem?_eq_some_iff.mp h).1
 rw [flat_length f k hf] at hj
 have hq : j / k < l.length := Nat.div_lt_of_lt_mul (by rw [Nat.mul_comm]; exact hj)
 refine ⟨l[j / k], List.getElem?_eq_getElem hq, ?_⟩
 have e := flat_get f k hf l (j / k) l[j / k] (j % k) (List.getElem?_eq_getElem hq) (Nat.mod_lt _ hk)
 rw [Nat.div_add_mod] at e
 rw [← e]
 exact h
theorem run_append_lst {α : Type} {P : Program} {w : World} {base n k bytes : Nat} {t e : TypeId} {i : TypeInfo} {z : Value} {v : Value} {xs : List Value} {S : Nat → Prop} {R : World → List Value → α → Prop} {f : α → List Value} {A : Option Addr} {m c : Nat} {l : List α} (ty : TypeId)
 (ht : P.underlying t = some (.slice e)) (hi : P.info? e = some i) (hz : i.zero = some z) (hsize : i.size = k) (hby : i.bytes = bytes) (hzs : z.cells.size = k) (hk : 0 < k)
 (hf : ∀ x, (f x).length = k) (h1 : ∀ x u, u ∈ f x → u.oneCell' = true) (hown : w.ownsRow base e k v n xs) (hb : Lst k S R w A c l) (hR : ∀ cs x, R w cs x → cs = f x) (hm : m = l.length)
 (h63 : n + m ≤ maxLen) (hbytes : (n + m) * bytes ≤ 140737488355328) (hbase : base ≤ w.heap.size) :
 ∃ v' w', (Builtin.append_ #[t, t] ty #[v, .slice A m c]).run P w = .ok v' w' ∧ w'.ownsRow base e k v' (n + m) (xs ++ l.flatMap f) ∧ w.grownBy w' v.ownBlock ∧ Moved w v v' := by
 subst hm
 rcases A with _ | ad
 ·have h0 := hb.l_nil rfl
  have hle := hb.l_le
  have hl : l = [] := List.eq_nil_of_length_eq_zero (by omega)
  subst hl h0
  exact ⟨v, w, run_append_owned_none w base t ty e i k ht hi v n xs hown, by simpa using hown, World.grownBy.refl _ _, .inl rfl⟩
 ·exact run_append_own2 w base t ty e i z k bytes ht hi hz hsize hby hzs hk v n xs hown ad l.length c (l.flatMap f) (flat_length f k hf l) (fun j u hu => by
   obtain ⟨x, hx, hfx⟩ := flat_inv f k hk hf l j u hu
   obtain ⟨g, off, cs, ea, _, _, hr, hc⟩ := hb.l_at _ x hx
   obtain rfl := hR cs x hr
   cases ea
   have hplain : (⟨g, off, none⟩ : Addr).add j = ⟨g, off + j, none⟩ := by unfold Addr.add; split <;> simp_all
   rw [hplain]
   have := hc _ u hfx
   rwa [show off + j / k * k + j % k = off + j by have := Nat.div_add_mod j k; rw [Nat.mul_comm] at this; omega] at this) (fun u hu => by
   obtain ⟨x, _, hx⟩ := List.mem_flatMap.mp hu
   exact h1 x u hx) h63 hbytes hbase
/-- 'append' as a step of a region, off what it answers. -/
theorem step_append_run {P : Program} {ops : Array Oper} {o : Oper} {a : Act} {w : World} {K : Act → World → Prop} {Q : Exit → Act → World → Prop} {E : Prop} {t : TypeId} {v y : Value} (hw : Region.wanted o (yielded ops a.tmps) = true) (s x : Operand)
 (ho : o.op = .call { callee := .builtin .append, args := #[s, x], argTypes := #[t, t] }) (hs : a.eval s = v) (hx : a.eval x = y) {X : Value → World → Prop}
 (hr : ∃ v' w', (Builtin.append_ #[t, t] o.type #[v, y]).run P w = .ok v' w' ∧ X v' w') (hK : ∀ v' w', X v' w' → K (a.put o.dst v') w') : if Region.wanted o (yielded ops a.tmps) = true then Oper.wp P o a w K Q else E := by
 rw [if_pos hw]
 obtain ⟨v', w', hr, hX⟩ := hr
 unfold Oper.wp execOp
 simp only [ho, resolve, invoke, builtin, Sem.run_bind, Sem.run_pure, Result.andThen_ok, List.map_toArray, List.map_cons, List.map_nil, hs, hx, hr]
 exact hK v' w' hX

/-- Which type lies in a block, by its kind: values, fields, numbers, enums, messages. -/
def tyK : Nat → TypeId
 | 0 => 67
 | 1 => 70
 | 2 => 3
 | 3 => 47
 | _ => 43
def Typed (base : Nat) (w : World) (k g : Nat) : Prop := base ≤ g ∧ ∃ cs, w.heap[g]? = some (.cells cs (tyK k) (0, 0))
theorem own_typed {w : World} {base k n : Nat} {t : TypeId} {v : Value} {xs : List Value} (h : w.ownsRow base t k v n xs) {g : Nat} (hg : v.ownBlock = some g) : base ≤ g ∧ ∃ cs, w.heap[g]? = some (.cells cs t (0, 0)) := by
 rcases h.2 with ⟨rfl, _⟩ | ⟨g', cap, cur, rfl, hb, hh, _⟩
 ·simp [Value.ownBlock] at hg
 ·simp [Value.ownBlock] at hg
  subst hg
  exact ⟨hb, _, hh⟩
theorem lst_own_typed {α : Type} {w : World} {base k n : Nat} {t : TypeId} {v : Value} {l : List α} {f : α → List Value} {R : World → List Value → α → Prop} (hk : 0 < k) (hf : ∀ x, (f x).length = k) (hR : ∀ x ∈ l, R w (f x) x) (h : w.ownsRow base t k v n (l.flatMap f)) :
 n = l.length ∧ ∃ A cap, v = .slice A l.length cap ∧ Lst k (fun g => base ≤ g ∧ ∃ cs, w.heap[g]? = some (.cells cs t (0, 0))) R w A cap l := by
 obtain ⟨hn, A, cap, rfl, hl⟩ := lst_own hk hf hR h
 refine ⟨hn, A, cap, rfl, ⟨hl.l_le, hl.l_max, hl.l_nil, fun j x hj => ?_⟩⟩
 obtain ⟨g, off, cs, rfl, hg, h2, h3, h4⟩ := hl.l_at j x hj
 refine ⟨g, off, cs, rfl, ?_, h2, h3, h4⟩
 rcases h.2 with ⟨e, _⟩ | ⟨g2, cap2, cur, e, hb, hh, _⟩
 ·cases e
 ·injection e with e1 e2 e3
  injection e1 with e1
  injection e1 with e4 e5 e6
  subst e4
  exact ⟨hb, _, hh⟩
theorem lst_map {α β : Type} {k : Nat} {S : Nat → Prop} {R : World → List Value → α → Prop} {R' : World → List Value → β → Prop} {w : World} {A : Option Addr} {cap : Nat} {l : List α} (g : α → β) (h : Lst k S R w A cap l) (hR : ∀ x ∈ l, ∀ cs, R w cs x → R' w cs (g x)) : Lst k S R' w A cap (l.map g) :=
 ⟨by rw [List.length_map]; exact h.l_le, h.l_max, h.l_nil, fun j y hj => by
  rw [List.getElem?_map] at hj
  cases hx : l[j]? with
  | none => rw [hx] at hj; cases hj
  | some x =>
    rw [hx] at hj
    injection hj with hj
    subst hj
    obtain ⟨a, b, cs, e, h1, h2, h3, h4⟩ := h.l_at j x hx
    exact ⟨a, b, cs, e, h1, h2, hR x (List.mem_of_getElem? hx) cs h3, h4⟩⟩
end Go.Proofs.YtcjjphioeneiiaaGreatDoor

/- A copy of a schema that is being made: what stands in memory, and what each step keeps. Conditions: those that each theorem names. -/
namespace Go.Proofs.YtcjjphioeneiiaaGreatDoor
open Go.RowKit
set_option linter.unusedVariables false
set_option maxRecDepth 100000

structure CE where
 ce_e : En
 ce_a : Option Addr
 ce_c : Nat
structure CM where
 cm_m : Ms
 cm_a : Option Addr
 cm_c : Nat
 cm_b : Option Addr
 cm_d : Nat
def ceCells (x : CE) : List Value := [.string (strOf x.ce_e.name), .slice x.ce_a x.ce_e.values.length x.ce_c]
def cmCells (x : CM) : List Value := [.string (strOf x.cm_m.name), .slice x.cm_a x.cm_m.fields.length x.cm_c, .slice x.cm_b x.cm_m.barred.length x.cm_d]
structure Cpy (wr : World) (ob base : Nat) (ve vm : Value) (es : List CE) (ms : List CM) : Prop where
 c_box : wr.heap[ob]? = some (.cells #[ve, vm] 26 (0, 0))
 c_e : wr.ownsRow base 47 2 ve es.length (es.flatMap ceCells)
 c_m : wr.ownsRow base 43 3 vm ms.length (ms.flatMap cmCells)
 c_v : ∀ x ∈ es, Lst 2 (Typed base wr 0) vlR wr x.ce_a x.ce_c x.ce_e.values
 c_f : ∀ x ∈ ms, Lst 7 (Typed base wr 1) fdR wr x.cm_a x.cm_c x.cm_m.fields
 c_b : ∀ x ∈ ms, Lst 1 (Typed base wr 2) inR wr x.cm_b x.cm_d x.cm_m.barred

/-- Rows of these kinds stay. -/
def Stays (base : Nat) (w w' : World) : Prop := ∀ k g cs, k ≤ 2 → base ≤ g → w.heap[g]? = some (.cells cs (tyK k) (0, 0)) → w'.heap[g]? = w.heap[g]?
theorem typed_keep {α : Type} {kk k base : Nat} {R : World → List Value → α → Prop} {w w' : World} {A : Option Addr} {c : Nat} {l : List α} (h : Lst kk (Typed base w k) R w A c l) (hs : Stays base w w') (hk : k ≤ 2) (hR : ∀ cs x, R w cs x → R w' cs x) : Lst kk (Typed base w' k) R w' A c l :=
 lst_keep h hR (fun g ⟨hb, cs, hg⟩ => ⟨hb, cs, (hs k g cs hk hb hg).trans hg⟩) (fun p ⟨hb, cs, hg⟩ _ => World.cell?_of_block (hs k p.block cs hk hb hg))
theorem stays_below {base : Nat} {w w' : World} (hb : Below w.heap.size w w') : Stays base w w' := fun k g cs _ _ hg => hb.block g (lt_of_block hg)
theorem stays_trans {base : Nat} {a b c : World} (h : Stays base a b) (k : Stays base b c) : Stays base a c := fun i g cs hi hb hg => (k i g cs hi hb ((h i g cs hi hb hg).trans hg)).trans (h i g cs hi hb hg)
theorem stays_grown {base base' k n : Nat} {w w' : World} {t : TypeId} {v : Value} {xs : List Value} (h : w.ownsRow base' t k v n xs) (hg : w.grownBy w' v.ownBlock) (ht : t = tyK 3 ∨ t = tyK 4) : Stays base w w' := fun i g cs hi hb hc =>
 hg.block g (lt_of_block hc) (fun e => by
  obtain ⟨_, cs', hc'⟩ := own_typed h e.symm
  rw [hc] at hc'
  injection hc' with hc'
  injection hc' with e1 e2
  match i, hi with
  | 0, _ => rcases ht with rfl | rfl <;> exact absurd e2 (by decide)
  | 1, _ => rcases ht with rfl | rfl <;> exact absurd e2 (by decide)
  | 2, _ => rcases ht with rfl | rfl <;> exact absurd e2 (by decide))
theorem stays_set {base ob : Nat} {w : World} {cs : Array Value} (h : w.heap[ob]? = some (.cells cs 26 (0, 0))) (j : Nat) (u : Value) : Stays base w (w.setCell ⟨ob, j, none⟩ u) := fun i g ds hi hb hg =>
 Below.heap_setCell w ⟨ob, j, none⟩ u g (fun e => by
  have e' : g = ob := e
  subst e'
  rw [hg] at h
  injection h with h
  injection h with e1 e2
  match i, hi with
  | 0, _ => exact absurd e2 (by decide)
  | 1, _ => exact absurd e2 (by decide)
  | 2, _ => exact absurd e2 (by decide))
theorem grown_at {w w' : World} {v : Value} (hg : w.grownBy w' v.ownBlock) {k : Nat} (hk : k < w.heap.size) (hv : v.ownBlock ≠ some k) : w'.heap[k]? = w.heap[k]? := hg.block k hk (fun e => hv e.symm)

/-- One more enum. -/
theorem cpy_enum {wr W1 W2 : World} {ob base : Nat} {ve vm v2 : Value} {es : List CE} {ms : List CM} (h : Cpy wr ob base ve vm es ms) (hb : Below wr.heap.size wr W1) (x : CE) (hx : Lst 2 (Typed base W1 0) vlR W1 x.ce_a x.ce_c x.ce_e.values)
 (ho : W2.ownsRow base 47 2 v2 (es.length + 1) (es.flatMap ceCells ++ ceCells x)) (hg : W1.grownBy W2 ve.ownBlock) : Cpy (W2.setCell ⟨ob, 0, none⟩ v2) ob base v2 vm (es ++ [x]) ms ∧ W2.heap[ob]? = some (.cells #[ve, vm] 26 (0, 0)) ∧ ∀ g, g < wr.heap.size → g ≠ ob → ve.ownBlock ≠ some g → (W2.setCell ⟨ob, 0, none⟩ v2).heap[g]? = wr.heap[g]? ∧ W2.heap[g]? = wr.heap[g]? := by
 have he1 := own_below h.c_e hb
 have hm1 := own_below h.c_m hb
 have hob := lt_of_block h.c_box
 have hb1 : W1.heap[ob]? = some (.cells #[ve, vm] 26 (0, 0)) := (hb.block ob hob).trans h.c_box
 have n1 : ve.ownBlock ≠ some ob := own_other he1 hb1 (by decide)
 have hb2 : W2.heap[ob]? = some (.cells #[ve, vm] 26 (0, 0)) := (grown_at hg (lt_of_block hb1) n1).trans hb1
 have hm2 : W2.ownsRow base 43 3 vm ms.length (ms.flatMap cmCells) := own_block hm1 (fun k hk => grown_at hg (hm1.lt k hk).2 (own_own he1 hm1 (by decide) hk))
 have n2 : vm.ownBlock ≠ some ob := own_other hm2 hb2 (by decide)
 have n3 : v2.ownBlock ≠ some ob := own_other ho hb2 (by decide)
 have s1 : Stays base W1 (W2.setCell ⟨ob, 0, none⟩ v2) := stays_trans (stays_grown he1 hg (.inl rfl)) (stays_set hb2 0 v2)
 have s0 : Stays base wr (W2.setCell ⟨ob, 0, none⟩ v2) := stays_trans (stays_below hb) s1
 refine ⟨⟨?_, ?_, ?_, ?_, ?_, ?_⟩, hb2, fun g hgl hgo hgv => ?_⟩
 ·have := obj_set hb2 0 v2
  simpa using this
 ·rw [List.length_append, List.flatMap_append, List.flatMap_cons, List.flatMap_nil, List.append_nil]
  exact own_block ho (fun k hk => Below.heap_setCell W2 ⟨ob, 0, none⟩ v2 k (fun e => n3 (by rw [hk]; exact congrArg some e)))
 ·exact own_block hm2 (fun k hk => Below.heap_setCell W2 ⟨ob, 0, none⟩ v2 k (fun e => n2 (by rw [hk]; exact congrArg some e)))
 ·intro y hy
  rcases List.mem_append.mp hy with hy | hy
  ·exact typed_keep (h.c_v y hy) s0 (by decide) (fun _ _ h => h)
  ·obtain rfl : y = x := by simpa using hy
   exact typed_keep hx s1 (by decide) (fun _ _ h => h)
 ·exact fun y hy => typed_keep (h.c_f y hy) s0 (by decide) (fun _ _ h => h)
 ·exact fun y hy => typed_keep (h.c_b y hy) s0 (by decide) (fun _ _ h => h)
 ·exact ⟨by rw [Below.heap_setCell W2 ⟨ob, 0, none⟩ v2 g hgo, grown_at hg (by have := hb.size; omega) hgv, hb.block g hgl], by rw [grown_at hg (by have := hb.size; omega) hgv, hb.block g hgl]⟩
/-- One more message. -/
theorem cpy_msg {wr W1 W2 : World} {ob base : Nat} {ve vm v2 : Value} {es : List CE} {ms : List CM} (h : Cpy wr ob base ve vm es ms) (hb : Below wr.heap.size wr W1) (x : CM) (hx : Lst 7 (Typed base W1 1) fdR W1 x.cm_a x.cm_c x.cm_m.fields) (hx2 : Lst 1 (Typed base W1 2) inR W1 x.cm_b x.cm_d x.cm_m.barred)
 (ho : W2.ownsRow base 43 3 v2 (ms.length + 1) (ms.flatMap cmCells ++ cmCells x)) (hg : W1.grownBy W2 vm.ownBlock) : Cpy (W2.setCell ⟨ob, 1, none⟩ v2) ob base ve v2 es (ms ++ [x]) ∧ W2.heap[ob]? = some (.cells #[ve, vm] 26 (0, 0)) ∧ ∀ g, g < wr.heap.size → g ≠ ob → vm.ownBlock ≠ some g → (W2.setCell ⟨ob, 1, none⟩ v2).heap[g]? = wr.heap[g]? ∧ W2.heap[g]? = wr.heap[g]? := by
 have he1 := own_below h.c_e hb
 have hm1 := own_below h.c_m hb
 have hob := lt_of_block h.c_box
 have hb1 : W1.heap[ob]? = some (.cells #[ve, vm] 26 (0, 0)) := (hb.block ob hob).trans h.c_box
 have n1 : vm.ownBlock ≠ some ob := own_other hm1 hb1 (by decide)
 have hb2 : W2.heap[ob]? = some (.cells #[ve, vm] 26 (0, 0)) := (grown_at hg (lt_of_block hb1) n1).trans hb1
 have he2 : W2.ownsRow base 47 2 ve es.length (es.flatMap ceCells) := own_block he1 (fun k hk => grown_at hg (he1.lt k hk).2 (own_own hm1 he1 (by decide) hk))
 have n2 : ve.ownBlock ≠ some ob := own_other he2 hb2 (by decide)
 have n3 : v2.ownBlock ≠ some ob := own_other ho hb2 (by decide)
 have s1 : Stays base W1 (W2.setCell ⟨ob, 1, none⟩ v2) := stays_trans (stays_grown hm1 hg (.inr rfl)) (stays_set hb2 1 v2)
 have s0 : Stays base wr (W2.setCell ⟨ob, 1, none⟩ v2) := stays_trans (stays_below hb) s1
 refine ⟨⟨?_, ?_, ?_, ?_, ?_, ?_⟩, hb2, fun g hgl hgo hgv => ?_⟩
 ·have := obj_set hb2 1 v2
  simpa using this
 ·exact own_block he2 (fun k hk => Below.heap_setCell W2 ⟨ob, 1, none⟩ v2 k (fun e => n2 (by rw [hk]; exact congrArg some e)))
 ·rw [List.length_append, List.flatMap_append, List.flatMap_cons, List.flatMap_nil, List.append_nil]
  exact own_block ho (fun k hk => Below.heap_setCell W2 ⟨ob, 1, none⟩ v2 k (fun e => n3 (by rw [hk]; exact congrArg some e)))
 ·exact fun y hy => typed_keep (h.c_v y hy) s0 (by decide) (fun _ _ h => h)
 ·intro y hy
  rcases List.mem_append.mp hy with hy | hy
  ·exact typed_keep (h.c_f y hy) s0 (by decide) (fun _ _ h => h)
  ·obtain rfl : y = x := by simpa using hy
   exact typed_keep hx s1 (by decide) (fun _ _ h => h)
 ·intro y hy
  rcases List.mem_append.mp hy with hy | hy
  ·exact typed_keep (h.c_b y hy) s0 (by decide) (fun _ _ h => h)
  ·obtain rfl : y = x := by simpa using hy
   exact typed_keep hx2 s1 (by decide) (fun _ _ h => h)
 ·exact ⟨by rw [Below.heap_setCell W2 ⟨ob, 1, none⟩ v2 g hgo, grown_at hg (by have := hb.size; omega) hgv, hb.block g hgl], by rw [grown_at hg (by have := hb.size; omega) hgv, hb.block g hgl]⟩
/-- What a copy reads as. -/
theorem cpy_reads {wr : World} {ob base : Nat} {ve vm : Value} {es : List CE} {ms : List CM} {s : Sc} (h : Cpy wr ob base ve vm es ms) (he : es.map CE.ce_e = s.enums) (hm : ms.map CM.cm_m = s.msgs) :
 ∃ A n cap A2 n2 cap2, ve = .slice A n cap ∧ vm = .slice A2 n2 cap2 ∧ ScAt (Typed base wr) wr A n cap A2 n2 cap2 s := by
 obtain ⟨_, A, cap, rfl, h1⟩ := lst_own_typed (k := 2) (f := ceCells) (R := fun w cs (x : CE) => cs = ceCells x ∧ Lst 2 (Typed base wr 0) vlR w x.ce_a x.ce_c x.ce_e.values) (by decide) (fun _ => rfl) (fun x hx => ⟨rfl, h.c_v x hx⟩) h.c_e
 obtain ⟨_, A2, cap2, rfl, h2⟩ := lst_own_typed (k := 3) (f := cmCells) (R := fun w cs (x : CM) => cs = cmCells x ∧ Lst 7 (Typed base wr 1) fdR w x.cm_a x.cm_c x.cm_m.fields ∧ Lst 1 (Typed base wr 2) inR w x.cm_b x.cm_d x.cm_m.barred) (by decide) (fun _ => rfl) (fun x hx => ⟨rfl, h.c_f x hx, h.c_b x hx⟩) h.c_m
 refine ⟨A, _, cap, A2, _, cap2, rfl, rfl, ⟨?_, ?_, by rw [← he, List.length_map], by rw [← hm, List.length_map]⟩⟩
 ·rw [← he]
  exact lst_map CE.ce_e h1 (fun x _ cs ⟨e, hl⟩ => ⟨x.ce_a, x.ce_c, e, hl⟩)
 ·rw [← hm]
  exact lst_map CM.cm_m h2 (fun x _ cs ⟨e, hl, hl2⟩ => ⟨x.cm_a, x.cm_c, x.cm_b, x.cm_d, e, hl, hl2⟩)
end Go.Proofs.YtcjjphioeneiiaaGreatDoor

/- Lists in memory by their cells alone; a thing put in at a place. Conditions: those that each theorem names. -/
namespace Go.Proofs.YtcjjphioeneiiaaGreatDoor
open Go.RowKit
set_option linter.unusedVariables false

/-- k cells, one value each. -/
def Cel (k : Nat) := {cs : List Value // cs.length = k ∧ ∀ u ∈ cs, u.oneCell' = true}
/-- x at place n. -/
def putAt {α : Type} (l : List α) (n : Nat) (x : α) : List α := l.take n ++ x :: l.drop n
theorem putAt_len {α : Type} {l : List α} {n : Nat} {x : α} (hn : n ≤ l.length) : (putAt l n x).length = l.length + 1 := by
 unfold putAt
 rw [List.length_append, List.length_cons, List.length_take, List.length_drop]
 omega
section
variable {α : Type} {k : Nat} {S S' : Nat → Prop} {R R' : World → List Value → α → Prop} {w w' : World} {A A' : Option Addr} {cap cap' : Nat} {l : List α}
end
section
variable {P : Program} {w : World} {k base bytes : Nat} {t e : TypeId} {i : TypeInfo} {z : Value}
end
end Go.Proofs.YtcjjphioeneiiaaGreatDoor

/- The document's layer 18: what stands where its reader is. Conditions: those that each theorem names. -/
namespace Go.Proofs.YtcjjphioeneiiaaGreatDoor
open Go.RowKit
set_option linter.unusedVariables false
set_option maxRecDepth 100000

/-- The last one is the end of the text: what stands there is no mark, no word and no number. -/
def EndOk (l : List Tk) : Prop := ∀ i x, l[i]? = some x → x.kind ≠ 0 → i + 1 < l.length
theorem isP_next {l : List Tk} {x : Ps} {t : List UInt8} (hE : EndOk l) (hi : x.at_i < l.length) (h : isP l x t = true) : x.at_i + 1 < l.length := by
 have e := List.getElem?_eq_getElem hi
 refine hE _ _ e fun h0 => ?_
 unfold isP tokOf at h
 rw [e] at h
 simp only [Option.getD_some, h0] at h
 simp at h
end Go.Proofs.YtcjjphioeneiiaaGreatDoor

/- The end of a text's tokens, and how many these are. Conditions: those that each theorem names. -/
namespace Go.Proofs.YtcjjphioeneiiaaGreatDoor
open Go.RowKit
set_option linter.unusedVariables false

theorem lexFrom_len (t : List UInt8) : ∀ (f i : Nat), (lexFrom t f i).1.length ≤ f
 | 0, i => Nat.le_refl _
 | f + 1, i => by
   rw [lexFrom]
   split
   ·split
    ·exact Nat.zero_le _
    ·have := lexFrom_len t f (passTo t (i + (oneT (t.drop i)).2))
     simp only [List.length_cons]
     omega
   ·exact Nat.zero_le _
theorem lex_endok {t : List UInt8} {most : Int} (h : (lexT t most).2.2 = 0) : EndOk (lexT t most).1 ∧ 0 < (lexT t most).1.length ∧ (lexT t most).1.length ≤ t.length + 2 ∧ (t.length : Int) ≤ most := by
 unfold lexT at h ⊢
 split at h
 ·simp at h
 ·rename_i hm
  split at h
  ·rename_i hs
   rw [if_neg hm, if_pos hs]
   have hl := lexFrom_len t (t.length + 1) (passTo t 0)
   refine ⟨fun i x hi hk => ?_, by simp, by simp only [List.length_append, List.length_cons, List.length_nil]; unfold lexS; omega, by omega⟩
   dsimp only at hi ⊢
   rw [List.length_append, List.length_cons, List.length_nil]
   rcases Nat.lt_or_ge i (lexS t).1.length with h' | h'
   ·omega
   ·rw [List.getElem?_append_right h'] at hi
    exfalso
    cases hd : i - (lexS t).1.length with
    | zero =>
      rw [hd] at hi
      have : x = ⟨0, [], 0, false, t.length⟩ := by simpa using hi.symm
      rw [this] at hk
      exact hk rfl
    | succ d => rw [hd] at hi; simp at hi
  ·simp at h
end Go.Proofs.YtcjjphioeneiiaaGreatDoor
