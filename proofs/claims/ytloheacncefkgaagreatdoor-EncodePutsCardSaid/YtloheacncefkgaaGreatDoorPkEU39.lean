/- Several texts in one: VdA, VdB, VdC. What each proves, and its conditions, stands at its own head. -/
import Derived.Test.YtloheacncefkgaaGreatDoorPkEU32
import Derived.Shelf.Abstract
import Derived.Deep.RegionHeld3
import Derived.Laws.EntriesVeiled
import Derived.Test.YtloheacncefkgaaGreatDoorPkEU29
import Derived.Test.YtloheacncefkgaaGreatDoorPkEU24
import Derived.Test.YtloheacncefkgaaGreatDoorPkEU21
import Derived.Maps.OwnOps
/- slices.IndexFunc, slices.ContainsFunc and valid.all at slots, fields of the Rest and values, by whatever function is handed on, one that writes to blocks of its own too. Conditions: those that each theorem names. -/
namespace Go.Proofs.YtloheacncefkgaaGreatDoor
open Go.RowKit
set_option linter.unusedVariables false
set_option maxRecDepth 100000

theorem touch_more {D : Nat → Prop} {a b c : World} (h : Touch D a b) (k : Touch D b c) : Touch D a c := h.trans k (fun _ h => .inl h)
theorem touch_pure {w w' : World} (h : Touch (fun _ => False) w w') : Below w.heap.size w w' := h.below (Nat.le_refl _) (fun _ h => h.elim)
theorem pure_touch {w w' : World} (h : Below w.heap.size w w') : Touch (fun _ => False) w w' := Touch.of_below _ h

section
variable {S : Nat → Prop} {n : Nat} {A : Option Addr} {cap na : Nat} {l : List Slt}
set_option maxHeartbeats 4000000 in
theorem vix_sl (w : World) (h : Lst 2 S (slR (trR S n) S) w A cap l) (hn : na = l.length) (kf : Nat) (caps : Array Value) (henter : Enters Tryz.prog kf) (D : Nat → Prop) (hD : ∀ k, S k → ¬ D k) (J : Nat → World → Prop) (h0 : J 0 w) (q : Nat → Bool) (ans : Bool)
 (hy : ∀ i, i < na → q i = true → ans = true) (hno : (∀ i, i < na → q i = false) → ans = false)
 (hp : ∀ (i : Nat) x, l[i]? = some x → (∀ j, j < i → q j = false) → ∀ wr A1 c1 , Touch D w wr → J i wr → VsAt S n wr A1 c1 x.svals → Calls Tryz.prog kf (#[.agg #[.int .i64 x.snum, .slice A1 x.svals.length c1]] ++ caps) wr fun e w' => e = .returned (.bool (q i)) ∧ Touch D wr w' ∧ (q i = false → J (i + 1) w')) :
 Calls Tryz.prog 139 #[.slice A na cap, .func (.func kf) #[] caps] w fun e w' => ∃ r : Int, e = .returned (.int .i64 r) ∧ decide (r ≥ 0) = ans ∧ Touch D w w' := by
 have q1 : na ≤ cap := by have := h.l_le; omega
 have q2 := h.l_max
 unfold maxLen at q2
 have hent : ∀ (args : Array Value) (w : World), (callFunc kf args).run Tryz.prog w = .ok (.enter kf args) w := henter
 have HL := Lib.hid h
 have HN := Lib.hid hn
 have HP := Lib.hid hp
 have HD := Lib.hid hD
 have HY := Lib.hid hy
 have HNO := Lib.hid hno
 have H0 := Lib.hid h0
 clear h hn hp henter hD hy hno h0
 go_enter Tryz.func139, Tryz.ntmps139
 go_wp2
 go_loopw [5, 8] (fun u x wr => ∃ i : Nat, x = .int .i64 (i : Int) ∧ i ≤ na ∧ (∀ j, j < i → q j = false) ∧ Touch D w wr ∧ J i wr) (fun u x _ => na - (intOf x).toNat)
 case atStart => exact ⟨0, rfl, Nat.zero_le _, (fun j hj => absurd hj (Nat.not_lt_zero _)), Touch.refl _ _, H0.out⟩
 case round =>
  obtain ⟨i, rfl, hi, hall, ht, hj⟩ := hrel
  have HALL := Lib.hid hall
  have HT0 := Lib.hid ht
  have HJ0 := Lib.hid hj
  clear hall ht hj
  by_cases hlt : i < na
  ·have g1 : decide ((i : Int) < (na : Int)) = true := decide_eq_true (by omega)
   obtain ⟨x, hx⟩ : ∃ x, l[i]? = some x := ⟨_, List.getElem?_eq_getElem (by have := HN.out; omega)⟩
   obtain ⟨ge, oe, A1, c1, rfl, _, hc, hl⟩ := sl_at HL.out hx
   have HCK := Lib.hid (HP.out i x hx HALL.out _ A1 c1 HT0.out HJ0.out (vsAt_keep hl (fun _ h => h) (stay_touch HT0.out HD.out)))
   obtain ⟨nv, hnv⟩ : ∃ nv, nv = x.svals.length := ⟨_, rfl⟩
   obtain ⟨z1, hz1⟩ : ∃ z1, z1 = x.snum := ⟨_, rfl⟩
   rw [← hnv, ← hz1] at hc HCK
   obtain ⟨c0, c1'⟩ := hc _ (stay_touch HT0.out HD.out)
   obtain ⟨b, hbp⟩ : ∃ b, b = q i := ⟨_, rfl⟩
   have HBP := Lib.hid hbp
   rw [← hbp] at HCK
   clear hbp hx hc hl hnv hz1
   cases b with
   | true =>
     have HA := Lib.hid (HY.out i hlt HBP.out.symm)
     go_wp2_with (go_at_fn kf; refine HCK.out.mono ?_; rintro e w2 ⟨rfl, hb, hj⟩; have HB2 := Lib.hid (touch_more HT0.out hb); clear hb hj)
     go_ret
     exact ⟨(i : Int), rfl, (by rw [HA.out]; exact decide_eq_true (by omega)), HB2.out⟩
   | false =>
     go_wp2_with (go_at_fn kf; refine HCK.out.mono ?_; rintro e w2 ⟨rfl, hb, hj⟩; have HB2 := Lib.hid (touch_more HT0.out hb); have HJ2 := Lib.hid (hj rfl); clear hb hj)
     go_roundw
     case rel => exact ⟨i + 1, by go_num, by omega, (fun j hj => by rcases Nat.lt_or_ge j i with h | h; exact HALL.out j h; rw [show j = i by omega]; exact HBP.out.symm), HB2.out, HJ2.out⟩
     case measure => simp [intOf]; omega
  ·have g1 : decide ((i : Int) < (na : Int)) = false := decide_eq_false (by omega)
   have HF := Lib.hid (HNO.out (fun j hj => HALL.out j (by omega)))
   go_wp2
   go_ret
   exact ⟨-1, rfl, (by rw [HF.out]; rfl), HT0.out⟩
theorem vcon_sl (w : World) (h : Lst 2 S (slR (trR S n) S) w A cap l) (hn : na = l.length) (kf : Nat) (caps : Array Value) (henter : Enters Tryz.prog kf) (D : Nat → Prop) (hD : ∀ k, S k → ¬ D k) (J : Nat → World → Prop) (h0 : J 0 w) (q : Nat → Bool) (ans : Bool)
 (hy : ∀ i, i < na → q i = true → ans = true) (hno : (∀ i, i < na → q i = false) → ans = false)
 (hp : ∀ (i : Nat) x, l[i]? = some x → (∀ j, j < i → q j = false) → ∀ wr A1 c1 , Touch D w wr → J i wr → VsAt S n wr A1 c1 x.svals → Calls Tryz.prog kf (#[.agg #[.int .i64 x.snum, .slice A1 x.svals.length c1]] ++ caps) wr fun e w' => e = .returned (.bool (q i)) ∧ Touch D wr w' ∧ (q i = false → J (i + 1) w')) :
 Calls Tryz.prog 109 #[.slice A na cap, .func (.func kf) #[] caps] w fun e w' => e = .returned (.bool ans) ∧ Touch D w w' := by
 have HI := Lib.hid (vix_sl w h hn kf caps henter D hD J h0 q ans hy hno hp)
 clear h hn henter hp h0 hy hno hD
 go_enter Tryz.func109, Tryz.ntmps109
 go_wp2_with (go_at_call 139; refine HI.out.mono ?_; rintro e w2 ⟨r, rfl, hr, hb⟩; have HR := Lib.hid hr; have HB2 := Lib.hid hb; clear hr hb)
 go_ret
 exact ⟨by rw [← HR.out]; rfl, HB2.out⟩
theorem vone_sl (w : World) (p kf : Nat) (caps : Array Value) (henter : Enters Tryz.prog kf) (D : Nat → Prop) (K : World → Prop) (b : Bool) (z1 : Int) (A1 : Option Addr) (nv c1 : Nat) (hp : w.heap[p]? = some (.cells #[.func (.func kf) #[] caps] 102 (0, 0)))
 (hc : ∀ wr, Below w.heap.size w wr → Calls Tryz.prog kf (#[.agg #[.int .i64 z1, .slice A1 nv c1]] ++ caps) wr fun e w' => e = .returned (.bool b) ∧ Touch D wr w' ∧ (b = true → K w')) :
 Calls Tryz.prog 110 #[.agg #[.int .i64 z1, .slice A1 nv c1], .pointer (some ⟨p, 0, none⟩)] w fun e w' => e = .returned (.bool (!b)) ∧ Touch D w w' ∧ (b = true → K w') := by
 have hent : ∀ (args : Array Value) (w : World), (callFunc kf args).run Tryz.prog w = .ok (.enter kf args) w := henter
 have HBX := Lib.hid (bx_start w #[.int .i64 z1, .slice A1 nv c1] 67)
 have r0 := obj_cell HBX.out.b_blk 0
 have r1 := obj_cell HBX.out.b_blk 1
 have r9 : (w.alloc (.cells #[.int .i64 z1, .slice A1 nv c1] 67)).cell? ⟨p, 0, none⟩ = some (.func (.func kf) #[] caps) := obj_cell ((HBX.out.b_bel.block _ (lt_of_block hp)).trans hp) 0
 have HC := Lib.hid (hc _ HBX.out.b_bel)
 clear hc hp henter
 go_enter Tryz.func110, Tryz.ntmps110
 go_wp2_with (go_at_fn kf; refine HC.out.mono ?_; rintro e w2 ⟨rfl, hb, hj⟩; have HB2 := Lib.hid ((Touch.of_below D HBX.out.b_bel).trans hb (fun _ h => .inl h)); have HJ2 := Lib.hid hj; clear hb hj)
 go_ret
 exact ⟨rfl, HB2.out, HJ2.out⟩
theorem vall_sl (w : World) (h : Lst 2 S (slR (trR S n) S) w A cap l) (hn : na = l.length) (kf : Nat) (caps : Array Value) (henter : Enters Tryz.prog kf) (D : Nat → Prop) (hD : ∀ k, S k → ¬ D k) (hDw : ∀ k, D k → k < w.heap.size) (J : Nat → World → Prop) (hJ : ∀ i W W', J i W → Below W.heap.size W W' → J i W') (h0 : J 0 w) (g : Nat → Bool) (ans : Bool)
 (hno : ∀ i, i < na → g i = false → ans = false) (hy : (∀ i, i < na → g i = true) → ans = true)
 (hp : ∀ (i : Nat) x, l[i]? = some x → (∀ j, j < i → g j = true) → ∀ wr A1 c1 , Touch D w wr → J i wr → VsAt S n wr A1 c1 x.svals → Calls Tryz.prog kf (#[.agg #[.int .i64 x.snum, .slice A1 x.svals.length c1]] ++ caps) wr fun e w' => e = .returned (.bool (g i)) ∧ Touch D wr w' ∧ (g i = true → J (i + 1) w')) :
 Calls Tryz.prog 66 #[.slice A na cap, .func (.func kf) #[] caps] w fun e w' => e = .returned (.bool ans) ∧ Touch D w w' := by
 have hb : Below w.heap.size w (w.alloc (.cells #[.func (.func kf) #[] caps] 102)) := (Below.refl _ w).alloc (Nat.le_refl _) _
 have hbx := heap_alloc_new w (.cells #[.func (.func kf) #[] caps] 102)
 obtain ⟨w2, hw2⟩ : ∃ w2, w2 = w.alloc (.cells #[.func (.func kf) #[] caps] 102) := ⟨_, rfl⟩
 rw [← hw2] at hb hbx
 have HI := Lib.hid (vcon_sl w2 (lst_keep h (slR_keep (trR_keep (fun _ h => h) (stay_bel hb) n) (fun _ h => h) (stay_bel hb)) (fun _ h => h) (stay_bel hb)) hn 110 #[.pointer (some ⟨w.heap.size, 0, none⟩)] (fun _ _ => rfl) D hD J (hJ _ _ _ h0 hb) (fun i => !g i) (!ans)
  (fun i hi hg => by rw [hno i hi (by simpa using hg)]; rfl) (fun hg => by rw [hy (fun i hi => by simpa using hg i hi)]; rfl)
  (fun i x hx hall wr A1 c1  ht hj hv => by
   have ht0 : Touch D w wr := (Touch.of_below D hb).trans ht (fun _ h => .inl h)
   refine (vone_sl wr w.heap.size kf caps henter D (fun w' => J (i + 1) w') (g i) x.snum A1 x.svals.length c1 ((ht.block _ (lt_of_block hbx) (fun hd => absurd (hDw _ hd) (Nat.lt_irrefl _))).trans hbx) (fun wq hq => hp i x hx (fun j hj2 => by simpa using hall j hj2) wq A1 c1  (ht0.then_below hq) (hJ _ _ _ hj hq) (vsAt_bel hv hq))).mono ?_
   rintro e w' ⟨he, h1, h2⟩
   exact ⟨he, h1, fun hg => h2 (by simpa using hg)⟩))
 have HW := Lib.hid hw2
 have HB := Lib.hid hb
 clear h hn henter hD hDw h0 hno hy hp hJ hb hbx
 go_enter Tryz.func66, Tryz.ntmps66
 go_wp2_with (go_at_call 109; (with_reducible rw [← HW.out]); refine HI.out.mono ?_; rintro e w3 ⟨rfl, hb⟩; have HB2 := Lib.hid ((Touch.of_below D HB.out).trans hb (fun _ h => .inl h)); clear hb)
 go_ret
 exact ⟨rfl, HB2.out⟩
end

section
variable {S : Nat → Prop} {n : Nat} {A : Option Addr} {cap na : Nat} {l : List Rw}
set_option maxHeartbeats 4000000 in
theorem vix_rw (w : World) (h : Lst 4 S rwR w A cap l) (hn : na = l.length) (kf : Nat) (caps : Array Value) (henter : Enters Tryz.prog kf) (D : Nat → Prop) (hD : ∀ k, S k → ¬ D k) (J : Nat → World → Prop) (h0 : J 0 w) (q : Nat → Bool) (ans : Bool)
 (hy : ∀ i, i < na → q i = true → ans = true) (hno : (∀ i, i < na → q i = false) → ans = false)
 (hp : ∀ (i : Nat) x, l[i]? = some x → (∀ j, j < i → q j = false) → ∀ wr , Touch D w wr → J i wr → Calls Tryz.prog kf (#[rawV x] ++ caps) wr fun e w' => e = .returned (.bool (q i)) ∧ Touch D wr w' ∧ (q i = false → J (i + 1) w')) :
 Calls Tryz.prog 140 #[.slice A na cap, .func (.func kf) #[] caps] w fun e w' => ∃ r : Int, e = .returned (.int .i64 r) ∧ decide (r ≥ 0) = ans ∧ Touch D w w' := by
 have q1 : na ≤ cap := by have := h.l_le; omega
 have q2 := h.l_max
 unfold maxLen at q2
 have hent : ∀ (args : Array Value) (w : World), (callFunc kf args).run Tryz.prog w = .ok (.enter kf args) w := henter
 have HL := Lib.hid h
 have HN := Lib.hid hn
 have HP := Lib.hid hp
 have HD := Lib.hid hD
 have HY := Lib.hid hy
 have HNO := Lib.hid hno
 have H0 := Lib.hid h0
 clear h hn hp henter hD hy hno h0
 go_enter Tryz.func140, Tryz.ntmps140
 go_wp2
 go_loopw [5, 8] (fun u x wr => ∃ i : Nat, x = .int .i64 (i : Int) ∧ i ≤ na ∧ (∀ j, j < i → q j = false) ∧ Touch D w wr ∧ J i wr) (fun u x _ => na - (intOf x).toNat)
 case atStart => exact ⟨0, rfl, Nat.zero_le _, (fun j hj => absurd hj (Nat.not_lt_zero _)), Touch.refl _ _, H0.out⟩
 case round =>
  obtain ⟨i, rfl, hi, hall, ht, hj⟩ := hrel
  have HALL := Lib.hid hall
  have HT0 := Lib.hid ht
  have HJ0 := Lib.hid hj
  clear hall ht hj
  by_cases hlt : i < na
  ·have g1 : decide ((i : Int) < (na : Int)) = true := decide_eq_true (by omega)
   obtain ⟨x, hx⟩ : ∃ x, l[i]? = some x := ⟨_, List.getElem?_eq_getElem (by have := HN.out; omega)⟩
   obtain ⟨ge, oe, rfl, _, hc⟩ := rw_at HL.out hx
   have HCK := Lib.hid (HP.out i x hx HALL.out _ HT0.out HJ0.out)
   unfold rawV at HCK
   obtain ⟨z0, hz0⟩ : ∃ z0, z0 = x.num := ⟨_, rfl⟩
   obtain ⟨z1, hz1⟩ : ∃ z1, z1 = x.wire := ⟨_, rfl⟩
   obtain ⟨z2, hz2⟩ : ∃ z2 : Int, z2 = (x.n : Int) := ⟨_, rfl⟩
   obtain ⟨z3, hz3⟩ : ∃ z3, z3 = strOf x.s := ⟨_, rfl⟩
   rw [← hz0, ← hz1, ← hz2, ← hz3] at hc HCK
   obtain ⟨c0, c1', c2, c3⟩ := hc _ (stay_touch HT0.out HD.out)
   obtain ⟨b, hbp⟩ : ∃ b, b = q i := ⟨_, rfl⟩
   have HBP := Lib.hid hbp
   rw [← hbp] at HCK
   clear hbp hx hc hz0 hz1 hz2 hz3
   cases b with
   | true =>
     have HA := Lib.hid (HY.out i hlt HBP.out.symm)
     go_wp2_with (go_at_fn kf; refine HCK.out.mono ?_; rintro e w2 ⟨rfl, hb, hj⟩; have HB2 := Lib.hid (touch_more HT0.out hb); clear hb hj)
     go_ret
     exact ⟨(i : Int), rfl, (by rw [HA.out]; exact decide_eq_true (by omega)), HB2.out⟩
   | false =>
     go_wp2_with (go_at_fn kf; refine HCK.out.mono ?_; rintro e w2 ⟨rfl, hb, hj⟩; have HB2 := Lib.hid (touch_more HT0.out hb); have HJ2 := Lib.hid (hj rfl); clear hb hj)
     go_roundw
     case rel => exact ⟨i + 1, by go_num, by omega, (fun j hj => by rcases Nat.lt_or_ge j i with h | h; exact HALL.out j h; rw [show j = i by omega]; exact HBP.out.symm), HB2.out, HJ2.out⟩
     case measure => simp [intOf]; omega
  ·have g1 : decide ((i : Int) < (na : Int)) = false := decide_eq_false (by omega)
   have HF := Lib.hid (HNO.out (fun j hj => HALL.out j (by omega)))
   go_wp2
   go_ret
   exact ⟨-1, rfl, (by rw [HF.out]; rfl), HT0.out⟩
theorem vcon_rw (w : World) (h : Lst 4 S rwR w A cap l) (hn : na = l.length) (kf : Nat) (caps : Array Value) (henter : Enters Tryz.prog kf) (D : Nat → Prop) (hD : ∀ k, S k → ¬ D k) (J : Nat → World → Prop) (h0 : J 0 w) (q : Nat → Bool) (ans : Bool)
 (hy : ∀ i, i < na → q i = true → ans = true) (hno : (∀ i, i < na → q i = false) → ans = false)
 (hp : ∀ (i : Nat) x, l[i]? = some x → (∀ j, j < i → q j = false) → ∀ wr , Touch D w wr → J i wr → Calls Tryz.prog kf (#[rawV x] ++ caps) wr fun e w' => e = .returned (.bool (q i)) ∧ Touch D wr w' ∧ (q i = false → J (i + 1) w')) :
 Calls Tryz.prog 111 #[.slice A na cap, .func (.func kf) #[] caps] w fun e w' => e = .returned (.bool ans) ∧ Touch D w w' := by
 have HI := Lib.hid (vix_rw w h hn kf caps henter D hD J h0 q ans hy hno hp)
 clear h hn henter hp h0 hy hno hD
 go_enter Tryz.func111, Tryz.ntmps111
 go_wp2_with (go_at_call 140; refine HI.out.mono ?_; rintro e w2 ⟨r, rfl, hr, hb⟩; have HR := Lib.hid hr; have HB2 := Lib.hid hb; clear hr hb)
 go_ret
 exact ⟨by rw [← HR.out]; rfl, HB2.out⟩
theorem vone_rw (w : World) (p kf : Nat) (caps : Array Value) (henter : Enters Tryz.prog kf) (D : Nat → Prop) (K : World → Prop) (b : Bool) (z0 z1 z2 : Int) (z3 : ByteArray) (hp : w.heap[p]? = some (.cells #[.func (.func kf) #[] caps] 103 (0, 0)))
 (hc : ∀ wr, Below w.heap.size w wr → Calls Tryz.prog kf (#[.agg #[.int .i64 z0, .int .i64 z1, .int .u64 z2, .string z3]] ++ caps) wr fun e w' => e = .returned (.bool b) ∧ Touch D wr w' ∧ (b = true → K w')) :
 Calls Tryz.prog 112 #[.agg #[.int .i64 z0, .int .i64 z1, .int .u64 z2, .string z3], .pointer (some ⟨p, 0, none⟩)] w fun e w' => e = .returned (.bool (!b)) ∧ Touch D w w' ∧ (b = true → K w') := by
 have hent : ∀ (args : Array Value) (w : World), (callFunc kf args).run Tryz.prog w = .ok (.enter kf args) w := henter
 have HBX := Lib.hid (bx_start w #[.int .i64 z0, .int .i64 z1, .int .u64 z2, .string z3] 93)
 have r0 := obj_cell HBX.out.b_blk 0
 have r1 := obj_cell HBX.out.b_blk 1
 have r2 := obj_cell HBX.out.b_blk 2
 have r3 := obj_cell HBX.out.b_blk 3
 have r9 : (w.alloc (.cells #[.int .i64 z0, .int .i64 z1, .int .u64 z2, .string z3] 93)).cell? ⟨p, 0, none⟩ = some (.func (.func kf) #[] caps) := obj_cell ((HBX.out.b_bel.block _ (lt_of_block hp)).trans hp) 0
 have HC := Lib.hid (hc _ HBX.out.b_bel)
 clear hc hp henter
 go_enter Tryz.func112, Tryz.ntmps112
 go_wp2_with (go_at_fn kf; refine HC.out.mono ?_; rintro e w2 ⟨rfl, hb, hj⟩; have HB2 := Lib.hid ((Touch.of_below D HBX.out.b_bel).trans hb (fun _ h => .inl h)); have HJ2 := Lib.hid hj; clear hb hj)
 go_ret
 exact ⟨rfl, HB2.out, HJ2.out⟩
theorem vall_rw (w : World) (h : Lst 4 S rwR w A cap l) (hn : na = l.length) (kf : Nat) (caps : Array Value) (henter : Enters Tryz.prog kf) (D : Nat → Prop) (hD : ∀ k, S k → ¬ D k) (hDw : ∀ k, D k → k < w.heap.size) (J : Nat → World → Prop) (hJ : ∀ i W W', J i W → Below W.heap.size W W' → J i W') (h0 : J 0 w) (g : Nat → Bool) (ans : Bool)
 (hno : ∀ i, i < na → g i = false → ans = false) (hy : (∀ i, i < na → g i = true) → ans = true)
 (hp : ∀ (i : Nat) x, l[i]? = some x → (∀ j, j < i → g j = true) → ∀ wr , Touch D w wr → J i wr → Calls Tryz.prog kf (#[rawV x] ++ caps) wr fun e w' => e = .returned (.bool (g i)) ∧ Touch D wr w' ∧ (g i = true → J (i + 1) w')) :
 Calls Tryz.prog 67 #[.slice A na cap, .func (.func kf) #[] caps] w fun e w' => e = .returned (.bool ans) ∧ Touch D w w' := by
 have hb : Below w.heap.size w (w.alloc (.cells #[.func (.func kf) #[] caps] 103)) := (Below.refl _ w).alloc (Nat.le_refl _) _
 have hbx := heap_alloc_new w (.cells #[.func (.func kf) #[] caps] 103)
 obtain ⟨w2, hw2⟩ : ∃ w2, w2 = w.alloc (.cells #[.func (.func kf) #[] caps] 103) := ⟨_, rfl⟩
 rw [← hw2] at hb hbx
 have HI := Lib.hid (vcon_rw w2 (lst_keep (w' := w2) h (fun _ _ h => h) (fun _ h => h) (stay_bel hb)) hn 112 #[.pointer (some ⟨w.heap.size, 0, none⟩)] (fun _ _ => rfl) D hD J (hJ _ _ _ h0 hb) (fun i => !g i) (!ans)
  (fun i hi hg => by rw [hno i hi (by simpa using hg)]; rfl) (fun hg => by rw [hy (fun i hi => by simpa using hg i hi)]; rfl)
  (fun i x hx hall wr  ht hj => by
   have ht0 : Touch D w wr := (Touch.of_below D hb).trans ht (fun _ h => .inl h)
   refine (vone_rw wr w.heap.size kf caps henter D (fun w' => J (i + 1) w') (g i) x.num x.wire (x.n : Int) (strOf x.s) ((ht.block _ (lt_of_block hbx) (fun hd => absurd (hDw _ hd) (Nat.lt_irrefl _))).trans hbx) (fun wq hq => hp i x hx (fun j hj2 => by simpa using hall j hj2) wq  (ht0.then_below hq) (hJ _ _ _ hj hq))).mono ?_
   rintro e w' ⟨he, h1, h2⟩
   exact ⟨he, h1, fun hg => h2 (by simpa using hg)⟩))
 have HW := Lib.hid hw2
 have HB := Lib.hid hb
 clear h hn henter hD hDw h0 hno hy hp hJ hb hbx
 go_enter Tryz.func67, Tryz.ntmps67
 go_wp2_with (go_at_call 111; (with_reducible rw [← HW.out]); refine HI.out.mono ?_; rintro e w3 ⟨rfl, hb⟩; have HB2 := Lib.hid ((Touch.of_below D HB.out).trans hb (fun _ h => .inl h)); clear hb)
 go_ret
 exact ⟨rfl, HB2.out⟩
end

section
variable {S : Nat → Prop} {n : Nat} {A : Option Addr} {cap na : Nat} {l : List Va}
set_option maxHeartbeats 4000000 in
theorem vix_va (w : World) (h : VsAt S n w A cap l) (hn : na = l.length) (kf : Nat) (caps : Array Value) (henter : Enters Tryz.prog kf) (D : Nat → Prop) (hD : ∀ k, S k → ¬ D k) (J : Nat → World → Prop) (h0 : J 0 w) (q : Nat → Bool) (ans : Bool)
 (hy : ∀ i, i < na → q i = true → ans = true) (hno : (∀ i, i < na → q i = false) → ans = false)
 (hp : ∀ (i : Nat) x, l[i]? = some x → (∀ j, j < i → q j = false) → ∀ wr A1 c1 , Touch D w wr → J i wr → KsAt S n wr A1 c1 x.vm → Calls Tryz.prog kf (#[.agg #[.int .u64 (x.vn : Int), .string (strOf x.vs), .slice A1 x.vm.length c1]] ++ caps) wr fun e w' => e = .returned (.bool (q i)) ∧ Touch D wr w' ∧ (q i = false → J (i + 1) w')) :
 Calls Tryz.prog 154 #[.slice A na cap, .func (.func kf) #[] caps] w fun e w' => ∃ r : Int, e = .returned (.int .i64 r) ∧ decide (r ≥ 0) = ans ∧ Touch D w w' := by
 have q1 : na ≤ cap := by have := h.l_le; omega
 have q2 := h.l_max
 unfold maxLen at q2
 have hent : ∀ (args : Array Value) (w : World), (callFunc kf args).run Tryz.prog w = .ok (.enter kf args) w := henter
 have HL := Lib.hid h
 have HN := Lib.hid hn
 have HP := Lib.hid hp
 have HD := Lib.hid hD
 have HY := Lib.hid hy
 have HNO := Lib.hid hno
 have H0 := Lib.hid h0
 clear h hn hp henter hD hy hno h0
 go_enter Tryz.func154, Tryz.ntmps154
 go_wp2
 go_loopw [5, 8] (fun u x wr => ∃ i : Nat, x = .int .i64 (i : Int) ∧ i ≤ na ∧ (∀ j, j < i → q j = false) ∧ Touch D w wr ∧ J i wr) (fun u x _ => na - (intOf x).toNat)
 case atStart => exact ⟨0, rfl, Nat.zero_le _, (fun j hj => absurd hj (Nat.not_lt_zero _)), Touch.refl _ _, H0.out⟩
 case round =>
  obtain ⟨i, rfl, hi, hall, ht, hj⟩ := hrel
  have HALL := Lib.hid hall
  have HT0 := Lib.hid ht
  have HJ0 := Lib.hid hj
  clear hall ht hj
  by_cases hlt : i < na
  ·have g1 : decide ((i : Int) < (na : Int)) = true := decide_eq_true (by omega)
   obtain ⟨x, hx⟩ : ∃ x, l[i]? = some x := ⟨_, List.getElem?_eq_getElem (by have := HN.out; omega)⟩
   obtain ⟨ge, oe, A1, c1, rfl, _, hc, hl⟩ := va_at HL.out hx
   have HCK := Lib.hid (HP.out i x hx HALL.out _ A1 c1 HT0.out HJ0.out (ksAt_keep hl (fun _ h => h) (stay_touch HT0.out HD.out)))
   obtain ⟨nv, hnv⟩ : ∃ nv, nv = x.vm.length := ⟨_, rfl⟩
   obtain ⟨z1, hz1⟩ : ∃ z1 : Int, z1 = (x.vn : Int) := ⟨_, rfl⟩
   obtain ⟨z2, hz2⟩ : ∃ z2, z2 = strOf x.vs := ⟨_, rfl⟩
   rw [← hnv, ← hz1, ← hz2] at hc HCK
   obtain ⟨c0, c1', c2⟩ := hc _ (stay_touch HT0.out HD.out)
   obtain ⟨b, hbp⟩ : ∃ b, b = q i := ⟨_, rfl⟩
   have HBP := Lib.hid hbp
   rw [← hbp] at HCK
   clear hbp hx hc hl hnv hz1 hz2
   cases b with
   | true =>
     have HA := Lib.hid (HY.out i hlt HBP.out.symm)
     go_wp2_with (go_at_fn kf; refine HCK.out.mono ?_; rintro e w2 ⟨rfl, hb, hj⟩; have HB2 := Lib.hid (touch_more HT0.out hb); clear hb hj)
     go_ret
     exact ⟨(i : Int), rfl, (by rw [HA.out]; exact decide_eq_true (by omega)), HB2.out⟩
   | false =>
     go_wp2_with (go_at_fn kf; refine HCK.out.mono ?_; rintro e w2 ⟨rfl, hb, hj⟩; have HB2 := Lib.hid (touch_more HT0.out hb); have HJ2 := Lib.hid (hj rfl); clear hb hj)
     go_roundw
     case rel => exact ⟨i + 1, by go_num, by omega, (fun j hj => by rcases Nat.lt_or_ge j i with h | h; exact HALL.out j h; rw [show j = i by omega]; exact HBP.out.symm), HB2.out, HJ2.out⟩
     case measure => simp [intOf]; omega
  ·have g1 : decide ((i : Int) < (na : Int)) = false := decide_eq_false (by omega)
   have HF := Lib.hid (HNO.out (fun j hj => HALL.out j (by omega)))
   go_wp2
   go_ret
   exact ⟨-1, rfl, (by rw [HF.out]; rfl), HT0.out⟩
theorem vcon_va (w : World) (h : VsAt S n w A cap l) (hn : na = l.length) (kf : Nat) (caps : Array Value) (henter : Enters Tryz.prog kf) (D : Nat → Prop) (hD : ∀ k, S k → ¬ D k) (J : Nat → World → Prop) (h0 : J 0 w) (q : Nat → Bool) (ans : Bool)
 (hy : ∀ i, i < na → q i = true → ans = true) (hno : (∀ i, i < na → q i = false) → ans = false)
 (hp : ∀ (i : Nat) x, l[i]? = some x → (∀ j, j < i → q j = false) → ∀ wr A1 c1 , Touch D w wr → J i wr → KsAt S n wr A1 c1 x.vm → Calls Tryz.prog kf (#[.agg #[.int .u64 (x.vn : Int), .string (strOf x.vs), .slice A1 x.vm.length c1]] ++ caps) wr fun e w' => e = .returned (.bool (q i)) ∧ Touch D wr w' ∧ (q i = false → J (i + 1) w')) :
 Calls Tryz.prog 135 #[.slice A na cap, .func (.func kf) #[] caps] w fun e w' => e = .returned (.bool ans) ∧ Touch D w w' := by
 have HI := Lib.hid (vix_va w h hn kf caps henter D hD J h0 q ans hy hno hp)
 clear h hn henter hp h0 hy hno hD
 go_enter Tryz.func135, Tryz.ntmps135
 go_wp2_with (go_at_call 154; refine HI.out.mono ?_; rintro e w2 ⟨r, rfl, hr, hb⟩; have HR := Lib.hid hr; have HB2 := Lib.hid hb; clear hr hb)
 go_ret
 exact ⟨by rw [← HR.out]; rfl, HB2.out⟩
theorem vone_va (w : World) (p kf : Nat) (caps : Array Value) (henter : Enters Tryz.prog kf) (D : Nat → Prop) (K : World → Prop) (b : Bool) (z1 : Int) (z2 : ByteArray) (A1 : Option Addr) (nv c1 : Nat) (hp : w.heap[p]? = some (.cells #[.func (.func kf) #[] caps] 138 (0, 0)))
 (hc : ∀ wr, Below w.heap.size w wr → Calls Tryz.prog kf (#[.agg #[.int .u64 z1, .string z2, .slice A1 nv c1]] ++ caps) wr fun e w' => e = .returned (.bool b) ∧ Touch D wr w' ∧ (b = true → K w')) :
 Calls Tryz.prog 136 #[.agg #[.int .u64 z1, .string z2, .slice A1 nv c1], .pointer (some ⟨p, 0, none⟩)] w fun e w' => e = .returned (.bool (!b)) ∧ Touch D w w' ∧ (b = true → K w') := by
 have hent : ∀ (args : Array Value) (w : World), (callFunc kf args).run Tryz.prog w = .ok (.enter kf args) w := henter
 have HBX := Lib.hid (bx_start w #[.int .u64 z1, .string z2, .slice A1 nv c1] 64)
 have r0 := obj_cell HBX.out.b_blk 0
 have r1 := obj_cell HBX.out.b_blk 1
 have r2 := obj_cell HBX.out.b_blk 2
 have r9 : (w.alloc (.cells #[.int .u64 z1, .string z2, .slice A1 nv c1] 64)).cell? ⟨p, 0, none⟩ = some (.func (.func kf) #[] caps) := obj_cell ((HBX.out.b_bel.block _ (lt_of_block hp)).trans hp) 0
 have HC := Lib.hid (hc _ HBX.out.b_bel)
 clear hc hp henter
 go_enter Tryz.func136, Tryz.ntmps136
 go_wp2_with (go_at_fn kf; refine HC.out.mono ?_; rintro e w2 ⟨rfl, hb, hj⟩; have HB2 := Lib.hid ((Touch.of_below D HBX.out.b_bel).trans hb (fun _ h => .inl h)); have HJ2 := Lib.hid hj; clear hb hj)
 go_ret
 exact ⟨rfl, HB2.out, HJ2.out⟩
theorem vall_va (w : World) (h : VsAt S n w A cap l) (hn : na = l.length) (kf : Nat) (caps : Array Value) (henter : Enters Tryz.prog kf) (D : Nat → Prop) (hD : ∀ k, S k → ¬ D k) (hDw : ∀ k, D k → k < w.heap.size) (J : Nat → World → Prop) (hJ : ∀ i W W', J i W → Below W.heap.size W W' → J i W') (h0 : J 0 w) (g : Nat → Bool) (ans : Bool)
 (hno : ∀ i, i < na → g i = false → ans = false) (hy : (∀ i, i < na → g i = true) → ans = true)
 (hp : ∀ (i : Nat) x, l[i]? = some x → (∀ j, j < i → g j = true) → ∀ wr A1 c1 , Touch D w wr → J i wr → KsAt S n wr A1 c1 x.vm → Calls Tryz.prog kf (#[.agg #[.int .u64 (x.vn : Int), .string (strOf x.vs), .slice A1 x.vm.length c1]] ++ caps) wr fun e w' => e = .returned (.bool (g i)) ∧ Touch D wr w' ∧ (g i = true → J (i + 1) w')) :
 Calls Tryz.prog 107 #[.slice A na cap, .func (.func kf) #[] caps] w fun e w' => e = .returned (.bool ans) ∧ Touch D w w' := by
 have hb : Below w.heap.size w (w.alloc (.cells #[.func (.func kf) #[] caps] 138)) := (Below.refl _ w).alloc (Nat.le_refl _) _
 have hbx := heap_alloc_new w (.cells #[.func (.func kf) #[] caps] 138)
 obtain ⟨w2, hw2⟩ : ∃ w2, w2 = w.alloc (.cells #[.func (.func kf) #[] caps] 138) := ⟨_, rfl⟩
 rw [← hw2] at hb hbx
 have HI := Lib.hid (vcon_va w2 (vsAt_bel h hb) hn 136 #[.pointer (some ⟨w.heap.size, 0, none⟩)] (fun _ _ => rfl) D hD J (hJ _ _ _ h0 hb) (fun i => !g i) (!ans)
  (fun i hi hg => by rw [hno i hi (by simpa using hg)]; rfl) (fun hg => by rw [hy (fun i hi => by simpa using hg i hi)]; rfl)
  (fun i x hx hall wr A1 c1  ht hj hv => by
   have ht0 : Touch D w wr := (Touch.of_below D hb).trans ht (fun _ h => .inl h)
   refine (vone_va wr w.heap.size kf caps henter D (fun w' => J (i + 1) w') (g i) (x.vn : Int) (strOf x.vs) A1 x.vm.length c1 ((ht.block _ (lt_of_block hbx) (fun hd => absurd (hDw _ hd) (Nat.lt_irrefl _))).trans hbx) (fun wq hq => hp i x hx (fun j hj2 => by simpa using hall j hj2) wq A1 c1  (ht0.then_below hq) (hJ _ _ _ hj hq) (ksAt_bel hv hq))).mono ?_
   rintro e w' ⟨he, h1, h2⟩
   exact ⟨he, h1, fun hg => h2 (by simpa using hg)⟩))
 have HW := Lib.hid hw2
 have HB := Lib.hid hb
 clear h hn henter hD hDw h0 hno hy hp hJ hb hbx
 go_enter Tryz.func107, Tryz.ntmps107
 go_wp2_with (go_at_call 135; (with_reducible rw [← HW.out]); refine HI.out.mono ?_; rintro e w3 ⟨rfl, hb⟩; have HB2 := Lib.hid ((Touch.of_below D HB.out).trans hb (fun _ h => .inl h)); clear hb)
 go_ret
 exact ⟨rfl, HB2.out⟩
end
end Go.Proofs.YtloheacncefkgaaGreatDoor

/- The program's layer 20: its message, knows, Knows, zero, rise. Conditions: those that each theorem names. -/
namespace Go.Proofs.YtloheacncefkgaaGreatDoor
open Go.RowKit
set_option linter.unusedVariables false
set_option maxRecDepth 100000

def zMsg : Array Value := #[.string ⟨#[]⟩, .slice none 0 0, .slice none 0 0]
set_option maxHeartbeats 4000000 in
theorem pvmsg_none {S : Nat → Nat → Prop} (w : World) {A A2 : Option Addr} {n cap n2 cap2 : Nat} {s : Sc} (h : ScAt S w A n cap A2 n2 cap2 s) (t : List UInt8) (hm : messageT s t = -1) :
 Calls Tryz.prog 57 #[.agg #[.slice A n cap, .slice A2 n2 cap2], .string (strOf t)] w fun e w' => e = .returned (.tuple #[.agg zMsg, .bool false]) ∧ Below w.heap.size w w' := by
 obtain ⟨w2, hw2⟩ : ∃ w2, w2 = (w.alloc (.cells #[.slice A n cap, .slice A2 n2 cap2] 25)).alloc (.cells zMsg 57) := ⟨_, rfl⟩
 obtain ⟨k1, k2, hb⟩ := box_two w (.cells #[.slice A n cap, .slice A2 n2 cap2] 25) (.cells zMsg 57)
 rw [heap_alloc_new] at k1 k2
 rw [← hw2] at k1 k2 hb
 have HI := Lib.hid (fxmessage_any w2 (scAt_bel h hb) t)
 rw [hm] at HI
 have HRS : Hid (Tryz.f57.results = #[.cell 4 57, .tmp 5]) := Lib.hid (by kernel_rfl)
 have r0 := obj_cell k1 0
 have r1 := obj_cell k1 1
 have HB := Lib.hid hb
 have HW2 := Lib.hid hw2
 have HK2 := Lib.hid k2
 unfold zMsg at *
 rw [hw2] at r0 r1
 obtain ⟨st, hst⟩ : ∃ st, st = strOf t := ⟨_, rfl⟩
 rw [← hst] at HI ⊢
 clear h k1 k2 hb hw2 hst hm
 go_enter Tryz.func57, Tryz.ntmps57
 go_wp2_with (go_at_call 27; (with_reducible rw [← HW2.out]); refine HI.out.mono ?_; rintro e w3 ⟨rfl, hb⟩; have hbx := (hb.block _ (lt_of_block HK2.out)).trans HK2.out; have q0 := obj_free hbx 0; have q1 := obj_free hbx 1; have q2 := obj_free hbx 2; have d0 := obj_cell hbx 0; have d1 := obj_cell hbx 1; have d2 := obj_cell hbx 2; have HB3 := Lib.hid (HB.out.trans (hb.mono HB.out.size)); clear hb hbx)
 refine bodyPost_ret (v := .tuple #[.agg #[.string ⟨#[]⟩, .slice none 0 0, .slice none 0 0], .bool false]) ?_ rfl ⟨rfl, ((HB3.out.setCell (Nat.le_succ _) _).setCell (Nat.le_succ _) _).setCell (Nat.le_succ _) _⟩
 simp only [results, HRS.out]
 go_simp
set_option maxHeartbeats 4000000 in
theorem pvmsg_some {S : Nat → Nat → Prop} (w : World) {A : Option Addr} {n cap n2 cap2 ge oe i : Nat} {s : Sc} (h : ScAt S w A n cap (some ⟨ge, oe, none⟩) n2 cap2 s) (t : List UInt8) (hm : messageT s t = (i : Int)) (hi : i < n2) {sn : ByteArray} {A1 A3 : Option Addr} {nf c1 nb c3 : Nat}
 (hc : ∀ wr, Below w.heap.size w wr → wr.cell? ⟨ge, oe + i * 3, none⟩ = some (.string sn) ∧ wr.cell? ⟨ge, oe + i * 3 + 1, none⟩ = some (.slice A1 nf c1) ∧ wr.cell? ⟨ge, oe + i * 3 + 2, none⟩ = some (.slice A3 nb c3)) :
 Calls Tryz.prog 57 #[.agg #[.slice A n cap, .slice (some ⟨ge, oe, none⟩) n2 cap2], .string (strOf t)] w fun e w' => e = .returned (.tuple #[.agg #[.string sn, .slice A1 nf c1, .slice A3 nb c3], .bool true]) ∧ Below w.heap.size w w' := by
 obtain ⟨m1, m2, m3, m4⟩ := scAt_max h
 obtain ⟨w2, hw2⟩ : ∃ w2, w2 = (w.alloc (.cells #[.slice A n cap, .slice (some ⟨ge, oe, none⟩) n2 cap2] 25)).alloc (.cells zMsg 57) := ⟨_, rfl⟩
 obtain ⟨k1, k2, hb⟩ := box_two w (.cells #[.slice A n cap, .slice (some ⟨ge, oe, none⟩) n2 cap2] 25) (.cells zMsg 57)
 rw [heap_alloc_new] at k1 k2
 rw [← hw2] at k1 k2 hb
 have HI := Lib.hid (fxmessage_any w2 (scAt_bel h hb) t)
 rw [hm] at HI
 have HRS : Hid (Tryz.f57.results = #[.cell 4 57, .tmp 5]) := Lib.hid (by kernel_rfl)
 have r0 := obj_cell k1 0
 have r1 := obj_cell k1 1
 have HB := Lib.hid hb
 have HW2 := Lib.hid hw2
 have HK2 := Lib.hid k2
 have HK1 := Lib.hid k1
 have HC := Lib.hid hc
 have g1 : decide ((i : Int) < 0) = false := decide_eq_false (by omega)
 have g2 : decide ((i : Int) < (n2 : Int)) = true := decide_eq_true (by omega)
 unfold zMsg at *
 rw [hw2] at r0 r1
 obtain ⟨st, hst⟩ : ∃ st, st = strOf t := ⟨_, rfl⟩
 rw [← hst] at HI ⊢
 clear h k1 k2 hb hw2 hst hm hc
 go_enter Tryz.func57, Tryz.ntmps57
 go_wp2_with (go_at_call 27; (with_reducible rw [← HW2.out]); refine HI.out.mono ?_; rintro e w3 ⟨rfl, hb⟩; have hbx := (hb.block _ (lt_of_block HK2.out)).trans HK2.out; have hby := (hb.block _ (lt_of_block HK1.out)).trans HK1.out; have q0 := obj_free hbx 0; have q1 := obj_free hbx 1; have q2 := obj_free hbx 2; have d0 := obj_cell hbx 0; have d1 := obj_cell hbx 1; have d2 := obj_cell hbx 2; have e0 := obj_cell hby 0; have e1 := obj_cell hby 1; have HB3 := Lib.hid (HB.out.trans (hb.mono HB.out.size)); obtain ⟨c0, c1', c2⟩ := HC.out _ HB3.out; clear hb hbx hby)
 refine bodyPost_ret (v := .tuple #[.agg #[.string sn, .slice A1 nf c1, .slice A3 nb c3], .bool true]) ?_ rfl ⟨rfl, ((HB3.out.setCell (Nat.le_succ _) _).setCell (Nat.le_succ _) _).setCell (Nat.le_succ _) _⟩
 simp only [results, HRS.out]
 go_simp
theorem pvknow_any {S T : Nat → Prop} (w : World) {A1 A2 : Option Addr} {nf ca nb cb : Nat} {x : Ms} (sn : ByteArray) (hl : Lst 7 S fdR w A1 ca x.fields) (hl2 : Lst 1 T inR w A2 cb x.barred) (hnf : nf = x.fields.length) (hnb : nb = x.barred.length) (t : Int) :
 Calls Tryz.prog 64 #[.agg #[.string sn, .slice A1 nf ca, .slice A2 nb cb], .int .i64 t] w fun e w' => e = .returned (.bool (decide (0 ≤ numAtT x t))) ∧ Below w.heap.size w w' := by
 have HBX := Lib.hid (bx_start w #[.string sn, .slice A1 nf ca, .slice A2 nb cb] 57)
 have r0 := obj_cell HBX.out.b_blk 0
 have r1 := obj_cell HBX.out.b_blk 1
 have r2 := obj_cell HBX.out.b_blk 2
 have HI := Lib.hid (fxnumber_any _ sn (lst_keep (S' := S) hl fdR_keep (fun _ h => h) (bel_keep HBX.out.b_bel)) (lst_keep (S' := T) hl2 inR_keep (fun _ h => h) (bel_keep HBX.out.b_bel)) hnf hnb t)
 generalize numAtT x t = v at *
 clear hl hl2 hnf hnb
 go_enter Tryz.func64, Tryz.ntmps64
 go_wp2_with (go_at_call 60; refine HI.out.mono ?_; rintro e w3 ⟨rfl, hb⟩; have HB3 := Lib.hid (vbel HBX.out.b_bel hb); clear hb)
 go_ret
 exact ⟨rfl, HB3.out⟩
theorem pvzero_any (x : Va) (A : Option Addr) (n c : Nat) (w : World) :
 Calls Tryz.prog 106 #[.agg #[.int .u64 (x.vn : Int), .string (strOf x.vs), .slice A n c]] w fun e w' => e = .returned (.bool (zeroT x)) ∧ Below w.heap.size w w' := by
 have HO : Hid (zeroT x = (decide (x.vn = 0) && decide (x.vs = []))) := Lib.hid rfl
 have HB : Hid (∀ o, Below w.heap.size w (w.alloc o)) := Lib.hid (fun o => (Below.refl _ w).alloc (Nat.le_refl _) o)
 have he := tw_facts x.vs
 obtain ⟨vn, vs, vm⟩ := x
 dsimp only at HO he ⊢
 obtain ⟨so, hso⟩ : ∃ so, so = strOf vs := ⟨_, rfl⟩
 obtain ⟨oe, hoe⟩ : ∃ oe, oe = decide (vs = []) := ⟨_, rfl⟩
 rw [← hoe] at HO he
 rw [← hso] at he ⊢
 clear hoe hso
 have ho : (oe = true ∧ so.toList = [] ∧ so.toList.isEmpty = true) ∨ (oe = false ∧ ¬ so.toList = [] ∧ so.toList.isEmpty = false) := by
  cases oe with
  | true => exact .inl ⟨rfl, beq_iff_eq.1 he, by rw [beq_iff_eq.1 he]; rfl⟩
  | false => exact .inr ⟨rfl, (fun e => by rw [e] at he; cases he), (by rw [List.isEmpty_eq_false_iff]; intro e; rw [e] at he; cases he)⟩
 by_cases hn : vn = 0
 ·subst hn
  rcases ho with ⟨rfl, o3, o2⟩ | ⟨rfl, o3, o2⟩
  all_goals
   go_enter Tryz.func106, Tryz.ntmps106
   go_wp2
   go_ret
   exact ⟨by rw [HO.out]; rfl, HB.out _⟩
 ·have en : ((vn : Int) == 0) = false := beq_false_of_ne (by omega)
  have en2 : ¬ (vn : Int) = 0 := by omega
  rw [decide_eq_false hn] at HO
  clear hn
  go_enter Tryz.func106, Tryz.ntmps106
  go_wp2
  go_ret
  exact ⟨by rw [HO.out]; rfl, HB.out _⟩

set_option maxHeartbeats 4000000 in
theorem pvrise_any {S : Nat → Prop} {m : Nat} (w : World) {A : Option Addr} {cap n : Nat} {l : List Slt} (h : Lst 2 S (slR (trR S m) S) w A cap l) (hn : n = l.length) :
 Calls Tryz.prog 65 #[.slice A n cap] w fun e w' => e = .returned (.bool (risesB (l.map (·.snum)))) ∧ Below w.heap.size w w' := by
 have hle := h.l_le
 have hmx := h.l_max
 rw [← hn] at hle
 unfold maxLen at hmx
 have H := Lib.hid h
 have HN := Lib.hid hn
 clear h hn
 go_enter Tryz.func65, Tryz.ntmps65
 go_wp2
 go_loopw [3] (fun x wr => ∃ k : Nat, x = .int .i64 ((k + 1 : Nat) : Int) ∧ k ≤ n ∧ Below w.heap.size w wr ∧ ∀ (j : Nat) a b, j < k → (l.map (·.snum))[j]? = some a → (l.map (·.snum))[j + 1]? = some b → a < b) (fun x _ => n + 1 - (intOf x).toNat)
 case atStart => exact ⟨0, rfl, Nat.zero_le _, Below.refl _ _, fun j a b hj => absurd hj (Nat.not_lt_zero _)⟩
 case round =>
  obtain ⟨k, rfl, hk, hbel, hall⟩ := hrel
  have HALL := Lib.hid hall
  have HBE := Lib.hid hbel
  clear hall hbel
  obtain ⟨k1, hk1⟩ : ∃ k1, k1 = k + 1 := ⟨_, rfl⟩
  rw [← hk1]
  by_cases hlt : k1 < n
  ·have g1 : decide ((k1 : Int) < (n : Int)) = true := decide_eq_true (by omega)
   obtain ⟨a, ha⟩ : ∃ a, l[k]? = some a := ⟨_, List.getElem?_eq_getElem (by have := HN.out; omega)⟩
   obtain ⟨b, hb⟩ : ∃ b, l[k + 1]? = some b := ⟨_, List.getElem?_eq_getElem (by have := HN.out; omega)⟩
   obtain ⟨g, off, A1, c1, rfl, _, q0, _⟩ := sl_at H.out ha
   obtain ⟨g', off', A1', c1', e', _, q1, _⟩ := sl_at H.out hb
   cases e'
   have c0 := (q0 _ (stay_bel HBE.out)).1
   have c1 := (q1 _ (stay_bel HBE.out)).1
   rw [← hk1] at c1
   have HA : Hid ((l.map (·.snum))[k]? = some a.snum) := Lib.hid (by rw [List.getElem?_map, ha]; rfl)
   have HB : Hid ((l.map (·.snum))[k + 1]? = some b.snum) := Lib.hid (by rw [List.getElem?_map, hb]; rfl)
   have gw : IntKind.i64.wrap ((k1 : Int) - 1) = (k : Int) := by rw [show (k1 : Int) - 1 = (k : Int) by omega]; exact IntWalk.i64_in _ (by omega)
   have gx : (k1 : Int) - 1 = (k : Int) := by omega
   have gw2 : IntKind.i64.wrap (k : Int) = (k : Int) := IntWalk.i64_in _ (by omega)
   have hkk : k < n := by omega
   have HK1 := Lib.hid hk1
   obtain ⟨za, hza⟩ : ∃ za, za = a.snum := ⟨_, rfl⟩
   obtain ⟨zb, hzb⟩ : ∃ zb, zb = b.snum := ⟨_, rfl⟩
   rw [← hza] at c0 HA
   rw [← hzb] at c1 HB
   clear ha hb q0 q1 hk1 hk hza hzb
   by_cases hab : za < zb
   ·have g2 : decide (zb ≤ za) = false := decide_eq_false (by omega)
    have g3 : decide (za ≥ zb) = false := decide_eq_false (by omega)
    have HAB := Lib.hid hab
    clear hab
    go_wp2
    go_quiet (fail)
    go_wp2
    go_roundw
    case rel =>
     refine ⟨k + 1, by have := HK1.out; go_num, by have := HK1.out; omega, vbel HBE.out (drewN_under wr nq), fun j x y hj hx hy => ?_⟩
     by_cases hjk : j < k
     ·exact HALL.out j x y hjk hx hy
     ·have : j = k := by omega
      subst this
      have e1 := HA.out.symm.trans hx
      have e2 := HB.out.symm.trans hy
      injection e1 with e1
      injection e2 with e2
      subst e1 e2
      exact HAB.out
    case measure => simp [intOf]; omega
   ·have g2 : decide (zb ≤ za) = true := decide_eq_true (by omega)
    have g3 : decide (za ≥ zb) = true := decide_eq_true (by omega)
    have HO := Lib.hid (risesB_off HA.out HB.out hab)
    clear hab
    go_wp2
    go_quiet (fail)
    go_wp2
    go_ret
    exact ⟨ret_bool' HO.out.symm, vbel HBE.out (drewN_under wr nq)⟩
  ·have g1 : decide ((k1 : Int) < (n : Int)) = false := decide_eq_false (by omega)
   have HO : Hid (risesB (l.map (·.snum)) = true) := Lib.hid ((risesB_iff _).2 (fun j a b ha hb => HALL.out j a b (by have := (List.getElem?_eq_some_iff.mp hb).1; rw [List.length_map] at this; have := HN.out; omega) ha hb))
   clear hk1
   go_wp2
   go_ret
   exact ⟨ret_bool' HO.out.symm, HBE.out⟩
end Go.Proofs.YtloheacncefkgaaGreatDoor

/- The program's layer 20: the fields of oneofs counted in a map. Conditions: those that each theorem names. -/
namespace Go.Proofs.YtloheacncefkgaaGreatDoor
open Go.RowKit Go.Maps Go.WideMaps Go.WideShapes
set_option linter.unusedVariables false
set_option maxRecDepth 100000

def cntF (done : List (List UInt8)) (t : List UInt8) : Option Int := if t ∈ done then some (done.count t : Int) else none
theorem cntF_more (done : List (List UInt8)) (a t : List UInt8) : (if t = a then some ((done.count a : Int) + 1) else cntF done t) = cntF (done ++ [a]) t := by
 unfold cntF
 by_cases h : t = a
 ·subst h
  rw [if_pos rfl, if_pos (by simp), List.count_append]
  simp
 ·rw [if_neg h]
  by_cases h2 : t ∈ done
  ·rw [if_pos h2, if_pos (by simp [h2]), List.count_append]
   have : [a].count t = 0 := List.count_eq_zero.mpr (by simp [h])
   rw [this]; rfl
  ·rw [if_neg h2, if_neg (by simp [h2, h])]
theorem map_look {D : DataW Unit} {done : List (List UInt8)} {t : List UInt8} {c : Int} (h : MapIs D (cntF done)) (ha : D.atKey (.string t) (.lit (.int .i64 0)) = .lit (.int .i64 c)) : c = (done.count t : Int) := by
 by_cases hm : t ∈ done
 ·have := (h.2 t).2 (.lit (.int .i64 0)) (done.count t : Int) (by unfold cntF; rw [if_pos hm])
  rw [this] at ha
  injection ha with ha
  injection ha with _ ha
  exact ha.symm
 ·have e := (h.2 t).1
  unfold cntF at e
  rw [if_neg hm] at e
  rw [atKey_of_not_has e] at ha
  injection ha with ha
  injection ha with _ ha
  rw [← ha, List.count_eq_zero.mpr hm]
  rfl
theorem put_look {D : DataW Unit} {t : List UInt8} {c x : Int} (h : IsMap D) (ha : (D.put (.string t) (.lit (.int .i64 x))).atKey (.string t) (.lit (.int .i64 0)) = .lit (.int .i64 c)) : c = x := by
 rw [atKey_put_same h (show WideAt.IsKeyLit (.string t) from trivial)] at ha
 injection ha with ha
 injection ha with _ ha
 exact ha.symm
theorem alone_is (done : List (List UInt8)) (t : List UInt8) : aloneB done t = (decide (t = []) || decide (done.count t = 0)) := by
 unfold aloneB
 congr 1
 by_cases h : t ∈ done
 ·rw [decide_eq_true h, decide_eq_false (fun e => List.count_eq_zero.mp e h)]; rfl
 ·rw [decide_eq_false h, decide_eq_true (List.count_eq_zero.mpr h)]; rfl

theorem palones_any (w : World) :
 Calls Tryz.prog 58 #[] w fun e w' => e = .returned (.func (.func 100) #[] #[.pointer (some ⟨w.heap.size + 1, 0, none⟩)]) ∧ w'.heap[w.heap.size + 1]? = some (.cells #[.map (some w.heap.size)] 135 (0, 0)) ∧ MapAt w' w.heap.size 0 (cntF []) ∧ Below w.heap.size w w' := by
 obtain ⟨w2, hw2⟩ : ∃ w2, w2 = (w.alloc (.map #[] 0)).alloc (.cells #[.map (some w.heap.size)] 135) := ⟨_, rfl⟩
 have hb2 : Below w.heap.size w w2 := by rw [hw2]; exact ((Below.refl _ w).alloc (Nat.le_refl _) _).alloc (by simp) _
 have hk : w2.heap[w.heap.size + 1]? = some (.cells #[.map (some w.heap.size)] 135 (0, 0)) := by rw [hw2]; have := heap_alloc_new (w.alloc (.map #[] 0)) (.cells #[.map (some w.heap.size)] 135); rwa [World.size_alloc] at this
 have hm0 : MapAt w2 w.heap.size 0 (cntF []) := by rw [hw2]; exact ⟨_, (World.ownsMap_made w _ _ _).alloc _, mapIs_congr mapIs_empty (fun t => by unfold cntF; rw [if_neg (by simp)])⟩
 have HM0 := Lib.hid hm0
 have HK := Lib.hid hk
 have HB2 := Lib.hid hb2
 have HW2 := Lib.hid hw2
 have hmm := @run_makeMap Tryz.prog
 clear hm0 hk hb2 hw2
 go_enter Tryz.func58, Tryz.ntmps58
 go_wp2
 go_ret
 rw [← HW2.out]
 exact ⟨rfl, HK.out, HM0.out, HB2.out⟩

set_option maxHeartbeats 4000000 in
theorem palone_any (w : World) (pm bm k : Nat) (f : Fd) (done : List (List UInt8)) (hp : w.heap[pm]? = some (.cells #[.map (some bm)] 135 (0, 0))) (hm : MapAt w bm k (cntF done)) (hk : k ≤ 10000) (hd : done.length ≤ 10000) (hl : f.one.length ≤ 140737488351232) (hpb : pm ≠ bm) :
 Calls Tryz.prog 100 #[fdV f, .pointer (some ⟨pm, 0, none⟩)] w fun e w' => e = .returned (.bool (aloneB done f.one)) ∧ Touch (fun i => i = bm) w w' ∧ MapAt w' bm (k + 1) (cntF (done ++ [f.one])) := by
 have HAL := Lib.hid (alone_is done f.one)
 have HMORE := Lib.hid (cntF_more done f.one)
 have hcnt : done.count f.one ≤ 10000 := Nat.le_trans (List.count_le_length) hd
 have HKEY := Lib.hid (str_key hl)
 unfold fdV
 obtain ⟨w1, hw1⟩ : ∃ w1, w1 = w.alloc (.cells #[.string (strOf f.name), .int .i64 f.num, .int .i64 f.ty, .string (strOf f.ref), .bool f.rep, .bool f.loose, .string (strOf f.one)] 44) := ⟨_, rfl⟩
 have HBX := Lib.hid (bx_start w #[.string (strOf f.name), .int .i64 f.num, .int .i64 f.ty, .string (strOf f.ref), .bool f.rep, .bool f.loose, .string (strOf f.one)] 44)
 rw [← hw1] at HBX
 have hp1 := (HBX.out.b_bel.block _ (lt_of_block hp)).trans hp
 obtain ⟨D, hown, hD⟩ := hm.bel HBX.out.b_bel
 obtain ⟨c, hrun, hat, _⟩ := hown.lookup_int str_keyed Tryz.underlying135 Tryz.underlying3 (zero_int _) HKEY.out
 obtain rfl := map_look hD hat
 obtain ⟨d, hdd⟩ : ∃ d : Int, d = (done.count f.one : Int) := ⟨_, rfl⟩
 have HOW := Lib.hid hown
 have HMD := Lib.hid hD
 have hbm := (hm.lt)
 have HLT := Lib.hid hbm
 have he := tw_facts f.one
 obtain ⟨oe, hoe⟩ : ∃ oe, oe = decide (f.one = []) := ⟨_, rfl⟩
 rw [← hoe] at he HAL
 have h0 : decide (done.count f.one = 0) = decide (d = 0) := by rw [hdd]; rw [decide_eq_decide]; omega
 rw [h0] at HAL
 rw [← hdd] at hrun HMORE
 have hd0 : 0 ≤ d := by omega
 have hd1 : d ≤ 10000 := by omega
 have hwr : IntKind.i64.wrap (d + 1) = d + 1 := IntWalk.i64_in _ (by omega)
 have hwr2 : wrap64 (d + 1) = d + 1 := by unfold wrap64; omega
 have r0 := obj_cell hp1 0
 have r6 := obj_cell HBX.out.b_blk 6
 have HP1 := Lib.hid hp1
 have HW1 := Lib.hid hw1
 generalize strOf f.one = so at *
 generalize strOf f.name = s0 at *
 generalize strOf f.ref = s3 at *
 have ho : (oe = true ∧ so.toList = [] ∧ so.toList.isEmpty = true) ∨ (oe = false ∧ ¬ so.toList = [] ∧ so.toList.isEmpty = false) := by
  cases oe with
  | true => exact .inl ⟨rfl, beq_iff_eq.1 he, by rw [beq_iff_eq.1 he]; rfl⟩
  | false => exact .inr ⟨rfl, (fun e => by rw [e] at he; cases he), (by rw [List.isEmpty_eq_false_iff]; intro e; rw [e] at he; cases he)⟩
 have HDD := Lib.hid hdd
 have HKK : Hid (k ≤ 10000) := Lib.hid hk
 clear hoe he h0 hp hm hd hl hcnt hp1 hown hD hat hbm hdd hk
 rw [hw1] at r0 r6 hrun
 clear hw1
 rcases ho with ⟨rfl, o3, o2⟩ | ⟨rfl, o3, o2⟩
 ·go_enter Tryz.func100, Tryz.ntmps100
  go_wp2_with (at_mapUpdate; (with_reducible rw [← HW1.out]); refine wpList_mapUpdate_own _ rfl _ _ _ 135 rfl 9 3 str_keyed Tryz.underlying135 _ bm k _ rfl HOW.out (by unfold maxLen; have := HKK.out; omega) _ _ _ rfl rfl HKEY.out _ [] (plainElem_int Tryz.underlying3 (WalkArith.wf_i64 (by omega))) ?_; intro W3 hown3 hgrow3; have HOW3 := Lib.hid hown3; have HG3 := Lib.hid hgrow3; have hfb := (hgrow3.block _ (lt_of_block HBX.out.b_blk) (fun e => by have := Option.some.inj e; have := HLT.out; omega)).trans HBX.out.b_blk; have s6 := obj_cell hfb 6; clear hown3 hgrow3 hfb)
  go_ret
  exact ⟨by rw [HAL.out]; rfl, (Touch.of_below _ HBX.out.b_bel).grown HG3.out (fun j hj => by cases hj; exact .inl rfl), ⟨_, HOW3.out, mapIs_congr (mapIs_put HMD.out f.one (d + 1)) HMORE.out⟩⟩
 ·have HPB := Lib.hid hpb
  by_cases hz : d = 0
  ·have e1 : ((d + 1 : Int) == 1) = true := beq_iff_eq.2 (by omega)
   have e2 : (d + 1 : Int) = 1 := by omega
   rw [decide_eq_true hz] at HAL
   go_enter Tryz.func100, Tryz.ntmps100
   go_wp2_with (at_mapUpdate; (with_reducible rw [← HW1.out]); refine wpList_mapUpdate_own _ rfl _ _ _ 135 rfl 9 3 str_keyed Tryz.underlying135 _ bm k _ rfl HOW.out (by unfold maxLen; have := HKK.out; omega) _ _ _ rfl rfl HKEY.out _ [] (plainElem_int Tryz.underlying3 (WalkArith.wf_i64 (by omega))) ?_; intro W3 hown3 hgrow3; have HOW3 := Lib.hid hown3; have HG3 := Lib.hid hgrow3; have hfb := (hgrow3.block _ (lt_of_block HBX.out.b_blk) (fun e => by have := Option.some.inj e; have := HLT.out; omega)).trans HBX.out.b_blk; have hfp := (hgrow3.block _ (lt_of_block HP1.out) (fun e => HPB.out (Option.some.inj e))).trans HP1.out; have s6 := obj_cell hfb 6; have s0' := obj_cell hfp 0; obtain ⟨c3, hrun3, hat3, _⟩ := hown3.lookup_int str_keyed Tryz.underlying135 Tryz.underlying3 (zero_int _) HKEY.out; obtain rfl := put_look HMD.out.1 hat3; clear hown3 hgrow3 hfb hfp hat3)
   go_ret
   exact ⟨by rw [HAL.out]; rfl, (Touch.of_below _ HBX.out.b_bel).grown HG3.out (fun j hj => by cases hj; exact .inl rfl), ⟨_, HOW3.out, by have h := mapIs_congr (mapIs_put HMD.out f.one (d + 1)) HMORE.out; rw [e2] at h; exact h⟩⟩
  ·have e1 : ((d + 1 : Int) == 1) = false := beq_false_of_ne (by omega)
   have e2 : ¬ (d + 1 : Int) = 1 := by omega
   rw [decide_eq_false hz] at HAL
   go_enter Tryz.func100, Tryz.ntmps100
   go_wp2_with (at_mapUpdate; (with_reducible rw [← HW1.out]); refine wpList_mapUpdate_own _ rfl _ _ _ 135 rfl 9 3 str_keyed Tryz.underlying135 _ bm k _ rfl HOW.out (by unfold maxLen; have := HKK.out; omega) _ _ _ rfl rfl HKEY.out _ [] (plainElem_int Tryz.underlying3 (WalkArith.wf_i64 (by omega))) ?_; intro W3 hown3 hgrow3; have HOW3 := Lib.hid hown3; have HG3 := Lib.hid hgrow3; have hfb := (hgrow3.block _ (lt_of_block HBX.out.b_blk) (fun e => by have := Option.some.inj e; have := HLT.out; omega)).trans HBX.out.b_blk; have hfp := (hgrow3.block _ (lt_of_block HP1.out) (fun e => HPB.out (Option.some.inj e))).trans HP1.out; have s6 := obj_cell hfb 6; have s0' := obj_cell hfp 0; obtain ⟨c3, hrun3, hat3, _⟩ := hown3.lookup_int str_keyed Tryz.underlying135 Tryz.underlying3 (zero_int _) HKEY.out; obtain rfl := put_look HMD.out.1 hat3; clear hown3 hgrow3 hfb hfp hat3)
   go_ret
   exact ⟨by rw [HAL.out]; rfl, (Touch.of_below _ HBX.out.b_bel).grown HG3.out (fun j hj => by cases hj; exact .inl rfl), ⟨_, HOW3.out, mapIs_congr (mapIs_put HMD.out f.one (d + 1)) HMORE.out⟩⟩
end Go.Proofs.YtloheacncefkgaaGreatDoor
