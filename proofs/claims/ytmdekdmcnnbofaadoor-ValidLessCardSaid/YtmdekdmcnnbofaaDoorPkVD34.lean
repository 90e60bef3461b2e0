/- Several texts in one: VdA. What each proves, and its conditions, stands at its own head. -/
import Derived.Test.YtmdekdmcnnbofaaDoorPkVD22
import Derived.Shelf.Abstract
import Derived.Deep.RegionHeld3
import Derived.Laws.EntriesVeiled
/- slices.IndexFunc, slices.ContainsFunc and valid.all at slots, fields of the Rest and values, by whatever function is handed on, one that writes to blocks of its own too. Conditions: those that each theorem names. -/
namespace Go.Proofs.YtmdekdmcnnbofaaDoor
open Go.RowKit
set_option linter.unusedVariables false
set_option maxRecDepth 100000

theorem touch_more {D : Nat → Prop} {a b c : World} (h : Touch D a b) (k : Touch D b c) : Touch D a c := h.trans k (fun _ h => .inl h)
theorem touch_pure {w w' : World} (h : Touch (fun _ => False) w w') : Below w.heap.size w w' := h.below (Nat.le_refl _) (fun _ h => h.elim)
theorem pure_touch {w w' : World} (h : Below w.heap.size w w') : Touch (fun _ => False) w w' := Touch.of_below _ h

section
variable {S : Nat → Prop} {n : Nat} {A : Option Addr} {cap na : Nat} {l : List Slt}
set_option maxHeartbeats 4000000 in
theorem vix_sl (w : World) (h : Lst 2 S (slR (trR S n) S) w A cap l) (hn : na = l.length) (kf : Nat) (caps : Array Value) (henter : Enters Tryd.prog kf) (D : Nat → Prop) (hD : ∀ k, S k → ¬ D k) (J : Nat → World → Prop) (h0 : J 0 w) (q : Nat → Bool) (ans : Bool)
    (hy : ∀ i, i < na → q i = true → ans = true) (hno : (∀ i, i < na → q i = false) → ans = false)
    (hp : ∀ (i : Nat) x, l[i]? = some x → (∀ j, j < i → q j = false) → ∀ wr A1 c1 , Touch D w wr → J i wr → VsAt S n wr A1 c1 x.svals → Calls Tryd.prog kf (#[.agg #[.int .i64 x.snum, .slice A1 x.svals.length c1]] ++ caps) wr fun e w' => e = .returned (.bool (q i)) ∧ Touch D wr w' ∧ (q i = false → J (i + 1) w')) :
    Calls Tryd.prog 66 #[.slice A na cap, .func (.func kf) #[] caps] w fun e w' => ∃ r : Int, e = .returned (.int .i64 r) ∧ decide (r ≥ 0) = ans ∧ Touch D w w' := by
  have q1 : na ≤ cap := by have := h.l_le; omega
  have q2 := h.l_max
  unfold maxLen at q2
  have hent : ∀ (args : Array Value) (w : World), (callFunc kf args).run Tryd.prog w = .ok (.enter kf args) w := henter
  have HL := Lib.hid h
  have HN := Lib.hid hn
  have HP := Lib.hid hp
  have HD := Lib.hid hD
  have HY := Lib.hid hy
  have HNO := Lib.hid hno
  have H0 := Lib.hid h0
  clear h hn hp henter hD hy hno h0
  go_enter Tryd.func66, Tryd.ntmps66
  go_wp2
  go_loopw [5, 8] (fun u x wr => ∃ i : Nat, x = .int .i64 (i : Int) ∧ i ≤ na ∧ (∀ j, j < i → q j = false) ∧ Touch D w wr ∧ J i wr) (fun u x _ => na - (intOf x).toNat)
  case atStart => exact ⟨0, rfl, Nat.zero_le _, (fun j hj => absurd hj (Nat.not_lt_zero _)), Touch.refl _ _, H0.out⟩
  case round =>
    obtain ⟨i, rfl, hi, hall, ht, hj⟩ := hrel
    have HALL := Lib.hid hall
    have HT0 := Lib.hid ht
    have HJ0 := Lib.hid hj
    clear hall ht hj
    by_cases hlt : i < na
    · have g1 : decide ((i : Int) < (na : Int)) = true := decide_eq_true (by omega)
      obtain ⟨x, hx⟩ : ∃ x, l[i]? = some x := ⟨_, List.getElem?_eq_getElem (by have := HN.out; omega)⟩
      obtain ⟨ge, oe, A1, c1, rfl, _, hc, hl⟩ := sl_at HL.out hx
      have HCK := Lib.hid (HP.out i x hx HALL.out _ A1 c1 HT0.out HJ0.out (vsAt_keep hl (fun _ h => h) (stay_touch HT0.out HD.out)))
      obtain ⟨nv, hnv⟩ : ∃ nv, nv = x.svals.length := ⟨_, rfl⟩
      obtain ⟨z1, hz1⟩ : ∃ z1, z1 = x.snum := ⟨_, rfl⟩
      rw [← hnv, ← hz1] at hc HCK
      obtain ⟨c0, c1'⟩ := hc _ (stay_touch HT0.out HD.out)
      obtain ⟨b, hbp⟩ : ∃ b, b = q i := ⟨_, rfl⟩
      have HBP := Lib.hid hbp
      rw [← hbp] at HCK
      clear hbp hx hc hl hnv hz1
      cases b with
      | true =>
        have HA := Lib.hid (HY.out i hlt HBP.out.symm)
        go_wp2_with (go_at_fn kf; refine HCK.out.mono ?_; rintro e w2 ⟨rfl, hb, hj⟩; have HB2 := Lib.hid (touch_more HT0.out hb); clear hb hj)
        go_ret
        exact ⟨(i : Int), rfl, (by rw [HA.out]; exact decide_eq_true (by omega)), HB2.out⟩
      | false =>
        go_wp2_with (go_at_fn kf; refine HCK.out.mono ?_; rintro e w2 ⟨rfl, hb, hj⟩; have HB2 := Lib.hid (touch_more HT0.out hb); have HJ2 := Lib.hid (hj rfl); clear hb hj)
        go_roundw
        case rel => exact ⟨i + 1, by go_num, by omega, (fun j hj => by rcases Nat.lt_or_ge j i with h | h; exact HALL.out j h; rw [show j = i by omega]; exact HBP.out.symm), HB2.out, HJ2.out⟩
        case measure => simp [intOf]; omega
    · have g1 : decide ((i : Int) < (na : Int)) = false := decide_eq_false (by omega)
      have HF := Lib.hid (HNO.out (fun j hj => HALL.out j (by omega)))
      go_wp2
      go_ret
      exact ⟨-1, rfl, (by rw [HF.out]; rfl), HT0.out⟩
theorem vcon_sl (w : World) (h : Lst 2 S (slR (trR S n) S) w A cap l) (hn : na = l.length) (kf : Nat) (caps : Array Value) (henter : Enters Tryd.prog kf) (D : Nat → Prop) (hD : ∀ k, S k → ¬ D k) (J : Nat → World → Prop) (h0 : J 0 w) (q : Nat → Bool) (ans : Bool)
    (hy : ∀ i, i < na → q i = true → ans = true) (hno : (∀ i, i < na → q i = false) → ans = false)
    (hp : ∀ (i : Nat) x, l[i]? = some x → (∀ j, j < i → q j = false) → ∀ wr A1 c1 , Touch D w wr → J i wr → VsAt S n wr A1 c1 x.svals → Calls Tryd.prog kf (#[.agg #[.int .i64 x.snum, .slice A1 x.svals.length c1]] ++ caps) wr fun e w' => e = .returned (.bool (q i)) ∧ Touch D wr w' ∧ (q i = false → J (i + 1) w')) :
    Calls Tryd.prog 45 #[.slice A na cap, .func (.func kf) #[] caps] w fun e w' => e = .returned (.bool ans) ∧ Touch D w w' := by
  have HI := Lib.hid (vix_sl w h hn kf caps henter D hD J h0 q ans hy hno hp)
  clear h hn henter hp h0 hy hno hD
  go_enter Tryd.func45, Tryd.ntmps45
  go_wp2_with (go_at_call 66; refine HI.out.mono ?_; rintro e w2 ⟨r, rfl, hr, hb⟩; have HR := Lib.hid hr; have HB2 := Lib.hid hb; clear hr hb)
  go_ret
  exact ⟨by rw [← HR.out]; rfl, HB2.out⟩
theorem vone_sl (w : World) (p kf : Nat) (caps : Array Value) (henter : Enters Tryd.prog kf) (D : Nat → Prop) (K : World → Prop) (b : Bool) (z1 : Int) (A1 : Option Addr) (nv c1 : Nat) (hp : w.heap[p]? = some (.cells #[.func (.func kf) #[] caps] 62 (0, 0)))
    (hc : ∀ wr, Below w.heap.size w wr → Calls Tryd.prog kf (#[.agg #[.int .i64 z1, .slice A1 nv c1]] ++ caps) wr fun e w' => e = .returned (.bool b) ∧ Touch D wr w' ∧ (b = true → K w')) :
    Calls Tryd.prog 46 #[.agg #[.int .i64 z1, .slice A1 nv c1], .pointer (some ⟨p, 0, none⟩)] w fun e w' => e = .returned (.bool (!b)) ∧ Touch D w w' ∧ (b = true → K w') := by
  have hent : ∀ (args : Array Value) (w : World), (callFunc kf args).run Tryd.prog w = .ok (.enter kf args) w := henter
  have HBX := Lib.hid (bx_start w #[.int .i64 z1, .slice A1 nv c1] 42)
  have r0 := obj_cell HBX.out.b_blk 0
  have r1 := obj_cell HBX.out.b_blk 1
  have r9 : (w.alloc (.cells #[.int .i64 z1, .slice A1 nv c1] 42)).cell? ⟨p, 0, none⟩ = some (.func (.func kf) #[] caps) := obj_cell ((HBX.out.b_bel.block _ (lt_of_block hp)).trans hp) 0
  have HC := Lib.hid (hc _ HBX.out.b_bel)
  clear hc hp henter
  go_enter Tryd.func46, Tryd.ntmps46
  go_wp2_with (go_at_fn kf; refine HC.out.mono ?_; rintro e w2 ⟨rfl, hb, hj⟩; have HB2 := Lib.hid ((Touch.of_below D HBX.out.b_bel).trans hb (fun _ h => .inl h)); have HJ2 := Lib.hid hj; clear hb hj)
  go_ret
  exact ⟨rfl, HB2.out, HJ2.out⟩
theorem vall_sl (w : World) (h : Lst 2 S (slR (trR S n) S) w A cap l) (hn : na = l.length) (kf : Nat) (caps : Array Value) (henter : Enters Tryd.prog kf) (D : Nat → Prop) (hD : ∀ k, S k → ¬ D k) (hDw : ∀ k, D k → k < w.heap.size) (J : Nat → World → Prop) (hJ : ∀ i W W', J i W → Below W.heap.size W W' → J i W') (h0 : J 0 w) (g : Nat → Bool) (ans : Bool)
    (hno : ∀ i, i < na → g i = false → ans = false) (hy : (∀ i, i < na → g i = true) → ans = true)
    (hp : ∀ (i : Nat) x, l[i]? = some x → (∀ j, j < i → g j = true) → ∀ wr A1 c1 , Touch D w wr → J i wr → VsAt S n wr A1 c1 x.svals → Calls Tryd.prog kf (#[.agg #[.int .i64 x.snum, .slice A1 x.svals.length c1]] ++ caps) wr fun e w' => e = .returned (.bool (g i)) ∧ Touch D wr w' ∧ (g i = true → J (i + 1) w')) :
    Calls Tryd.prog 26 #[.slice A na cap, .func (.func kf) #[] caps] w fun e w' => e = .returned (.bool ans) ∧ Touch D w w' := by
  have hb : Below w.heap.size w (w.alloc (.cells #[.func (.func kf) #[] caps] 62)) := (Below.refl _ w).alloc (Nat.le_refl _) _
  have hbx := heap_alloc_new w (.cells #[.func (.func kf) #[] caps] 62)
  obtain ⟨w2, hw2⟩ : ∃ w2, w2 = w.alloc (.cells #[.func (.func kf) #[] caps] 62) := ⟨_, rfl⟩
  rw [← hw2] at hb hbx
  have HI := Lib.hid (vcon_sl w2 (lst_keep h (slR_keep (trR_keep (fun _ h => h) (stay_bel hb) n) (fun _ h => h) (stay_bel hb)) (fun _ h => h) (stay_bel hb)) hn 46 #[.pointer (some ⟨w.heap.size, 0, none⟩)] (fun _ _ => rfl) D hD J (hJ _ _ _ h0 hb) (fun i => !g i) (!ans)
    (fun i hi hg => by rw [hno i hi (by simpa using hg)]; rfl) (fun hg => by rw [hy (fun i hi => by simpa using hg i hi)]; rfl)
    (fun i x hx hall wr A1 c1  ht hj hv => by
      have ht0 : Touch D w wr := (Touch.of_below D hb).trans ht (fun _ h => .inl h)
      refine (vone_sl wr w.heap.size kf caps henter D (fun w' => J (i + 1) w') (g i) x.snum A1 x.svals.length c1 ((ht.block _ (lt_of_block hbx) (fun hd => absurd (hDw _ hd) (Nat.lt_irrefl _))).trans hbx) (fun wq hq => hp i x hx (fun j hj2 => by simpa using hall j hj2) wq A1 c1  (ht0.then_below hq) (hJ _ _ _ hj hq) (vsAt_bel hv hq))).mono ?_
      rintro e w' ⟨he, h1, h2⟩
      exact ⟨he, h1, fun hg => h2 (by simpa using hg)⟩))
  have HW := Lib.hid hw2
  have HB := Lib.hid hb
  clear h hn henter hD hDw h0 hno hy hp hJ hb hbx
  go_enter Tryd.func26, Tryd.ntmps26
  go_wp2_with (go_at_call 45; (with_reducible rw [← HW.out]); refine HI.out.mono ?_; rintro e w3 ⟨rfl, hb⟩; have HB2 := Lib.hid ((Touch.of_below D HB.out).trans hb (fun _ h => .inl h)); clear hb)
  go_ret
  exact ⟨rfl, HB2.out⟩
end

section
variable {S : Nat → Prop} {n : Nat} {A : Option Addr} {cap na : Nat} {l : List Rw}
set_option maxHeartbeats 4000000 in
theorem vix_rw (w : World) (h : Lst 4 S rwR w A cap l) (hn : na = l.length) (kf : Nat) (caps : Array Value) (henter : Enters Tryd.prog kf) (D : Nat → Prop) (hD : ∀ k, S k → ¬ D k) (J : Nat → World → Prop) (h0 : J 0 w) (q : Nat → Bool) (ans : Bool)
    (hy : ∀ i, i < na → q i = true → ans = true) (hno : (∀ i, i < na → q i = false) → ans = false)
    (hp : ∀ (i : Nat) x, l[i]? = some x → (∀ j, j < i → q j = false) → ∀ wr , Touch D w wr → J i wr → Calls Tryd.prog kf (#[rawV x] ++ caps) wr fun e w' => e = .returned (.bool (q i)) ∧ Touch D wr w' ∧ (q i = false → J (i + 1) w')) :
    Calls Tryd.prog 67 #[.slice A na cap, .func (.func kf) #[] caps] w fun e w' => ∃ r : Int, e = .returned (.int .i64 r) ∧ decide (r ≥ 0) = ans ∧ Touch D w w' := by
  have q1 : na ≤ cap := by have := h.l_le; omega
  have q2 := h.l_max
  unfold maxLen at q2
  have hent : ∀ (args : Array Value) (w : World), (callFunc kf args).run Tryd.prog w = .ok (.enter kf args) w := henter
  have HL := Lib.hid h
  have HN := Lib.hid hn
  have HP := Lib.hid hp
  have HD := Lib.hid hD
  have HY := Lib.hid hy
  have HNO := Lib.hid hno
  have H0 := Lib.hid h0
  clear h hn hp henter hD hy hno h0
  go_enter Tryd.func67, Tryd.ntmps67
  go_wp2
  go_loopw [5, 8] (fun u x wr => ∃ i : Nat, x = .int .i64 (i : Int) ∧ i ≤ na ∧ (∀ j, j < i → q j = false) ∧ Touch D w wr ∧ J i wr) (fun u x _ => na - (intOf x).toNat)
  case atStart => exact ⟨0, rfl, Nat.zero_le _, (fun j hj => absurd hj (Nat.not_lt_zero _)), Touch.refl _ _, H0.out⟩
  case round =>
    obtain ⟨i, rfl, hi, hall, ht, hj⟩ := hrel
    have HALL := Lib.hid hall
    have HT0 := Lib.hid ht
    have HJ0 := Lib.hid hj
    clear hall ht hj
    by_cases hlt : i < na
    · have g1 : decide ((i : Int) < (na : Int)) = true := decide_eq_true (by omega)
      obtain ⟨x, hx⟩ : ∃ x, l[i]? = some x := ⟨_, List.getElem?_eq_getElem (by have := HN.out; omega)⟩
      obtain ⟨ge, oe, rfl, _, hc⟩ := rw_at HL.out hx
      have HCK := Lib.hid (HP.out i x hx HALL.out _ HT0.out HJ0.out)
      unfold rawV at HCK
      obtain ⟨z0, hz0⟩ : ∃ z0, z0 = x.num := ⟨_, rfl⟩
      obtain ⟨z1, hz1⟩ : ∃ z1, z1 = x.wire := ⟨_, rfl⟩
      obtain ⟨z2, hz2⟩ : ∃ z2 : Int, z2 = (x.n : Int) := ⟨_, rfl⟩
      obtain ⟨z3, hz3⟩ : ∃ z3, z3 = strOf x.s := ⟨_, rfl⟩
      rw [← hz0, ← hz1, ← hz2, ← hz3] at hc HCK
      obtain ⟨c0, c1', c2, c3⟩ := hc _ (stay_touch HT0.out HD.out)
      obtain ⟨b, hbp⟩ : ∃ b, b = q i := ⟨_, rfl⟩
      have HBP := Lib.hid hbp
      rw [← hbp] at HCK
      clear hbp hx hc hz0 hz1 hz2 hz3
      cases b with
      | true =>
        have HA := Lib.hid (HY.out i hlt HBP.out.symm)
        go_wp2_with (go_at_fn kf; refine HCK.out.mono ?_; rintro e w2 ⟨rfl, hb, hj⟩; have HB2 := Lib.hid (touch_more HT0.out hb); clear hb hj)
        go_ret
        exact ⟨(i : Int), rfl, (by rw [HA.out]; exact decide_eq_true (by omega)), HB2.out⟩
      | false =>
        go_wp2_with (go_at_fn kf; refine HCK.out.mono ?_; rintro e w2 ⟨rfl, hb, hj⟩; have HB2 := Lib.hid (touch_more HT0.out hb); have HJ2 := Lib.hid (hj rfl); clear hb hj)
        go_roundw
        case rel => exact ⟨i + 1, by go_num, by omega, (fun j hj => by rcases Nat.lt_or_ge j i with h | h; exact HALL.out j h; rw [show j = i by omega]; exact HBP.out.symm), HB2.out, HJ2.out⟩
        case measure => simp [intOf]; omega
    · have g1 : decide ((i : Int) < (na : Int)) = false := decide_eq_false (by omega)
      have HF := Lib.hid (HNO.out (fun j hj => HALL.out j (by omega)))
      go_wp2
      go_ret
      exact ⟨-1, rfl, (by rw [HF.out]; rfl), HT0.out⟩
theorem vcon_rw (w : World) (h : Lst 4 S rwR w A cap l) (hn : na = l.length) (kf : Nat) (caps : Array Value) (henter : Enters Tryd.prog kf) (D : Nat → Prop) (hD : ∀ k, S k → ¬ D k) (J : Nat → World → Prop) (h0 : J 0 w) (q : Nat → Bool) (ans : Bool)
    (hy : ∀ i, i < na → q i = true → ans = true) (hno : (∀ i, i < na → q i = false) → ans = false)
    (hp : ∀ (i : Nat) x, l[i]? = some x → (∀ j, j < i → q j = false) → ∀ wr , Touch D w wr → J i wr → Calls Tryd.prog kf (#[rawV x] ++ caps) wr fun e w' => e = .returned (.bool (q i)) ∧ Touch D wr w' ∧ (q i = false → J (i + 1) w')) :
    Calls Tryd.prog 47 #[.slice A na cap, .func (.func kf) #[] caps] w fun e w' => e = .returned (.bool ans) ∧ Touch D w w' := by
  have HI := Lib.hid (vix_rw w h hn kf caps henter D hD J h0 q ans hy hno hp)
  clear h hn henter hp h0 hy hno hD
  go_enter Tryd.func47, Tryd.ntmps47
  go_wp2_with (go_at_call 67; refine HI.out.mono ?_; rintro e w2 ⟨r, rfl, hr, hb⟩; have HR := Lib.hid hr; have HB2 := Lib.hid hb; clear hr hb)
  go_ret
  exact ⟨by rw [← HR.out]; rfl, HB2.out⟩
theorem vone_rw (w : World) (p kf : Nat) (caps : Array Value) (henter : Enters Tryd.prog kf) (D : Nat → Prop) (K : World → Prop) (b : Bool) (z0 z1 z2 : Int) (z3 : ByteArray) (hp : w.heap[p]? = some (.cells #[.func (.func kf) #[] caps] 65 (0, 0)))
    (hc : ∀ wr, Below w.heap.size w wr → Calls Tryd.prog kf (#[.agg #[.int .i64 z0, .int .i64 z1, .int .u64 z2, .string z3]] ++ caps) wr fun e w' => e = .returned (.bool b) ∧ Touch D wr w' ∧ (b = true → K w')) :
    Calls Tryd.prog 48 #[.agg #[.int .i64 z0, .int .i64 z1, .int .u64 z2, .string z3], .pointer (some ⟨p, 0, none⟩)] w fun e w' => e = .returned (.bool (!b)) ∧ Touch D w w' ∧ (b = true → K w') := by
  have hent : ∀ (args : Array Value) (w : World), (callFunc kf args).run Tryd.prog w = .ok (.enter kf args) w := henter
  have HBX := Lib.hid (bx_start w #[.int .i64 z0, .int .i64 z1, .int .u64 z2, .string z3] 64)
  have r0 := obj_cell HBX.out.b_blk 0
  have r1 := obj_cell HBX.out.b_blk 1
  have r2 := obj_cell HBX.out.b_blk 2
  have r3 := obj_cell HBX.out.b_blk 3
  have r9 : (w.alloc (.cells #[.int .i64 z0, .int .i64 z1, .int .u64 z2, .string z3] 64)).cell? ⟨p, 0, none⟩ = some (.func (.func kf) #[] caps) := obj_cell ((HBX.out.b_bel.block _ (lt_of_block hp)).trans hp) 0
  have HC := Lib.hid (hc _ HBX.out.b_bel)
  clear hc hp henter
  go_enter Tryd.func48, Tryd.ntmps48
  go_wp2_with (go_at_fn kf; refine HC.out.mono ?_; rintro e w2 ⟨rfl, hb, hj⟩; have HB2 := Lib.hid ((Touch.of_below D HBX.out.b_bel).trans hb (fun _ h => .inl h)); have HJ2 := Lib.hid hj; clear hb hj)
  go_ret
  exact ⟨rfl, HB2.out, HJ2.out⟩
theorem vall_rw (w : World) (h : Lst 4 S rwR w A cap l) (hn : na = l.length) (kf : Nat) (caps : Array Value) (henter : Enters Tryd.prog kf) (D : Nat → Prop) (hD : ∀ k, S k → ¬ D k) (hDw : ∀ k, D k → k < w.heap.size) (J : Nat → World → Prop) (hJ : ∀ i W W', J i W → Below W.heap.size W W' → J i W') (h0 : J 0 w) (g : Nat → Bool) (ans : Bool)
    (hno : ∀ i, i < na → g i = false → ans = false) (hy : (∀ i, i < na → g i = true) → ans = true)
    (hp : ∀ (i : Nat) x, l[i]? = some x → (∀ j, j < i → g j = true) → ∀ wr , Touch D w wr → J i wr → Calls Tryd.prog kf (#[rawV x] ++ caps) wr fun e w' => e = .returned (.bool (g i)) ∧ Touch D wr w' ∧ (g i = true → J (i + 1) w')) :
    Calls Tryd.prog 27 #[.slice A na cap, .func (.func kf) #[] caps] w fun e w' => e = .returned (.bool ans) ∧ Touch D w w' := by
  have hb : Below w.heap.size w (w.alloc (.cells #[.func (.func kf) #[] caps] 65)) := (Below.refl _ w).alloc (Nat.le_refl _) _
  have hbx := heap_alloc_new w (.cells #[.func (.func kf) #[] caps] 65)
  obtain ⟨w2, hw2⟩ : ∃ w2, w2 = w.alloc (.cells #[.func (.func kf) #[] caps] 65) := ⟨_, rfl⟩
  rw [← hw2] at hb hbx
  have HI := Lib.hid (vcon_rw w2 (lst_keep (w' := w2) h (fun _ _ h => h) (fun _ h => h) (stay_bel hb)) hn 48 #[.pointer (some ⟨w.heap.size, 0, none⟩)] (fun _ _ => rfl) D hD J (hJ _ _ _ h0 hb) (fun i => !g i) (!ans)
    (fun i hi hg => by rw [hno i hi (by simpa using hg)]; rfl) (fun hg => by rw [hy (fun i hi => by simpa using hg i hi)]; rfl)
    (fun i x hx hall wr  ht hj => by
      have ht0 : Touch D w wr := (Touch.of_below D hb).trans ht (fun _ h => .inl h)
      refine (vone_rw wr w.heap.size kf caps henter D (fun w' => J (i + 1) w') (g i) x.num x.wire (x.n : Int) (strOf x.s) ((ht.block _ (lt_of_block hbx) (fun hd => absurd (hDw _ hd) (Nat.lt_irrefl _))).trans hbx) (fun wq hq => hp i x hx (fun j hj2 => by simpa using hall j hj2) wq  (ht0.then_below hq) (hJ _ _ _ hj hq))).mono ?_
      rintro e w' ⟨he, h1, h2⟩
      exact ⟨he, h1, fun hg => h2 (by simpa using hg)⟩))
  have HW := Lib.hid hw2
  have HB := Lib.hid hb
  clear h hn henter hD hDw h0 hno hy hp hJ hb hbx
  go_enter Tryd.func27, Tryd.ntmps27
  go_wp2_with (go_at_call 47; (with_reducible rw [← HW.out]); refine HI.out.mono ?_; rintro e w3 ⟨rfl, hb⟩; have HB2 := Lib.hid ((Touch.of_below D HB.out).trans hb (fun _ h => .inl h)); clear hb)
  go_ret
  exact ⟨rfl, HB2.out⟩
end

section
variable {S : Nat → Prop} {n : Nat} {A : Option Addr} {cap na : Nat} {l : List Va}
set_option maxHeartbeats 4000000 in
theorem vix_va (w : World) (h : VsAt S n w A cap l) (hn : na = l.length) (kf : Nat) (caps : Array Value) (henter : Enters Tryd.prog kf) (D : Nat → Prop) (hD : ∀ k, S k → ¬ D k) (J : Nat → World → Prop) (h0 : J 0 w) (q : Nat → Bool) (ans : Bool)
    (hy : ∀ i, i < na → q i = true → ans = true) (hno : (∀ i, i < na → q i = false) → ans = false)
    (hp : ∀ (i : Nat) x, l[i]? = some x → (∀ j, j < i → q j = false) → ∀ wr A1 c1 , Touch D w wr → J i wr → KsAt S n wr A1 c1 x.vm → Calls Tryd.prog kf (#[.agg #[.int .u64 (x.vn : Int), .string (strOf x.vs), .slice A1 x.vm.length c1]] ++ caps) wr fun e w' => e = .returned (.bool (q i)) ∧ Touch D wr w' ∧ (q i = false → J (i + 1) w')) :
    Calls Tryd.prog 70 #[.slice A na cap, .func (.func kf) #[] caps] w fun e w' => ∃ r : Int, e = .returned (.int .i64 r) ∧ decide (r ≥ 0) = ans ∧ Touch D w w' := by
  have q1 : na ≤ cap := by have := h.l_le; omega
  have q2 := h.l_max
  unfold maxLen at q2
  have hent : ∀ (args : Array Value) (w : World), (callFunc kf args).run Tryd.prog w = .ok (.enter kf args) w := henter
  have HL := Lib.hid h
  have HN := Lib.hid hn
  have HP := Lib.hid hp
  have HD := Lib.hid hD
  have HY := Lib.hid hy
  have HNO := Lib.hid hno
  have H0 := Lib.hid h0
  clear h hn hp henter hD hy hno h0
  go_enter Tryd.func70, Tryd.ntmps70
  go_wp2
  go_loopw [5, 8] (fun u x wr => ∃ i : Nat, x = .int .i64 (i : Int) ∧ i ≤ na ∧ (∀ j, j < i → q j = false) ∧ Touch D w wr ∧ J i wr) (fun u x _ => na - (intOf x).toNat)
  case atStart => exact ⟨0, rfl, Nat.zero_le _, (fun j hj => absurd hj (Nat.not_lt_zero _)), Touch.refl _ _, H0.out⟩
  case round =>
    obtain ⟨i, rfl, hi, hall, ht, hj⟩ := hrel
    have HALL := Lib.hid hall
    have HT0 := Lib.hid ht
    have HJ0 := Lib.hid hj
    clear hall ht hj
    by_cases hlt : i < na
    · have g1 : decide ((i : Int) < (na : Int)) = true := decide_eq_true (by omega)
      obtain ⟨x, hx⟩ : ∃ x, l[i]? = some x := ⟨_, List.getElem?_eq_getElem (by have := HN.out; omega)⟩
      obtain ⟨ge, oe, A1, c1, rfl, _, hc, hl⟩ := va_at HL.out hx
      have HCK := Lib.hid (HP.out i x hx HALL.out _ A1 c1 HT0.out HJ0.out (ksAt_keep hl (fun _ h => h) (stay_touch HT0.out HD.out)))
      obtain ⟨nv, hnv⟩ : ∃ nv, nv = x.vm.length := ⟨_, rfl⟩
      obtain ⟨z1, hz1⟩ : ∃ z1 : Int, z1 = (x.vn : Int) := ⟨_, rfl⟩
      obtain ⟨z2, hz2⟩ : ∃ z2, z2 = strOf x.vs := ⟨_, rfl⟩
      rw [← hnv, ← hz1, ← hz2] at hc HCK
      obtain ⟨c0, c1', c2⟩ := hc _ (stay_touch HT0.out HD.out)
      obtain ⟨b, hbp⟩ : ∃ b, b = q i := ⟨_, rfl⟩
      have HBP := Lib.hid hbp
      rw [← hbp] at HCK
      clear hbp hx hc hl hnv hz1 hz2
      cases b with
      | true =>
        have HA := Lib.hid (HY.out i hlt HBP.out.symm)
        go_wp2_with (go_at_fn kf; refine HCK.out.mono ?_; rintro e w2 ⟨rfl, hb, hj⟩; have HB2 := Lib.hid (touch_more HT0.out hb); clear hb hj)
        go_ret
        exact ⟨(i : Int), rfl, (by rw [HA.out]; exact decide_eq_true (by omega)), HB2.out⟩
      | false =>
        go_wp2_with (go_at_fn kf; refine HCK.out.mono ?_; rintro e w2 ⟨rfl, hb, hj⟩; have HB2 := Lib.hid (touch_more HT0.out hb); have HJ2 := Lib.hid (hj rfl); clear hb hj)
        go_roundw
        case rel => exact ⟨i + 1, by go_num, by omega, (fun j hj => by rcases Nat.lt_or_ge j i with h | h; exact HALL.out j h; rw [show j = i by omega]; exact HBP.out.symm), HB2.out, HJ2.out⟩
        case measure => simp [intOf]; omega
    · have g1 : decide ((i : Int) < (na : Int)) = false := decide_eq_false (by omega)
      have HF := Lib.hid (HNO.out (fun j hj => HALL.out j (by omega)))
      go_wp2
      go_ret
      exact ⟨-1, rfl, (by rw [HF.out]; rfl), HT0.out⟩
theorem vcon_va (w : World) (h : VsAt S n w A cap l) (hn : na = l.length) (kf : Nat) (caps : Array Value) (henter : Enters Tryd.prog kf) (D : Nat → Prop) (hD : ∀ k, S k → ¬ D k) (J : Nat → World → Prop) (h0 : J 0 w) (q : Nat → Bool) (ans : Bool)
    (hy : ∀ i, i < na → q i = true → ans = true) (hno : (∀ i, i < na → q i = false) → ans = false)
    (hp : ∀ (i : Nat) x, l[i]? = some x → (∀ j, j < i → q j = false) → ∀ wr A1 c1 , Touch D w wr → J i wr → KsAt S n wr A1 c1 x.vm → Calls Tryd.prog kf (#[.agg #[.int .u64 (x.vn : Int), .string (strOf x.vs), .slice A1 x.vm.length c1]] ++ caps) wr fun e w' => e = .returned (.bool (q i)) ∧ Touch D wr w' ∧ (q i = false → J (i + 1) w')) :
    Calls Tryd.prog 62 #[.slice A na cap, .func (.func kf) #[] caps] w fun e w' => e = .returned (.bool ans) ∧ Touch D w w' := by
  have HI := Lib.hid (vix_va w h hn kf caps henter D hD J h0 q ans hy hno hp)
  clear h hn henter hp h0 hy hno hD
  go_enter Tryd.func62, Tryd.ntmps62
  go_wp2_with (go_at_call 70; refine HI.out.mono ?_; rintro e w2 ⟨r, rfl, hr, hb⟩; have HR := Lib.hid hr; have HB2 := Lib.hid hb; clear hr hb)
  go_ret
  exact ⟨by rw [← HR.out]; rfl, HB2.out⟩
theorem vone_va (w : World) (p kf : Nat) (caps : Array Value) (henter : Enters Tryd.prog kf) (D : Nat → Prop) (K : World → Prop) (b : Bool) (z1 : Int) (z2 : ByteArray) (A1 : Option Addr) (nv c1 : Nat) (hp : w.heap[p]? = some (.cells #[.func (.func kf) #[] caps] 77 (0, 0)))
    (hc : ∀ wr, Below w.heap.size w wr → Calls Tryd.prog kf (#[.agg #[.int .u64 z1, .string z2, .slice A1 nv c1]] ++ caps) wr fun e w' => e = .returned (.bool b) ∧ Touch D wr w' ∧ (b = true → K w')) :
    Calls Tryd.prog 63 #[.agg #[.int .u64 z1, .string z2, .slice A1 nv c1], .pointer (some ⟨p, 0, none⟩)] w fun e w' => e = .returned (.bool (!b)) ∧ Touch D w w' ∧ (b = true → K w') := by
  have hent : ∀ (args : Array Value) (w : World), (callFunc kf args).run Tryd.prog w = .ok (.enter kf args) w := henter
  have HBX := Lib.hid (bx_start w #[.int .u64 z1, .string z2, .slice A1 nv c1] 39)
  have r0 := obj_cell HBX.out.b_blk 0
  have r1 := obj_cell HBX.out.b_blk 1
  have r2 := obj_cell HBX.out.b_blk 2
  have r9 : (w.alloc (.cells #[.int .u64 z1, .string z2, .slice A1 nv c1] 39)).cell? ⟨p, 0, none⟩ = some (.func (.func kf) #[] caps) := obj_cell ((HBX.out.b_bel.block _ (lt_of_block hp)).trans hp) 0
  have HC := Lib.hid (hc _ HBX.out.b_bel)
  clear hc hp henter
  go_enter Tryd.func63, Tryd.ntmps63
  go_wp2_with (go_at_fn kf; refine HC.out.mono ?_; rintro e w2 ⟨rfl, hb, hj⟩; have HB2 := Lib.hid ((Touch.of_below D HBX.out.b_bel).trans hb (fun _ h => .inl h)); have HJ2 := Lib.hid hj; clear hb hj)
  go_ret
  exact ⟨rfl, HB2.out, HJ2.out⟩
theorem vall_va (w : World) (h : VsAt S n w A cap l) (hn : na = l.length) (kf : Nat) (caps : Array Value) (henter : Enters Tryd.prog kf) (D : Nat → Prop) (hD : ∀ k, S k → ¬ D k) (hDw : ∀ k, D k → k < w.heap.size) (J : Nat → World → Prop) (hJ : ∀ i W W', J i W → Below W.heap.size W W' → J i W') (h0 : J 0 w) (g : Nat → Bool) (ans : Bool)
    (hno : ∀ i, i < na → g i = false → ans = false) (hy : (∀ i, i < na → g i = true) → ans = true)
    (hp : ∀ (i : Nat) x, l[i]? = some x → (∀ j, j < i → g j = true) → ∀ wr A1 c1 , Touch D w wr → J i wr → KsAt S n wr A1 c1 x.vm → Calls Tryd.prog kf (#[.agg #[.int .u64 (x.vn : Int), .string (strOf x.vs), .slice A1 x.vm.length c1]] ++ caps) wr fun e w' => e = .returned (.bool (g i)) ∧ Touch D wr w' ∧ (g i = true → J (i + 1) w')) :
    Calls Tryd.prog 43 #[.slice A na cap, .func (.func kf) #[] caps] w fun e w' => e = .returned (.bool ans) ∧ Touch D w w' := by
  have hb : Below w.heap.size w (w.alloc (.cells #[.func (.func kf) #[] caps] 77)) := (Below.refl _ w).alloc (Nat.le_refl _) _
  have hbx := heap_alloc_new w (.cells #[.func (.func kf) #[] caps] 77)
  obtain ⟨w2, hw2⟩ : ∃ w2, w2 = w.alloc (.cells #[.func (.func kf) #[] caps] 77) := ⟨_, rfl⟩
  rw [← hw2] at hb hbx
  have HI := Lib.hid (vcon_va w2 (vsAt_bel h hb) hn 63 #[.pointer (some ⟨w.heap.size, 0, none⟩)] (fun _ _ => rfl) D hD J (hJ _ _ _ h0 hb) (fun i => !g i) (!ans)
    (fun i hi hg => by rw [hno i hi (by simpa using hg)]; rfl) (fun hg => by rw [hy (fun i hi => by simpa using hg i hi)]; rfl)
    (fun i x hx hall wr A1 c1  ht hj hv => by
      have ht0 : Touch D w wr := (Touch.of_below D hb).trans ht (fun _ h => .inl h)
      refine (vone_va wr w.heap.size kf caps henter D (fun w' => J (i + 1) w') (g i) (x.vn : Int) (strOf x.vs) A1 x.vm.length c1 ((ht.block _ (lt_of_block hbx) (fun hd => absurd (hDw _ hd) (Nat.lt_irrefl _))).trans hbx) (fun wq hq => hp i x hx (fun j hj2 => by simpa using hall j hj2) wq A1 c1  (ht0.then_below hq) (hJ _ _ _ hj hq) (ksAt_bel hv hq))).mono ?_
      rintro e w' ⟨he, h1, h2⟩
      exact ⟨he, h1, fun hg => h2 (by simpa using hg)⟩))
  have HW := Lib.hid hw2
  have HB := Lib.hid hb
  clear h hn henter hD hDw h0 hno hy hp hJ hb hbx
  go_enter Tryd.func43, Tryd.ntmps43
  go_wp2_with (go_at_call 62; (with_reducible rw [← HW.out]); refine HI.out.mono ?_; rintro e w3 ⟨rfl, hb⟩; have HB2 := Lib.hid ((Touch.of_below D HB.out).trans hb (fun _ h => .inl h)); clear hb)
  go_ret
  exact ⟨rfl, HB2.out⟩
end
end Go.Proofs.YtmdekdmcnnbofaaDoor
