/- Several texts in one: RwB. What each proves, and its conditions, stands at its own head. -/
import Derived.Test.YtloheacncefkgaaGreatDoorPkEU32
import Derived.Test.YtloheacncefkgaaGreatDoorPkEU36
import Derived.Test.YtloheacncefkgaaGreatDoorPkEU31
import Derived.Test.YtloheacncefkgaaGreatDoorPkEU28
import Derived.Test.YtloheacncefkgaaGreatDoorPkEU33
import Derived.Deep.AppendLies
import Derived.BigQuiet
import Derived.Deep.QuietTactic
import Derived.Test.YtloheacncefkgaaGreatDoorChecked
import Derived.Test.YtloheacncefkgaaGreatDoorPkEU0
import Derived.WalkKit
import Derived.Lib.Small
import Derived.Lib.Walk
import Derived.RowKitTokens
import Derived.Deep.LoopGhost
import Derived.IntWalk
import Derived.Deep.RegionLaw
import Derived.OwnWalk
import Derived.Lib.Hide
import Derived.Test.YtloheacncefkgaaGreatDoorPkEU1
import Derived.Test.YtloheacncefkgaaGreatDoorPkEU5
import Derived.Deep.RegionHeld3
/- The program's Put of fields. Conditions: those that each theorem names. -/
namespace Go.Proofs.YtloheacncefkgaaGreatDoor
open Go.RowKit
open Go.Lib (uvarint)
set_option linter.unusedVariables false
set_option maxRecDepth 100000

/-- What writing a field leaves. -/
def Writes (B : Nat) (w : World) (p : Nat) (S : Nat → Prop) (s : Ws) (e : Ending) (w' : World) : Prop :=
 (∃ v, e = .returned v) ∧ ∃ S', Wr B w' p S' true s ∧ (∀ k, S' k → S k ∨ w.heap.size ≤ k) ∧ Touch S w w'
theorem writes_of {B p : Nat} {S : Nat → Prop} {s s' : Ws} {w : World} (h : Wr B w p S true s) (o : Obj) {v u : Value} {e : Ending} {w' : World} (ht : WrTo B (w.alloc o) p S true s' v e w') : Writes B w p S s' (.returned u) w' := by
 obtain ⟨_, hr⟩ := fits_field h (Below.refl _ w) o ht
 exact ⟨⟨_, rfl⟩, hr⟩
theorem Wr.more {B p : Nat} {S : Nat → Prop} {s : Ws} {w : World} (h : Wr B w p S true s) (o : Obj) : Wr B (w.alloc o) p S true s := h.bel ((Below.refl _ w).alloc (Nat.le_refl _) o)

set_option maxHeartbeats 1000000 in
theorem write_any {B p : Nat} {S : Nat → Prop} {s : Ws} {w : World} (h : Wr B w p S true s) (x : Rw) (ho : okR x = true) (hn : x.n < 18446744073709551616) (hs : x.s.length ≤ 1000000000000) (hb : s.raw.length ≤ 1000000000000) :
 Calls Tryz.prog 145 #[.pointer (some ⟨p, 0, none⟩), rawV x] w (Writes B w p S (s.plain (bytesR x))) := by
 have hr := okR_right ho
 obtain ⟨num, wire, n, t⟩ := x
 obtain ⟨_, hw⟩ := (rightB_iff _ _).mp hr
 unfold rawV
 dsimp only at *
 rcases hw with rfl | rfl | rfl | rfl
 ·have HE : Hid (s.field num 0 (uvarint n) = s.plain (bytesR ⟨num, 0, n, t⟩)) := by show _ = _; rw [Ws.field, hr, if_pos rfl]; rfl
  have HC := Lib.hid (fun o => wvarint_any (h.more o) num n hn (by omega))
  have H := Lib.hid h
  rw [← HE.out]
  clear h ho hr hn
  go_enter Tryz.func145, Tryz.ntmps145
  go_wp2_with (go_at_call 157; refine (HC.out _).mono ?_; intro e w2 hto; have HT := Lib.hid hto; obtain ⟨rfl, _⟩ := hto)
  go_end0
  exact writes_of H.out _ HT.out
 ·have HE : Hid (s.field num 1 (le 8 n) = s.plain (bytesR ⟨num, 1, n, t⟩)) := by show _ = _; rw [Ws.field, hr, if_pos rfl]; rfl
  have HC := Lib.hid (fun o => wfixed8_any (h.more o) num n hn (by omega))
  have H := Lib.hid h
  rw [← HE.out]
  clear h ho hr hn
  go_enter Tryz.func145, Tryz.ntmps145
  go_wp2_with (go_at_call 158; refine (HC.out _).mono ?_; intro e w2 hto; have HT := Lib.hid hto; obtain ⟨rfl, _⟩ := hto)
  go_end0
  exact writes_of H.out _ HT.out
 ·have HE : Hid (s.field num 2 (uvarint t.length ++ t) = s.plain (bytesR ⟨num, 2, n, t⟩)) := by show _ = _; rw [Ws.field, hr, if_pos rfl]; rfl
  have HC := Lib.hid (fun o => wtext_any (h.more o) num t (by omega))
  have H := Lib.hid h
  rw [← HE.out]
  clear h ho hr hn
  go_enter Tryz.func145, Tryz.ntmps145
  go_wp2_with (go_at_call 72; refine (HC.out _).mono ?_; intro e w2 hto; have HT := Lib.hid hto; obtain ⟨rfl, _⟩ := hto)
  go_end0
  exact writes_of H.out _ HT.out
 ·have h32 : n < 4294967296 := by
   unfold okR at ho
   simp at ho
   exact ho.2.2
  have HE : Hid (s.field num 5 (le 4 n) = s.plain (bytesR ⟨num, 5, n, t⟩)) := by show _ = _; rw [Ws.field, hr, if_pos rfl]; rfl
  have HC := Lib.hid (fun o => wfixed4_any (h.more o) num n h32 (by omega))
  have H := Lib.hid h
  have hwr : IntKind.u32.wrap (n : Int) = (n : Int) := IntWalk.u32_in _ (by omega)
  rw [← HE.out]
  clear h ho hr hn
  go_enter Tryz.func145, Tryz.ntmps145
  go_wp2_with (go_at_call 159; refine (HC.out _).mono ?_; intro e w2 hto; have HT := Lib.hid hto; obtain ⟨rfl, _⟩ := hto)
  go_end0
  exact writes_of H.out _ HT.out
def wsOf (b : List UInt8) : Ws := ⟨b, [], [], 0⟩
/-- .. where the bytes lie in new memory. -/
def PutN (w : World) (l : List Rw) (e : Ending) (w' : World) : Prop :=
 ∃ (A : Option Addr) (n cap : Nat) (k : Int), e = .returned (.tuple #[.slice A n cap, .int .i64 k]) ∧ Below w.heap.size w w' ∧ (allR l = true → k = 0 ∧ n = (putR l).length ∧ Bs w' A cap (putR l)) ∧ (allR l = false → k = 1 ∧ n = 0) ∧ ∀ a, A = some a → w.heap.size ≤ a.block ∧ a.block < w'.heap.size

set_option maxHeartbeats 1000000 in
theorem put_long (w : World) (A : Option Addr) (cap n : Nat) (l : List Rw) (h : Raws w A cap l) (hn : n = l.length) (hx : ∀ x ∈ l, x.n < 18446744073709551616 ∧ x.s.length ≤ 1000000000000) (hl : ∀ k, (putR (l.take k)).length ≤ 1000000000000) :
 Calls Tryz.prog 120 #[.slice A n cap] w (PutN w l) := by
 have hle := h.le
 have hmx := h.max
 rw [← hn] at hle
 have hb0 : Below w.heap.size w (w.alloc (.cells #[.bool true, .slice none 0 0, .slice none 0 0, .slice none 0 0, .int .i64 0] 112)) := (Below.refl _ _).alloc (Nat.le_refl _) _
 have HB0 := Lib.hid hb0
 have HW0 := Lib.hid (wr_new w true)
 have HLN := Lib.hid hl
 have H := Lib.hid h
 have HN := Lib.hid hn
 have HX := Lib.hid hx
 clear h hn hx hl hb0
 go_enter Tryz.func120, Tryz.ntmps120
 go_wp2_with (go_at_call 30; refine (wnew_any _).mono ?_; rintro e w0 ⟨rfl, hw0⟩; have HW := Lib.hid hw0; clear hw0)
 rw [← HW.out] at HB0 HW0
 obtain ⟨p, hp⟩ : ∃ p, p = w.heap.size := ⟨_, rfl⟩
 rw [← hp]
 have HP := Lib.hid hp
 clear HW hp
 go_loopw [10] (fun x wr => ∃ (k : Nat) (S : Nat → Prop), k ≤ n ∧ x = .int .i64 (k : Int) ∧ Wr w.heap.size wr p S true (wsOf (putR (l.take k))) ∧ Below w.heap.size w wr ∧ ∀ (j : Nat) a, j < k → l[j]? = some a → okR a = true) (fun x _ => n - (intOf x).toNat)
 case atStart => exact ⟨0, _, Nat.zero_le _, rfl, by rw [HP.out]; exact HW0.out, HB0.out, fun j a hj => absurd hj (Nat.not_lt_zero _)⟩
 case round =>
  obtain ⟨k, S, hk, rfl, hwr, hbel, hall⟩ := hrel
  have HWR := Lib.hid hwr
  have HB := Lib.hid hbel
  have HALL := Lib.hid hall
  clear hwr hbel hall
  by_cases hlt : k < n
  ·have g1 : decide ((k : Int) < (n : Int)) = true := decide_eq_true (by omega)
   obtain ⟨a, ha⟩ : ∃ a, l[k]? = some a := ⟨_, List.getElem?_eq_getElem (by have := HN.out; omega)⟩
   obtain ⟨g, off, rfl, c0, c1, c2, c3⟩ := (H.out.bel HB.out).at_ k a ha
   have HR := Lib.hid (fun w => raw_right a w)
   have HA := Lib.hid ha
   have hax := HX.out a (List.mem_of_getElem? ha)
   have HAX := Lib.hid hax
   obtain ⟨r, hr⟩ : ∃ r, r = okR a := ⟨_, rfl⟩
   rw [← hr] at HR
   have HRR := Lib.hid hr
   clear ha hax hr
   have hnb : ∀ (o o2 : Obj) (w2 : World), w2 = (wr.alloc o).alloc o2 → w2.heap[wr.heap.size]? = some o ∧ Below wr.heap.size wr w2 := fun o o2 w2 e => by
    subst e
    exact ⟨heap_alloc2_old wr o o2, ((Below.refl _ _).alloc (Nat.le_refl _) _).alloc (by simp) _⟩
   have HNB := Lib.hid hnb
   clear hnb
   cases r with
   | false =>
     go_wp2_with (go_at_call 63; refine (HR.out _).mono ?_; rintro e w2 ⟨rfl, hw2⟩; have HN2 := Lib.hid (HNB.out _ _ _ hw2); clear hw2)
     go_ret2
     refine ⟨none, 0, 0, 1, rfl, HB.out.trans (HN2.out.2.mono HB.out.size), fun e => ?_, fun _ => ⟨rfl, rfl⟩, fun _ h => by cases h⟩
     rw [allR_off HA.out HRR.out.symm] at e
     cases e
   | true =>
     go_wp2_with (first
      | (go_at_call 63; refine (HR.out _).mono ?_; rintro e w2 ⟨rfl, hw2⟩; have HN2 := Lib.hid (HNB.out _ _ _ hw2); have e0 := obj_cell HN2.out.1 0; have e1 := obj_cell HN2.out.1 1; have e2 := obj_cell HN2.out.1 2; have e3 := obj_cell HN2.out.1 3; clear hw2)
      | (go_at_call 145; refine (write_any (HWR.out.bel HN2.out.2) a HRR.out.symm HAX.out.1 HAX.out.2 (by have := HLN.out k; show (putR (l.take k)).length ≤ _; omega)).mono ?_; rintro e w3 ⟨⟨v, rfl⟩, S3, hw3, hs3, ht3⟩; have HW3 := Lib.hid hw3; have HB3 := Lib.hid ((HB.out.trans (HN2.out.2.mono HB.out.size)).trans (ht3.below (Nat.le_trans HB.out.size HN2.out.2.size) (fun k hk => (HWR.out.lt k hk).1))); clear hw3 hs3 ht3))
     go_roundw
     case rel =>
      refine ⟨k + 1, S3, by omega, by go_num, ?_, HB3.out, fun j x hj hx => ?_⟩
      ·rw [putR_take HA.out]
       exact HW3.out
      ·by_cases hjk : j < k
       ·exact HALL.out j x hjk hx
       ·have : j = k := by omega
        subst this
        have e := HA.out.symm.trans hx
        injection e with e
        subst e
        exact HRR.out.symm
     case measure => simp [intOf]; omega
  ·have g1 : decide ((k : Int) < (n : Int)) = false := decide_eq_false (by omega)
   obtain rfl : k = n := by omega
   have ht : l.take k = l := by rw [HN.out, List.take_length]
   have HLL := HLN.out k
   rw [ht] at HWR HLL
   have HG := Lib.hid (wbytes_new HWR.out rfl (by show (putR l).length ≤ _; omega))
   have HAL : Hid (allR l = true) := Lib.hid (allR_all (fun j a ha => HALL.out j a (by have := (List.getElem?_eq_some_iff.mp ha).1; have := HN.out; omega) ha))
   clear ht HLL hlt hk
   go_wp2_with (go_at_call 33; refine HG.out.mono ?_; rintro e w4 ⟨A4, cap4, rfl, hB4, hb4, hn4⟩; have HB4 := Lib.hid hB4; have HBB4 := Lib.hid (HB.out.trans (hb4.mono HB.out.size)); have HN4 := Lib.hid hn4; clear hB4 hb4 hn4)
   go_ret2
   refine ⟨A4, _, cap4, 0, rfl, HBB4.out, fun _ => ⟨rfl, rfl, HB4.out⟩, fun e => ?_, fun a ha => ⟨Nat.le_trans HB.out.size (HN4.out a ha).1, (HN4.out a ha).2⟩⟩
   rw [HAL.out] at e
   cases e
end Go.Proofs.YtloheacncefkgaaGreatDoor
