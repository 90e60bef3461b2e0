/- Several texts in one: RawMem, RrA, RwA, TrIn, TrCame, RtB, RtC. What each proves, and its conditions, stands at its own head. -/
import Derived.Test.YtloheacncefkgaaGreatDoorChecked
import Derived.Test.YtloheacncefkgaaGreatDoorPkEU28
import Derived.Test.YtloheacncefkgaaGreatDoorPkEU0
import Derived.Test.YtloheacncefkgaaGreatDoorPkEU2
import Derived.Deep.SlicePairs
import Derived.BigQuiet
import Derived.Deep.QuietTactic
import Derived.Test.YtloheacncefkgaaGreatDoorPkEU11
import Derived.Test.YtloheacncefkgaaGreatDoorPkEU20
import Derived.OpenShut
import Derived.ProofKit
import Derived.SizedLaws
import Derived.Test.YtloheacncefkgaaGreatDoorPkEU4
import Derived.Deep.RegionHeld3
/- Fields in memory: lists that are read, lists that came in. Conditions: those that each theorem names. -/
namespace Go.Proofs.YtloheacncefkgaaGreatDoor
open Go.RowKit Go.ChangeShapes
set_option linter.unusedVariables false
set_option maxRecDepth 100000

def rawV (x : Rw) : Value := .agg #[.int .i64 x.num, .int .i64 x.wire, .int .u64 (x.n : Int), .string (strOf x.s)]
def rawCells (x : Rw) : List Value := [.int .i64 x.num, .int .i64 x.wire, .int .u64 (x.n : Int), .string (strOf x.s)]
theorem rawCells_length (x : Rw) : (rawCells x).length = 4 := rfl
def rawRow (l : List Rw) : List Value := l.flatMap rawCells
theorem rawRow_length (l : List Rw) : (rawRow l).length = l.length * 4 := flat_length rawCells 4 rawCells_length l
/-- A slice that reads as these fields. -/
structure Raws (w : World) (A : Option Addr) (cap : Nat) (l : List Rw) : Prop where
 le : l.length ≤ cap
 max : cap ≤ 9223372036854775807
 at_ : ∀ (j : Nat) x, l[j]? = some x → ∃ g off, A = some ⟨g, off, none⟩ ∧ w.cell? ⟨g, off + j * 4, none⟩ = some (.int .i64 x.num) ∧ w.cell? ⟨g, off + j * 4 + 1, none⟩ = some (.int .i64 x.wire) ∧ w.cell? ⟨g, off + j * 4 + 2, none⟩ = some (.int .u64 (x.n : Int)) ∧ w.cell? ⟨g, off + j * 4 + 3, none⟩ = some (.string (strOf x.s))
theorem lt_of_cell {w : World} {b o : Nat} {v : Value} (h : w.cell? ⟨b, o, none⟩ = some v) : b < w.heap.size := by
 rcases Nat.lt_or_ge b w.heap.size with h' | h'
 ·exact h'
 ·simp [World.cell?, Array.getElem?_eq_none h'] at h
theorem Raws.bel {w w' : World} {A : Option Addr} {cap : Nat} {l : List Rw} (h : Raws w A cap l) (hb : Below w.heap.size w w') : Raws w' A cap l :=
 ⟨h.le, h.max, fun j x hj => by
  obtain ⟨g, off, e, c0, c1, c2, c3⟩ := h.at_ j x hj
  have hg := lt_of_cell c0
  exact ⟨g, off, e, (hb.cell (p := ⟨g, off + j * 4, none⟩) hg).trans c0, (hb.cell (p := ⟨g, off + j * 4 + 1, none⟩) hg).trans c1, (hb.cell (p := ⟨g, off + j * 4 + 2, none⟩) hg).trans c2, (hb.cell (p := ⟨g, off + j * 4 + 3, none⟩) hg).trans c3⟩⟩
/-- A row of the call's own reads so. -/
theorem Raws.own {w : World} {base : Nat} {t : TypeId} {v : Value} {n : Nat} {l : List Rw} (h : w.ownsRow base t 4 v n (rawRow l)) : n = l.length ∧ ∃ A cap, v = .slice A l.length cap ∧ Raws w A cap l := by
 have hn : n = l.length := by have := h.1; rw [rawRow_length] at this; omega
 subst hn
 obtain ⟨A, cap, rfl, h1, h2, h3, _⟩ := own_form h
 refine ⟨rfl, A, cap, rfl, h1, by unfold maxLen at h2; omega, fun j x hj => ?_⟩
 have hjl := (List.getElem?_eq_some_iff.mp hj).1
 obtain ⟨g, cp, hv, _, _, _, _⟩ := own_pos h (by omega)
 injection hv with e1 e2 e3
 subst e1 e3
 have hget : ∀ i, i < 4 → (rawRow l)[j * 4 + i]? = (rawCells x)[i]? := fun i hi => by rw [Nat.mul_comm j 4]; exact flat_get rawCells 4 rawCells_length l j x i hj hi
 have hc : ∀ i u, i < 4 → (rawCells x)[i]? = some u → w.cell? ⟨g, j * 4 + i, none⟩ = some u := fun i u hi hu => own_cell h rfl ((hget i hi).trans hu)
 refine ⟨g, 0, rfl, ?_, ?_, ?_, ?_⟩
 ·have := hc 0 _ (by omega) rfl; rwa [Nat.zero_add]
 ·have := hc 1 _ (by omega) rfl; rwa [Nat.zero_add]
 ·have := hc 2 _ (by omega) rfl; rwa [Nat.zero_add]
 ·have := hc 3 _ (by omega) rfl; rwa [Nat.zero_add]

end Go.Proofs.YtloheacncefkgaaGreatDoor

/- The document's Right, All, Same, and what is small. Conditions: those that each theorem names. -/
namespace Go.Proofs.YtloheacncefkgaaGreatDoor
open Go.RowKit
set_option linter.unusedVariables false
set_option maxRecDepth 100000

theorem rraw_right (x : Rw) (w : World) : Calls Tryz.prog 85 #[rawV x] w fun e w' => e = .returned (.bool (okR x)) ∧ w' = w.alloc (.cells (rawCells x).toArray 93) := by
 obtain ⟨num, wire, n, s⟩ := x
 unfold rawV rawCells
 dsimp only
 have HR := Lib.hid (fun w => rright_any num wire w)
 cases hr : rightB num wire with
 | false =>
   rw [hr] at HR
   have HO : Hid (okR ⟨num, wire, n, s⟩ = false) := by show _ = _; simp [okR, hr]
   clear hr
   go_enter Tryz.func85, Tryz.ntmps85
   go_wp2_with (go_at_call 124; refine (HR.out _).mono ?_; rintro e w' ⟨rfl, rfl⟩)
   go_ret
   exact ⟨ret_bool' HO.out.symm, rfl⟩
 | true =>
   rw [hr] at HR
   by_cases h2 : wire = 2
   ·subst h2
    have HO : Hid (okR ⟨num, 2, n, s⟩ = ((n : Int) == 0)) := by show _ = _; simp [okR, hr]; by_cases h : n = 0 <;> simp [h]
    clear hr
    go_enter Tryz.func85, Tryz.ntmps85
    go_wp2_with (go_at_call 124; refine (HR.out _).mono ?_; rintro e w' ⟨rfl, rfl⟩)
    go_ret
    exact ⟨ret_bool' HO.out.symm, rfl⟩
   ·have g2 : (wire == 2) = false := beq_false_of_ne h2
    by_cases hs : s = []
    ·subst hs
     have e0 : strOf [] = ⟨#[]⟩ := rfl
     rw [e0]
     by_cases h5 : wire = 5
     ·subst h5
      have HO : Hid (okR ⟨num, 5, n, []⟩ = decide (n < 4294967296)) := by show _ = _; unfold okR; generalize decide (n < 4294967296) = b; simp [hr]
      clear hr
      by_cases hlt : n < 4294967296
      ·have g6 : decide ((n : Int) < 4294967296) = true := decide_eq_true (by omega)
       have HO2 : Hid (okR ⟨num, 5, n, []⟩ = true) := Lib.hid (HO.out.trans (decide_eq_true hlt))
       clear HO
       go_enter Tryz.func85, Tryz.ntmps85
       go_wp2_with (go_at_call 124; refine (HR.out _).mono ?_; rintro e w' ⟨rfl, rfl⟩)
       go_ret
       exact ⟨ret_bool' HO2.out.symm, rfl⟩
      ·have g6 : decide ((n : Int) < 4294967296) = false := decide_eq_false (by omega)
       have HO2 : Hid (okR ⟨num, 5, n, []⟩ = false) := Lib.hid (HO.out.trans (decide_eq_false hlt))
       clear HO
       go_enter Tryz.func85, Tryz.ntmps85
       go_wp2_with (go_at_call 124; refine (HR.out _).mono ?_; rintro e w' ⟨rfl, rfl⟩)
       go_ret
       exact ⟨ret_bool' HO2.out.symm, rfl⟩
     ·have g5 : (wire == 5) = false := beq_false_of_ne h5
      have HO : Hid (okR ⟨num, wire, n, []⟩ = true) := by show _ = _; simp [okR, hr, h2, h5]
      clear hr h2
      go_enter Tryz.func85, Tryz.ntmps85
      go_wp2_with (go_at_call 124; refine (HR.out _).mono ?_; rintro e w' ⟨rfl, rfl⟩)
      go_ret
      exact ⟨ret_bool' HO.out.symm, rfl⟩
    ·have e1 : (strOf s).toList = s := by rw [ByteArray.toList_eq]; simp [strOf]
     have g3 : (strOf s).toList.isEmpty = false := by rw [e1]; simpa using hs
     have g4 : ¬ (strOf s).toList = [] := by rw [e1]; exact hs
     have HO : Hid (okR ⟨num, wire, n, s⟩ = false) := by show _ = _; simp [okR, hr, h2, hs]
     obtain ⟨t, ht⟩ : ∃ t, t = strOf s := ⟨_, rfl⟩
     rw [← ht] at g3 g4 ⊢
     clear hr h2 hs ht e1
     go_enter Tryz.func85, Tryz.ntmps85
     go_wp2_with (go_at_call 124; refine (HR.out _).mono ?_; rintro e w' ⟨rfl, rfl⟩)
     go_ret
     exact ⟨ret_bool' HO.out.symm, rfl⟩
end Go.Proofs.YtloheacncefkgaaGreatDoor

/- The program's Right and Same of fields. Conditions: those that each theorem names. -/
namespace Go.Proofs.YtloheacncefkgaaGreatDoor
open Go.RowKit
set_option linter.unusedVariables false
set_option maxRecDepth 100000

theorem raw_right (x : Rw) (w : World) : Calls Tryz.prog 63 #[rawV x] w fun e w' => e = .returned (.bool (okR x)) ∧ w' = w.alloc (.cells (rawCells x).toArray 93) := by
 obtain ⟨num, wire, n, s⟩ := x
 unfold rawV rawCells
 dsimp only
 have HR := Lib.hid (fun w => right_any num wire w)
 cases hr : rightB num wire with
 | false =>
   rw [hr] at HR
   have HO : Hid (okR ⟨num, wire, n, s⟩ = false) := by show _ = _; simp [okR, hr]
   clear hr
   go_enter Tryz.func63, Tryz.ntmps63
   go_wp2_with (go_at_call 108; refine (HR.out _).mono ?_; rintro e w' ⟨rfl, rfl⟩)
   go_ret
   exact ⟨ret_bool' HO.out.symm, rfl⟩
 | true =>
   rw [hr] at HR
   by_cases h2 : wire = 2
   ·subst h2
    have HO : Hid (okR ⟨num, 2, n, s⟩ = ((n : Int) == 0)) := by show _ = _; simp [okR, hr]; by_cases h : n = 0 <;> simp [h]
    clear hr
    go_enter Tryz.func63, Tryz.ntmps63
    go_wp2_with (go_at_call 108; refine (HR.out _).mono ?_; rintro e w' ⟨rfl, rfl⟩)
    go_ret
    exact ⟨ret_bool' HO.out.symm, rfl⟩
   ·have g2 : (wire == 2) = false := beq_false_of_ne h2
    by_cases h5 : wire = 5
    ·subst h5
     by_cases hs : s = []
     ·subst hs
      have e0 : strOf [] = ⟨#[]⟩ := rfl
      rw [e0]
      have HO : Hid (okR ⟨num, 5, n, []⟩ = decide (n < 4294967296)) := by show _ = _; unfold okR; generalize decide (n < 4294967296) = b; simp [hr]
      clear hr
      by_cases hlt : n < 4294967296
      ·have g6 : decide ((n : Int) ≤ 4294967295) = true := decide_eq_true (by omega)
       have HO2 : Hid (okR ⟨num, 5, n, []⟩ = true) := Lib.hid (HO.out.trans (decide_eq_true hlt))
       clear HO
       go_enter Tryz.func63, Tryz.ntmps63
       go_wp2_with (go_at_call 108; refine (HR.out _).mono ?_; rintro e w' ⟨rfl, rfl⟩)
       go_ret
       exact ⟨ret_bool' HO2.out.symm, rfl⟩
      ·have g6 : decide ((n : Int) ≤ 4294967295) = false := decide_eq_false (by omega)
       have HO2 : Hid (okR ⟨num, 5, n, []⟩ = false) := Lib.hid (HO.out.trans (decide_eq_false hlt))
       clear HO
       go_enter Tryz.func63, Tryz.ntmps63
       go_wp2_with (go_at_call 108; refine (HR.out _).mono ?_; rintro e w' ⟨rfl, rfl⟩)
       go_ret
       exact ⟨ret_bool' HO2.out.symm, rfl⟩
     ·have e1 : (strOf s).toList = s := by rw [ByteArray.toList_eq]; simp [strOf]
      have g3 : (strOf s).toList.isEmpty = false := by rw [e1]; simpa using hs
      have g4 : ¬ (strOf s).toList = [] := by rw [e1]; exact hs
      have HO : Hid (okR ⟨num, 5, n, s⟩ = false) := by show _ = _; simp [okR, hr, hs]
      obtain ⟨t, ht⟩ : ∃ t, t = strOf s := ⟨_, rfl⟩
      rw [← ht] at g3 g4 ⊢
      clear hr h2 hs ht e1
      go_enter Tryz.func63, Tryz.ntmps63
      go_wp2_with (go_at_call 108; refine (HR.out _).mono ?_; rintro e w' ⟨rfl, rfl⟩)
      go_ret
      exact ⟨ret_bool' HO.out.symm, rfl⟩
    ·have g5 : (wire == 5) = false := beq_false_of_ne h5
     by_cases hs : s = []
     ·subst hs
      have e0 : strOf [] = ⟨#[]⟩ := rfl
      rw [e0]
      have HO : Hid (okR ⟨num, wire, n, []⟩ = true) := by show _ = _; simp [okR, hr, h2, h5]
      clear hr h2
      go_enter Tryz.func63, Tryz.ntmps63
      go_wp2_with (go_at_call 108; refine (HR.out _).mono ?_; rintro e w' ⟨rfl, rfl⟩)
      go_ret
      exact ⟨ret_bool' HO.out.symm, rfl⟩
     ·have e1 : (strOf s).toList = s := by rw [ByteArray.toList_eq]; simp [strOf]
      have g3 : (strOf s).toList.isEmpty = false := by rw [e1]; simpa using hs
      have g4 : ¬ (strOf s).toList = [] := by rw [e1]; exact hs
      have HO : Hid (okR ⟨num, wire, n, s⟩ = false) := by show _ = _; simp [okR, hr, h2, hs]
      obtain ⟨t, ht⟩ : ∃ t, t = strOf s := ⟨_, rfl⟩
      rw [← ht] at g3 g4 ⊢
      clear hr h2 hs ht e1
      go_enter Tryz.func63, Tryz.ntmps63
      go_wp2_with (go_at_call 108; refine (HR.out _).mono ?_; rintro e w' ⟨rfl, rfl⟩)
      go_ret
      exact ⟨ret_bool' HO.out.symm, rfl⟩

end Go.Proofs.YtloheacncefkgaaGreatDoor

/- Trees in memory: what is read, what is kept, what came in. Conditions: those that each theorem names. -/
namespace Go.Proofs.YtloheacncefkgaaGreatDoor
open Go.RowKit Go.ChangeShapes Go.WideShapes
set_option linter.unusedVariables false
set_option maxRecDepth 100000

def rwR (w : World) (cs : List Value) (x : Rw) : Prop := cs = rawCells x
def vaR (R : World → List Value → Tr → Prop) (S : Nat → Prop) (w : World) (cs : List Value) (x : Va) : Prop := ∃ A cap, cs = [.int .u64 (x.vn : Int), .string (strOf x.vs), .slice A x.vm.length cap] ∧ Lst 2 S R w A cap x.vm
def slR (R : World → List Value → Tr → Prop) (S : Nat → Prop) (w : World) (cs : List Value) (x : Slt) : Prop := ∃ A cap, cs = [.int .i64 x.snum, .slice A x.svals.length cap] ∧ Lst 3 S (vaR R S) w A cap x.svals
/-- A tree as it is handed over: its trees within read by R, its blocks are of S. -/
structure TrL (R : World → List Value → Tr → Prop) (S : Nat → Prop) (w : World) (A : Option Addr) (na ca : Nat) (A2 : Option Addr) (nr cr : Nat) (x : Tr) : Prop where
 t_s : Lst 2 S (slR R S) w A ca x.slots
 t_r : Lst 4 S rwR w A2 cr x.rest
 t_ns : na = x.slots.length
 t_nr : nr = x.rest.length
/-- A tree, down to a level. -/
def trR (S : Nat → Prop) : Nat → World → List Value → Tr → Prop
 | 0 => fun _ _ _ => False
 | n + 1 => fun w cs x => ∃ A na ca A2 nr cr, cs = [.slice A na ca, .slice A2 nr cr] ∧ TrL (trR S n) S w A na ca A2 nr cr x
/-- What lies in these blocks stays. -/
def Stay (S : Nat → Prop) (w wr : World) : Prop := ∀ p : Addr, S p.block → p.block < w.heap.size → wr.cell? p = w.cell? p
theorem stay_bel {S : Nat → Prop} {w wr : World} (hb : Below w.heap.size w wr) : Stay S w wr := fun p _ hp => hb.cell hp
theorem stay_refl (S : Nat → Prop) (w : World) : Stay S w w := fun _ _ _ => rfl
theorem stay_touch {S D : Nat → Prop} {w wr : World} (h : Touch D w wr) (hd : ∀ k, S k → ¬ D k) : Stay S w wr := fun p hs hp => h.cell hp (hd _ hs)
section
variable {S S' : Nat → Prop} {R R' : World → List Value → Tr → Prop} {w w' : World}
theorem vaR_keep (hR : ∀ cs t, R w cs t → R' w' cs t) (hS : ∀ g, S g → S' g) (hk : Stay S w w') : ∀ cs x, vaR R S w cs x → vaR R' S' w' cs x :=
 fun cs x ⟨A, cap, e, h⟩ => ⟨A, cap, e, lst_keep h hR hS hk⟩
theorem slR_keep (hR : ∀ cs t, R w cs t → R' w' cs t) (hS : ∀ g, S g → S' g) (hk : Stay S w w') : ∀ cs x, slR R S w cs x → slR R' S' w' cs x :=
 fun cs x ⟨A, cap, e, h⟩ => ⟨A, cap, e, lst_keep h (vaR_keep hR hS hk) hS hk⟩
theorem trL_keep {A A2 : Option Addr} {na ca nr cr : Nat} {x : Tr} (hR : ∀ cs t, R w cs t → R' w' cs t) (hS : ∀ g, S g → S' g) (hk : Stay S w w') (h : TrL R S w A na ca A2 nr cr x) : TrL R' S' w' A na ca A2 nr cr x :=
 ⟨lst_keep h.t_s (slR_keep hR hS hk) hS hk, lst_keep h.t_r (fun _ _ h => h) hS hk, h.t_ns, h.t_nr⟩
theorem trR_keep (hS : ∀ g, S g → S' g) (hk : Stay S w w') : ∀ (n : Nat) cs t, trR S n w cs t → trR S' n w' cs t
 | 0, _, _, h => h.elim
 | n + 1, _, _, ⟨A, na, ca, A2, nr, cr, e, h⟩ => ⟨A, na, ca, A2, nr, cr, e, trL_keep (trR_keep hS hk n) hS hk h⟩
theorem trR_up : ∀ (n : Nat) cs t, trR S n w cs t → trR S (n + 1) w cs t
 | 0, _, _, h => h.elim
 | n + 1, _, _, ⟨A, na, ca, A2, nr, cr, e, h⟩ => ⟨A, na, ca, A2, nr, cr, e, trL_keep (trR_up n) (fun _ h => h) (stay_refl _ _) h⟩
theorem trR_le {n m : Nat} (h : n ≤ m) : ∀ cs t, trR S n w cs t → trR S m w cs t := by
 induction h with
 | refl => exact fun _ _ h => h
 | step _ ih => exact fun cs t ht => trR_up _ _ _ (ih cs t ht)
/-- A tree whose trees within are read down to a level. -/
def TrAt (S : Nat → Prop) (n : Nat) (w : World) (A : Option Addr) (na ca : Nat) (A2 : Option Addr) (nr cr : Nat) (x : Tr) : Prop := TrL (trR S n) S w A na ca A2 nr cr x
theorem trAt_keep {n : Nat} {A A2 : Option Addr} {na ca nr cr : Nat} {x : Tr} (h : TrAt S n w A na ca A2 nr cr x) (hS : ∀ g, S g → S' g) (hk : Stay S w w') : TrAt S' n w' A na ca A2 nr cr x :=
 trL_keep (trR_keep hS hk n) hS hk h
theorem trAt_bel {n : Nat} {A A2 : Option Addr} {na ca nr cr : Nat} {x : Tr} (h : TrAt S n w A na ca A2 nr cr x) (hb : Below w.heap.size w w') : TrAt S n w' A na ca A2 nr cr x := trAt_keep h (fun _ h => h) (stay_bel hb)
theorem trAt_max {n : Nat} {A A2 : Option Addr} {na ca nr cr : Nat} {x : Tr} (h : TrAt S n w A na ca A2 nr cr x) : na ≤ ca ∧ ca ≤ 9223372036854775807 ∧ nr ≤ cr ∧ cr ≤ 9223372036854775807 := by
 have h1 := h.t_s.l_le
 have h2 := h.t_s.l_max
 have h3 := h.t_r.l_le
 have h4 := h.t_r.l_max
 unfold maxLen at h2 h4
 rw [← h.t_ns] at h1
 rw [← h.t_nr] at h3
 exact ⟨h1, h2, h3, h4⟩
/-- Values: their trees read down to a level. -/
def VsAt (S : Nat → Prop) (n : Nat) (w : World) (A : Option Addr) (c : Nat) (l : List Va) : Prop := Lst 3 S (vaR (trR S n) S) w A c l
theorem vsAt_keep {n : Nat} {A : Option Addr} {c : Nat} {l : List Va} (h : VsAt S n w A c l) (hS : ∀ g, S g → S' g) (hk : Stay S w w') : VsAt S' n w' A c l :=
 lst_keep h (vaR_keep (trR_keep hS hk n) hS hk) hS hk
theorem vsAt_bel {n : Nat} {A : Option Addr} {c : Nat} {l : List Va} (h : VsAt S n w A c l) (hb : Below w.heap.size w w') : VsAt S n w' A c l := vsAt_keep h (fun _ h => h) (stay_bel hb)
def KsAt (S : Nat → Prop) (n : Nat) (w : World) (A : Option Addr) (c : Nat) (l : List Tr) : Prop := Lst 2 S (trR S n) w A c l
theorem ksAt_bel {n : Nat} {A : Option Addr} {c : Nat} {l : List Tr} (h : KsAt S n w A c l) (hb : Below w.heap.size w w') : KsAt S n w' A c l := lst_keep h (trR_keep (fun _ h => h) (stay_bel hb) n) (fun _ h => h) (stay_bel hb)
theorem ksAt_keep {n : Nat} {A : Option Addr} {c : Nat} {l : List Tr} (h : KsAt S n w A c l) (hS : ∀ g, S g → S' g) (hk : Stay S w w') : KsAt S' n w' A c l := lst_keep h (trR_keep hS hk n) hS hk
end

section
variable {S : Nat → Prop} {n : Nat} {w : World} {A : Option Addr} {cap i : Nat}
theorem rw_at {l : List Rw} {x : Rw} (h : Lst 4 S rwR w A cap l) (hi : l[i]? = some x) : ∃ g off, A = some ⟨g, off, none⟩ ∧ S g ∧ ∀ wr, Stay S w wr → wr.cell? ⟨g, off + i * 4, none⟩ = some (.int .i64 x.num) ∧ wr.cell? ⟨g, off + i * 4 + 1, none⟩ = some (.int .i64 x.wire) ∧ wr.cell? ⟨g, off + i * 4 + 2, none⟩ = some (.int .u64 (x.n : Int)) ∧ wr.cell? ⟨g, off + i * 4 + 3, none⟩ = some (.string (strOf x.s)) := by
 obtain ⟨g, off, cs, e, hs, _, rfl, hc⟩ := h.l_at i x hi
 exact ⟨g, off, e, hs, fun wr hb => ⟨(hb _ hs (lt_of_cell (hc 0 _ rfl))).trans (hc 0 _ rfl), (hb _ hs (lt_of_cell (hc 0 _ rfl))).trans (hc 1 _ rfl), (hb _ hs (lt_of_cell (hc 0 _ rfl))).trans (hc 2 _ rfl), (hb _ hs (lt_of_cell (hc 0 _ rfl))).trans (hc 3 _ rfl)⟩⟩
theorem sl_at {l : List Slt} {x : Slt} (h : Lst 2 S (slR (trR S n) S) w A cap l) (hi : l[i]? = some x) : ∃ g off A1 c1, A = some ⟨g, off, none⟩ ∧ S g ∧ (∀ wr, Stay S w wr → wr.cell? ⟨g, off + i * 2, none⟩ = some (.int .i64 x.snum) ∧ wr.cell? ⟨g, off + i * 2 + 1, none⟩ = some (.slice A1 x.svals.length c1)) ∧ VsAt S n w A1 c1 x.svals := by
 obtain ⟨g, off, cs, e, hs, _, ⟨A1, c1, rfl, h1⟩, hc⟩ := h.l_at i x hi
 exact ⟨g, off, A1, c1, e, hs, fun wr hb => ⟨(hb _ hs (lt_of_cell (hc 0 _ rfl))).trans (hc 0 _ rfl), (hb _ hs (lt_of_cell (hc 0 _ rfl))).trans (hc 1 _ rfl)⟩, h1⟩
theorem va_at {l : List Va} {x : Va} (h : VsAt S n w A cap l) (hi : l[i]? = some x) : ∃ g off A1 c1, A = some ⟨g, off, none⟩ ∧ S g ∧ (∀ wr, Stay S w wr → wr.cell? ⟨g, off + i * 3, none⟩ = some (.int .u64 (x.vn : Int)) ∧ wr.cell? ⟨g, off + i * 3 + 1, none⟩ = some (.string (strOf x.vs)) ∧ wr.cell? ⟨g, off + i * 3 + 2, none⟩ = some (.slice A1 x.vm.length c1)) ∧ KsAt S n w A1 c1 x.vm := by
 obtain ⟨g, off, cs, e, hs, _, ⟨A1, c1, rfl, h1⟩, hc⟩ := h.l_at i x hi
 exact ⟨g, off, A1, c1, e, hs, fun wr hb => ⟨(hb _ hs (lt_of_cell (hc 0 _ rfl))).trans (hc 0 _ rfl), (hb _ hs (lt_of_cell (hc 0 _ rfl))).trans (hc 1 _ rfl), (hb _ hs (lt_of_cell (hc 0 _ rfl))).trans (hc 2 _ rfl)⟩, h1⟩
theorem kid_at {l : List Tr} {x : Tr} (h : KsAt S n w A cap l) (hi : l[i]? = some x) : ∃ m g off A1 na c1 A2 nr c2, n = m + 1 ∧ A = some ⟨g, off, none⟩ ∧ S g ∧ (∀ wr, Stay S w wr → wr.cell? ⟨g, off + i * 2, none⟩ = some (.slice A1 na c1) ∧ wr.cell? ⟨g, off + i * 2 + 1, none⟩ = some (.slice A2 nr c2)) ∧ TrAt S m w A1 na c1 A2 nr c2 x := by
 obtain ⟨g, off, cs, e, hs, _, hr, hc⟩ := h.l_at i x hi
 match n, hr with
 | m + 1, ⟨A1, na, c1, A2, nr, c2, e2, h1⟩ =>
   subst e2
   exact ⟨m, g, off, A1, na, c1, A2, nr, c2, rfl, e, hs, fun wr hb => ⟨(hb _ hs (lt_of_cell (hc 0 _ rfl))).trans (hc 0 _ rfl), (hb _ hs (lt_of_cell (hc 0 _ rfl))).trans (hc 1 _ rfl)⟩, h1⟩
/-- The blocks were there. -/
theorem lst_lt {α : Type} {k : Nat} {R R' : World → List Value → α → Prop} {l : List α} (hk : 0 < k) (h : Lst k S R w A cap l) (hR : ∀ cs x, R w cs x → R' w cs x) : Lst k (fun g => S g ∧ g < w.heap.size) R' w A cap l :=
 ⟨h.l_le, h.l_max, h.l_nil, fun j x hj => by
  obtain ⟨g, off, cs, e, hg, hl, hr, hc⟩ := h.l_at j x hj
  exact ⟨g, off, cs, e, ⟨hg, World.block_lt_of_cell? w ⟨g, off + j * k + 0, none⟩ (hc 0 _ (List.getElem?_eq_getElem (by omega)))⟩, hl, hR cs x hr, hc⟩⟩
theorem trR_lt : ∀ (n : Nat) cs t, trR S n w cs t → trR (fun g => S g ∧ g < w.heap.size) n w cs t
 | 0, _, _, h => h.elim
 | n + 1, _, _, ⟨A, na, ca, A2, nr, cr, e, h⟩ => ⟨A, na, ca, A2, nr, cr, e, lst_lt (by decide) h.t_s (fun cs x ⟨A, c, e, h⟩ => ⟨A, c, e, lst_lt (by decide) h (fun cs x ⟨A, c, e, h⟩ => ⟨A, c, e, lst_lt (by decide) h (trR_lt n)⟩)⟩), lst_lt (by decide) h.t_r (fun _ _ h => h), h.t_ns, h.t_nr⟩
theorem trAt_lt {na ca nr cr : Nat} {A2 : Option Addr} {x : Tr} (h : TrAt S n w A na ca A2 nr cr x) : TrAt (fun g => S g ∧ g < w.heap.size) n w A na ca A2 nr cr x :=
 ⟨lst_lt (by decide) h.t_s (fun cs x ⟨A, c, e, h⟩ => ⟨A, c, e, lst_lt (by decide) h (fun cs x ⟨A, c, e, h⟩ => ⟨A, c, e, lst_lt (by decide) h (trR_lt n)⟩)⟩), lst_lt (by decide) h.t_r (fun _ _ h => h), h.t_ns, h.t_nr⟩
theorem raws_of {l : List Rw} (h : Lst 4 S rwR w A cap l) : Raws w A cap l :=
 ⟨h.l_le, by have := h.l_max; unfold maxLen at this; omega, fun j x hj => by
  obtain ⟨g, off, e, _, hc⟩ := rw_at h hj
  obtain ⟨c0, c1, c2, c3⟩ := hc w (stay_refl _ _)
  exact ⟨g, off, e, c0, c1, c2, c3⟩⟩
end

/-- As lst_came, the readers' depth told. -/
theorem lst_came2 {α : Type} [Inhabited α] {H : Type} {enc : TypeId × Value → H} {P : Program} {w : World} {base : Nat} {spare : Nat → Bool} {held : Bool} {t e : TypeId} {k M : Nat} {R : World → List Value → α → Prop} {Ok : α → Prop} {fuel : Nat}
 (hu : P.underlying t = some (.slice e)) (ce : P.cellsOf e = k) (hk : 0 < k) (hby : 1 ≤ P.bytesOf e)
 (each : ∀ n, n < fuel → ∀ cs (x : DataW H × List MemPlace), DataW.trod enc P w base spare held n e cs = some x → (∀ n ∈ x.1.weights P e, n ≤ M) → ∃ v : α, R w cs v ∧ Ok v)
 {cs : List Value} {x : DataW H × List MemPlace} (h : DataW.trod enc P w base spare held fuel t cs = some x) (hz : ∀ n ∈ x.1.weights P t, n ≤ M) :
 ∃ (l : List α) (A : Option Addr) (cap : Nat), cs = [.slice A l.length cap] ∧ Lst k (fun g => g < w.heap.size) R w A cap l ∧ (∀ v ∈ l, Ok v) ∧ l.length ≤ M := by
 rcases DataW.trod_slice hu h with ⟨rfl, _⟩ | ⟨a, len, cap, elems, rest, n, hf, rfl, rfl, hb, hl, hm, hlen, hel, _, _⟩
 ·exact ⟨[], none, 0, rfl, lst_empty _ _ _ (by decide) (fun _ => rfl), by simp, Nat.zero_le _⟩
 have hw : ∀ n ∈ ((elems.map (·.1)).length + (rest.map (·.1)).length) * P.bytesOf e :: (DataW.weightsAll P e (elems.map (·.1)) ++ DataW.weightsAll P e (rest.map (·.1))), n ≤ M := by
  intro n hn
  apply hz
  simp only [DataW.weights, hu]
  exact hn
 have hlM : len ≤ M := by
  have h1 := hw _ (List.mem_cons_self)
  rw [List.length_map, List.length_map, hlen] at h1
  have h2 : len * 1 ≤ (len + rest.length) * P.bytesOf e := Nat.mul_le_mul (by omega) hby
  omega
 have one : ∀ i, i < len → ∃ v : α, ∃ cs', cs'.length = k ∧ R w cs' v ∧ Ok v ∧ ∀ j u, cs'[j]? = some u → w.cell? ((a.add (i * k)).add j) = some u := by
  intro i hi
  have h0 := hel i hi
  rw [List.getElem?_eq_getElem (by omega)] at h0
  obtain ⟨cs', h1, h2⟩ := Option.bind_eq_some_iff.1 h0
  rw [ce] at h1
  obtain ⟨_, hlen', hcell⟩ := World.cells?_some h1
  obtain ⟨v, hr, ho⟩ := each n (by omega) _ _ h2 (fun n hn => hw n (List.mem_cons_of_mem _ (List.mem_append_left _ (weights_all (List.mem_map.mpr ⟨_, List.getElem_mem _, rfl⟩) n hn))))
  refine ⟨v, cs', hlen', hr, ho, fun j u hu => ?_⟩
  have hj := (List.getElem?_eq_some_iff.mp hu).1
  have := hcell j (by omega)
  rw [this, List.getElem?_eq_getElem hj] at *
  simpa using hu
 obtain ⟨q, hq⟩ : ∃ f : Nat → α, ∀ i, i < len → ∃ cs', cs'.length = k ∧ R w cs' (f i) ∧ Ok (f i) ∧ ∀ j u, cs'[j]? = some u → w.cell? ((a.add (i * k)).add j) = some u := Deep.choose_lt one
 refine ⟨(List.range len).map q, some a, cap, by simp, ⟨by simpa using hl, hm, (fun hA => by cases hA), fun j c hj => ?_⟩, fun c hc => ?_, by simpa using hlM⟩
 ·have hjl : j < len := by have := (List.getElem?_eq_some_iff.mp hj).1; simpa using this
  have hc : c = q j := by simp [hjl] at hj; exact hj.symm
  subst hc
  obtain ⟨cs', hlen, hr, _, hcell⟩ := hq j hjl
  obtain ⟨cs0, hlen0, _, _, hcell0⟩ := hq 0 (by omega)
  have h0 : ∃ u, cs0[0]? = some u := ⟨_, List.getElem?_eq_getElem (by omega)⟩
  obtain ⟨u, hu⟩ := h0
  have hc0 := hcell0 0 u hu
  rw [Nat.zero_mul] at hc0
  have ha0 : ((a.add 0).add 0) = a.add 0 := by unfold Addr.add; simp
  rw [ha0] at hc0
  obtain ⟨b, off, rfl, e⟩ := plain_addr hc0
  refine ⟨b, off, cs', rfl, World.block_lt_of_cell? w _ hc0, hlen, hr, fun i u hu => ?_⟩
  have := hcell i u hu
  rw [Deep.add_add, e] at this
  rw [Nat.add_assoc]
  exact this
 ·obtain ⟨j, hj, rfl⟩ := List.mem_map.mp hc
  obtain ⟨_, _, _, ho, _⟩ := hq j (by simpa using hj)
  exact ho

instance : Inhabited Rw := ⟨⟨0, 0, 0, []⟩⟩
section
variable {H : Type} {enc : TypeId × Value → H} {w : World} {base : Nat} {spare : Nat → Bool} {held : Bool}
def mxL : Nat := 140737488351232
theorem ct_int : Tryz.prog.cellsOf 3 = 1 := by kernel_rfl
theorem ct_u64 : Tryz.prog.cellsOf 61 = 1 := by kernel_rfl
theorem ct_str : Tryz.prog.cellsOf 9 = 1 := by kernel_rfl
theorem ct_Rw : Tryz.prog.cellsOf 93 = 4 := by kernel_rfl
theorem ct_Va : Tryz.prog.cellsOf 64 = 3 := by kernel_rfl
theorem ct_Sl : Tryz.prog.cellsOf 67 = 2 := by kernel_rfl
theorem ct_Tr : Tryz.prog.cellsOf 29 = 2 := by kernel_rfl
theorem ct_lTr : Tryz.prog.cellsOf 62 = 1 := by kernel_rfl
theorem ct_lVa : Tryz.prog.cellsOf 65 = 1 := by kernel_rfl
theorem ct_lSl : Tryz.prog.cellsOf 26 = 1 := by kernel_rfl
theorem ct_lRw : Tryz.prog.cellsOf 27 = 1 := by kernel_rfl
theorem bt_Rw : 1 ≤ Tryz.prog.bytesOf 93 := of_decide_eq_true (by kernel_rfl)
theorem bt_Va : 1 ≤ Tryz.prog.bytesOf 64 := of_decide_eq_true (by kernel_rfl)
theorem bt_Sl : 1 ≤ Tryz.prog.bytesOf 67 := of_decide_eq_true (by kernel_rfl)
theorem bt_Tr : 1 ≤ Tryz.prog.bytesOf 29 := of_decide_eq_true (by kernel_rfl)
theorem st_data (s : ByteArray) : s = strOf s.data.toList := by cases s; simp [strOf]
theorem rwt_came (fuel : Nat) : ∀ cs (x : DataW H × List MemPlace), DataW.trod enc Tryz.prog w base spare held fuel 93 cs = some x → (∀ n ∈ x.1.weights Tryz.prog 93, n ≤ mxL) → ∃ v : Rw, rwR w cs v ∧ (v.s.length ≤ mxL ∧ v.n < 18446744073709551616) := by
 intro cs x h hz
 obtain ⟨ys, m, _, rfl, hl, hn, he⟩ := DataW.trod_struct Tryz.underlying93 h
 rw [ct_Rw] at hl
 match cs, hl, ys, hn with
 | [v0, v1, v2, v3], _, [y0, y1, y2, y3], _ =>
   have hw : ∀ n ∈ DataW.weightsEach Tryz.prog [3, 3, 61, 9] [y0.1, y1.1, y2.1, y3.1], n ≤ mxL := by
    intro n hn
    apply hz
    simp only [DataW.weights, Tryz.underlying93]
    exact hn
   have g0 : DataW.trod enc Tryz.prog w base spare held m 3 (([v0, v1, v2, v3].drop 0).take (Tryz.prog.cellsOf 3)) = some y0 := he 0 _ rfl
   have g1 : DataW.trod enc Tryz.prog w base spare held m 3 (([v0, v1, v2, v3].drop 1).take (Tryz.prog.cellsOf 3)) = some y1 := he 1 _ rfl
   have g2 : DataW.trod enc Tryz.prog w base spare held m 61 (([v0, v1, v2, v3].drop 2).take (Tryz.prog.cellsOf 61)) = some y2 := he 2 _ rfl
   have g3 : DataW.trod enc Tryz.prog w base spare held m 9 (([v0, v1, v2, v3].drop 3).take (Tryz.prog.cellsOf 9)) = some y3 := he 3 _ rfl
   have w3 : ∀ n ∈ y3.1.weights Tryz.prog 9, n ≤ mxL := fun n hn => hw n (DataW.weights_mem_each (j := 3) rfl rfl n hn)
   rw [ct_int] at g0 g1
   rw [ct_u64] at g2
   rw [ct_str] at g3
   simp only [List.drop_zero, List.drop_succ_cons, List.take_succ_cons, List.take_zero] at g0 g1 g2 g3
   obtain ⟨n0, q0, _, _⟩ := DataW.trod_int Tryz.underlying3 g0
   obtain ⟨n1, q1, _, _⟩ := DataW.trod_int Tryz.underlying3 g1
   obtain ⟨n2, q2, _, b2⟩ := DataW.trod_int Tryz.underlying61 g2
   obtain ⟨s3, q3, z3, _⟩ := DataW.trod_string Tryz.underlying9 g3
   have b3 : s3.data.toList.length ≤ mxL := by have := w3 s3.data.toList.length; rw [z3] at this; exact this (by simp [DataW.weights])
   obtain ⟨m2, rfl, hm2⟩ := u64_came b2
   simp only [List.cons.injEq, and_true] at q0 q1 q2 q3
   subst q0 q1 q2 q3
   exact ⟨⟨n0, n1, m2, s3.data.toList⟩, by unfold rwR rawCells; dsimp only; rw [← st_data], ⟨b3, hm2⟩⟩
/-- What all trees that come in are, whatever their depth. -/
def OkT (x : Tr) : Prop := ∀ m, OkN m x
theorem vat_came (fuel : Nat) (N : Nat) (ih : ∀ n, n < fuel → ∀ cs (x : DataW H × List MemPlace), DataW.trod enc Tryz.prog w base spare held n 29 cs = some x → (∀ n ∈ x.1.weights Tryz.prog 29, n ≤ mxL) → ∃ v : Tr, trR (fun g => g < w.heap.size) N w cs v ∧ OkT v) :
 ∀ cs (x : DataW H × List MemPlace), DataW.trod enc Tryz.prog w base spare held fuel 64 cs = some x → (∀ n ∈ x.1.weights Tryz.prog 64, n ≤ mxL) → ∃ v : Va, vaR (trR (fun g => g < w.heap.size) N) (fun g => g < w.heap.size) w cs v ∧ (v.vs.length ≤ mxL ∧ v.vn < 18446744073709551616) ∧ v.vm.length ≤ mxL ∧ ∀ u ∈ v.vm, OkT u := by
 intro cs x h hz
 obtain ⟨ys, m, hf, rfl, hl, hn, he⟩ := DataW.trod_struct Tryz.underlying64 h
 rw [ct_Va] at hl
 match cs, hl, ys, hn with
 | [v0, v1, v2], _, [y0, y1, y2], _ =>
   have hw : ∀ n ∈ DataW.weightsEach Tryz.prog [61, 9, 62] [y0.1, y1.1, y2.1], n ≤ mxL := by
    intro n hn
    apply hz
    simp only [DataW.weights, Tryz.underlying64]
    exact hn
   have g0 : DataW.trod enc Tryz.prog w base spare held m 61 (([v0, v1, v2].drop 0).take (Tryz.prog.cellsOf 61)) = some y0 := he 0 _ rfl
   have g1 : DataW.trod enc Tryz.prog w base spare held m 9 (([v0, v1, v2].drop 1).take (Tryz.prog.cellsOf 9)) = some y1 := he 1 _ rfl
   have g2 : DataW.trod enc Tryz.prog w base spare held m 62 (([v0, v1, v2].drop 2).take (Tryz.prog.cellsOf 62)) = some y2 := he 2 _ rfl
   have w1 : ∀ n ∈ y1.1.weights Tryz.prog 9, n ≤ mxL := fun n hn => hw n (DataW.weights_mem_each (j := 1) rfl rfl n hn)
   have w2 : ∀ n ∈ y2.1.weights Tryz.prog 62, n ≤ mxL := fun n hn => hw n (DataW.weights_mem_each (j := 2) rfl rfl n hn)
   rw [ct_u64] at g0
   rw [ct_str] at g1
   rw [ct_lTr] at g2
   simp only [List.drop_zero, List.drop_succ_cons, List.take_succ_cons, List.take_zero] at g0 g1 g2
   obtain ⟨n0, q0, _, b0⟩ := DataW.trod_int Tryz.underlying61 g0
   obtain ⟨s1, q1, z1, _⟩ := DataW.trod_string Tryz.underlying9 g1
   have b1 : s1.data.toList.length ≤ mxL := by have := w1 s1.data.toList.length; rw [z1] at this; exact this (by simp [DataW.weights])
   obtain ⟨l2, A2, c2, q2, h2, o2, k2⟩ := lst_came2 (k := 2) (M := mxL) Tryz.underlying62 ct_Tr (by decide) bt_Tr (fun n hn => ih n (by omega)) g2 w2
   obtain ⟨m0, rfl, hm0⟩ := u64_came b0
   simp only [List.cons.injEq, and_true] at q0 q1 q2
   subst q0 q1 q2
   exact ⟨⟨m0, s1.data.toList, l2⟩, ⟨A2, c2, by dsimp only; rw [← st_data], h2⟩, ⟨b1, hm0⟩, k2, o2⟩
theorem slt_came (fuel : Nat) (N : Nat) (ih : ∀ n, n < fuel → ∀ cs (x : DataW H × List MemPlace), DataW.trod enc Tryz.prog w base spare held n 29 cs = some x → (∀ n ∈ x.1.weights Tryz.prog 29, n ≤ mxL) → ∃ v : Tr, trR (fun g => g < w.heap.size) N w cs v ∧ OkT v) :
 ∀ cs (x : DataW H × List MemPlace), DataW.trod enc Tryz.prog w base spare held fuel 67 cs = some x → (∀ n ∈ x.1.weights Tryz.prog 67, n ≤ mxL) → ∃ v : Slt, slR (trR (fun g => g < w.heap.size) N) (fun g => g < w.heap.size) w cs v ∧ v.svals.length ≤ mxL ∧ ∀ u ∈ v.svals, (u.vs.length ≤ mxL ∧ u.vn < 18446744073709551616) ∧ u.vm.length ≤ mxL ∧ ∀ t ∈ u.vm, OkT t := by
 intro cs x h hz
 obtain ⟨ys, m, hf, rfl, hl, hn, he⟩ := DataW.trod_struct Tryz.underlying67 h
 rw [ct_Sl] at hl
 match cs, hl, ys, hn with
 | [v0, v1], _, [y0, y1], _ =>
   have hw : ∀ n ∈ DataW.weightsEach Tryz.prog [3, 65] [y0.1, y1.1], n ≤ mxL := by
    intro n hn
    apply hz
    simp only [DataW.weights, Tryz.underlying67]
    exact hn
   have g0 : DataW.trod enc Tryz.prog w base spare held m 3 (([v0, v1].drop 0).take (Tryz.prog.cellsOf 3)) = some y0 := he 0 _ rfl
   have g1 : DataW.trod enc Tryz.prog w base spare held m 65 (([v0, v1].drop 1).take (Tryz.prog.cellsOf 65)) = some y1 := he 1 _ rfl
   have w1 : ∀ n ∈ y1.1.weights Tryz.prog 65, n ≤ mxL := fun n hn => hw n (DataW.weights_mem_each (j := 1) rfl rfl n hn)
   rw [ct_int] at g0
   rw [ct_lVa] at g1
   simp only [List.drop_zero, List.drop_succ_cons, List.take_succ_cons, List.take_zero] at g0 g1
   obtain ⟨n0, q0, _, _⟩ := DataW.trod_int Tryz.underlying3 g0
   obtain ⟨l1, A1, c1, q1, h1, o1, k1⟩ := lst_came2 (k := 3) (M := mxL) Tryz.underlying65 ct_Va (by decide) bt_Va (fun n hn => vat_came n N (fun q hq => ih q (by omega))) g1 w1
   simp only [List.cons.injEq, and_true] at q0 q1
   subst q0 q1
   exact ⟨⟨n0, l1⟩, ⟨A1, c1, rfl, h1⟩, k1, o1⟩
theorem tr_came : ∀ (fuel : Nat) cs (x : DataW H × List MemPlace), DataW.trod enc Tryz.prog w base spare held fuel 29 cs = some x → (∀ n ∈ x.1.weights Tryz.prog 29, n ≤ mxL) → ∃ v : Tr, trR (fun g => g < w.heap.size) fuel w cs v ∧ OkT v := by
 intro fuel
 induction fuel using Nat.strongRecOn with
 | ind fuel ih =>
   intro cs x h hz
   obtain ⟨ys, m, hf, rfl, hl, hn, he⟩ := DataW.trod_struct Tryz.underlying29 h
   subst hf
   rw [ct_Tr] at hl
   match cs, hl, ys, hn with
   | [v0, v1], _, [y0, y1], _ =>
     have hw : ∀ n ∈ DataW.weightsEach Tryz.prog [26, 27] [y0.1, y1.1], n ≤ mxL := by
      intro n hn
      apply hz
      simp only [DataW.weights, Tryz.underlying29]
      exact hn
     have g0 : DataW.trod enc Tryz.prog w base spare held m 26 (([v0, v1].drop 0).take (Tryz.prog.cellsOf 26)) = some y0 := he 0 _ rfl
     have g1 : DataW.trod enc Tryz.prog w base spare held m 27 (([v0, v1].drop 1).take (Tryz.prog.cellsOf 27)) = some y1 := he 1 _ rfl
     have w0 : ∀ n ∈ y0.1.weights Tryz.prog 26, n ≤ mxL := fun n hn => hw n (DataW.weights_mem_each (j := 0) rfl rfl n hn)
     have w1 : ∀ n ∈ y1.1.weights Tryz.prog 27, n ≤ mxL := fun n hn => hw n (DataW.weights_mem_each (j := 1) rfl rfl n hn)
     rw [ct_lSl] at g0
     rw [ct_lRw] at g1
     simp only [List.drop_zero, List.drop_succ_cons, List.take_succ_cons, List.take_zero] at g0 g1
     have ih2 : ∀ n, n < m → ∀ cs (x : DataW H × List MemPlace), DataW.trod enc Tryz.prog w base spare held n 29 cs = some x → (∀ n ∈ x.1.weights Tryz.prog 29, n ≤ mxL) → ∃ v : Tr, trR (fun g => g < w.heap.size) m w cs v ∧ OkT v := fun q hq cs x h hz =>
      (ih q (by omega) cs x h hz).elim fun v hv => ⟨v, trR_le (by omega) _ _ hv.1, hv.2⟩
     obtain ⟨l0, A0, c0, q0, h0, o0, k0⟩ := lst_came2 (k := 2) (M := mxL) Tryz.underlying26 ct_Sl (by decide) bt_Sl (fun n hn => slt_came n m (fun q hq => ih2 q (by omega))) g0 w0
     obtain ⟨l1, A1, c1, q1, h1, o1, k1⟩ := lst_came2 (k := 4) (M := mxL) Tryz.underlying27 ct_Rw (by decide) bt_Rw (fun n _ => rwt_came n) g1 w1
     simp only [List.cons.injEq, and_true] at q0 q1
     subst q0 q1
     refine ⟨.mk l0 l1, ⟨A0, l0.length, c0, A1, l1.length, c1, rfl, h0, h1, rfl, rfl⟩, fun k => ?_⟩
     cases k with
     | zero => trivial
     | succ k => exact ⟨k0, k1, o1, fun s hs => ⟨(o0 s hs).1, fun v hv => ⟨((o0 s hs).2 v hv).1, ((o0 s hs).2 v hv).2.1, fun u hu => ((o0 s hs).2 v hv).2.2 u hu k⟩⟩⟩
end
end Go.Proofs.YtloheacncefkgaaGreatDoor

/- A tree, and a value, that came in by value. Conditions: those that each theorem names. -/
namespace Go.Proofs.YtloheacncefkgaaGreatDoor
open Go.RowKit
set_option linter.unusedVariables false
set_option maxRecDepth 100000

theorem tree_came {H : Type} {enc : TypeId × Value → H} {w : World} {base : Nat} {spare : Nat → Bool} {held : Bool} {fuel : Nat} {cs : List Value} {x : DataW H × List MemPlace} (h : DataW.trod enc Tryz.prog w base spare held fuel 29 cs = some x) (hz : ∀ n ∈ x.1.weights Tryz.prog 29, n ≤ mxL) :
 ∃ (t : Tr) (n : Nat) (A : Option Addr) (na ca : Nat) (B : Option Addr) (nb cb : Nat), cs = [.slice A na ca, .slice B nb cb] ∧ TrAt (fun g => g < w.heap.size) n w A na ca B nb cb t ∧ OkT t := by
 obtain ⟨t, ht, ho⟩ := tr_came fuel cs x h hz
 match fuel, ht with
 | n + 1, ⟨A, na, ca, B, nb, cb, e, h⟩ => exact ⟨t, n, A, na, ca, B, nb, cb, e, h, ho⟩
end Go.Proofs.YtloheacncefkgaaGreatDoor

/- The document's layer 19: which trees are small. Conditions: those that each theorem names. -/
namespace Go.Proofs.YtloheacncefkgaaGreatDoor
open Go.RowKit
set_option linter.unusedVariables false
set_option maxRecDepth 100000

theorem rt_ret_i64 {a b : Int} (h : a = b) : Ending.returned (.int .i64 a) = .returned (.int .i64 b) := by rw [h]
theorem int_same {a b : Int} (h : a = b) : Value.int .i64 a = .int .i64 b := by rw [h]
theorem st_size (l : List UInt8) : (strOf l).size = l.length := by simp [strOf, ByteArray.size]
def LeftOk (k : Nat) : Prop := ∀ (S : Nat → Prop) (w : World) (A : Option Addr) (na ca : Nat) (A2 : Option Addr) (nr cr : Nat) (x : Tr) (n d : Int),
 TrAt S k w A na ca A2 nr cr x → OkN (k + 1) x → -1 ≤ n → n ≤ 400 → -1 ≤ d → d ≤ 1000 →
  Calls Tryz.prog 26 #[.agg #[.slice A na ca, .slice A2 nr cr], .int .i64 n, .int .i64 d] w fun e w' => e = .returned (.int .i64 (leftN (k + 1) x n d)) ∧ Below w.heap.size w w'

set_option maxHeartbeats 8000000 in
theorem rleft_step {k : Nat} (H : ∀ q, k = q + 1 → LeftOk q) : LeftOk k := by
 intro S w A na ca A2 nr cr x n d h ho n1 n2 d1 d2
 obtain ⟨q1, q2, q3, q4⟩ := trAt_max h
 obtain ⟨o1, o2, o3, o4⟩ := ho
 rw [← h.t_ns] at o1
 rw [← h.t_nr] at o2
 have HA := Lib.hid h
 have HO3 := Lib.hid o3
 have HO4 := Lib.hid o4
 have HL := Lib.hid H
 have HBX := Lib.hid (bx_start w #[.slice A na ca, .slice A2 nr cr] 29)
 have r0 := obj_cell (HBX.out).b_blk 0
 have r1 := obj_cell (HBX.out).b_blk 1
 have HR : Hid (leftN (k + 1) x n d = if d ≤ 0 then -1 else leftS (fun u m => leftN k u m (d - 1)) (foldG remR (n - (nr : Int) - (na : Int)) x.rest) x.slots) := Lib.hid (by rw [h.t_ns, h.t_nr]; rfl)
 clear o3 o4 H h
 by_cases hd : d ≤ 0
 ·have td : decide (d ≤ 0) = true := decide_eq_true hd
  have HO : Hid (leftN (k + 1) x n d = -1) := Lib.hid (by rw [HR.out, if_pos hd])
  go_enter Tryz.func26, Tryz.ntmps26
  go_wp2
  go_ret
  exact ⟨rt_ret_i64 HO.out.symm, HBX.out.b_bel⟩
 obtain ⟨lf, hlf⟩ : ∃ lf, lf = (fun (u : Tr) (m : Int) => leftN k u m (d - 1)) := ⟨_, rfl⟩
 have HV : Hid (leftN (k + 1) x n d = leftS lf (foldG remR (n - (nr : Int) - (na : Int)) x.rest) x.slots) := Lib.hid (by rw [HR.out, if_neg hd, hlf])
 have HLF := Lib.hid hlf
 have td : decide (d ≤ 0) = false := decide_eq_false hd
 have d3 : 1 ≤ d := by omega
 clear HR hlf
 go_enter Tryz.func26, Tryz.ntmps26
 go_wp2
 clear r0 r1
 go_loopg [1, 7] nr (fun gz x0 x1 wr => ∃ (j : Nat) (m : Int), x0 = .int .i64 m ∧ x1 = .int .i64 (j : Int) ∧ j + gz = nr ∧ m = foldG remR (n - (nr : Int) - (na : Int)) (x.rest.take j) ∧ -281474976710656 ≤ m ∧ m ≤ 400 ∧ Bx w wr (.cells #[.slice A na ca, .slice A2 nr cr] 29 (0, 0)))
 case atStart => exact ⟨0, n - (nr : Int) - (na : Int), rfl, rfl, by omega, rfl, by omega, by omega, HBX.out⟩
 case round =>
  obtain ⟨j, m, rfl, rfl, hj, hm, m1, m2, hbx⟩ := hrel
  have HM := Lib.hid hm
  have HBX := Lib.hid hbx
  clear hm hbx
  obtain ⟨g0, hg0⟩ : ∃ g0, g0 = gk := ⟨_, rfl⟩
  subst hg0
  have r0 := obj_cell HBX.out.b_blk 0
  have r1 := obj_cell HBX.out.b_blk 1
  by_cases hlt : j < nr
  ·have tj : decide ((j : Int) < (nr : Int)) = true := decide_eq_true (by omega)
   by_cases hm0 : 0 ≤ m
   ·have tm : decide (0 ≤ m) = true := decide_eq_true hm0
    obtain ⟨r, hr⟩ : ∃ r, x.rest[j]? = some r := ⟨_, List.getElem?_eq_getElem (by have := HA.out.t_nr; omega)⟩
    obtain ⟨g, off, rfl, _, hc⟩ := rw_at HA.out.t_r hr
    obtain ⟨-, -, -, c3⟩ := hc _ (stay_bel HBX.out.b_bel)
    have hs := HO3.out r (List.mem_of_getElem? hr)
    have HT := Lib.hid (foldG_take remR (n - (nr : Int) - (na : Int)) hr (by rw [← HM.out]; exact hm0))
    obtain ⟨st, hst⟩ : ∃ z, z = strOf r.s := ⟨_, rfl⟩
    have hz : st.size = r.s.length := by rw [hst, st_size]
    rw [← hst] at c3
    obtain ⟨lz, hlz⟩ : ∃ z, z = r.s.length := ⟨_, rfl⟩
    rw [← hlz] at hs hz
    have hzl : st.size ≤ 140737488351232 := by omega
    have HZ := Lib.hid hz
    have HLZ := Lib.hid hlz
    clear hr hc hst hlz hz hs
    go_wp2
    go_roundg (g0 - 1)
    case measure => omega
    case rel => exact ⟨j + 1, remR m r, int_same (by unfold remR; rw [← HLZ.out]; have := HZ.out; omega), by go_num, by omega, by rw [HT.out, ← HM.out], by unfold remR; rw [← HLZ.out]; have := HZ.out; omega, by unfold remR; omega, HBX.out⟩
   ·have tm : decide (0 ≤ m) = false := decide_eq_false hm0
    have HF : Hid (leftN (k + 1) x n d = m) := Lib.hid (by rw [HV.out, foldG_stop remR _ (i := j) (by rw [← HM.out]; omega), ← HM.out]; unfold leftS; exact foldG_neg _ (by omega) _)
    go_wp2
    go_loopg [1, 8] 0 (fun gz x1 x0 wr => x0 = .int .i64 0 ∧ x1 = .int .i64 m ∧ gz = 0 ∧ Bx w wr (.cells #[.slice A na ca, .slice A2 nr cr] 29 (0, 0)))
    case atStart => exact ⟨rfl, rfl, rfl, HBX.out⟩
    case round =>
     obtain ⟨rfl, rfl, hg, hbx⟩ := hrel
     have HBX := Lib.hid hbx
     have r0 := obj_cell HBX.out.b_blk 0
     clear hbx
     by_cases h0 : 0 < na
     ·have t0 : decide ((0 : Int) < (na : Int)) = true := decide_eq_true (by omega)
      go_wp2
      go_ret
      exact ⟨rt_ret_i64 HF.out.symm, HBX.out.b_bel⟩
     ·have t0 : decide ((0 : Int) < (na : Int)) = false := decide_eq_false (by omega)
      go_wp2
      go_ret
      exact ⟨rt_ret_i64 HF.out.symm, HBX.out.b_bel⟩
  ·have tj : decide ((j : Int) < (nr : Int)) = false := decide_eq_false (by omega)
   have HM2 : Hid (m = foldG remR (n - (nr : Int) - (na : Int)) x.rest) := Lib.hid (by have := HM.out; rw [List.take_of_length_le (by have := HA.out.t_nr; omega)] at this; exact this)
   obtain ⟨m0, hm0⟩ : ∃ z, z = m := ⟨_, rfl⟩
   have HW : Hid (leftN (k + 1) x n d = leftS lf m0 x.slots) := Lib.hid (by rw [HV.out, hm0, ← HM2.out])
   have HMM := Lib.hid hm0
   clear hm0
   go_wp2
   clear r0 r1
   go_loopg [1, 8] na (fun gz x0 x1 wr => ∃ (i : Nat) (m : Int), x0 = .int .i64 m ∧ x1 = .int .i64 (i : Int) ∧ i + gz = na ∧ m = leftS lf m0 (x.slots.take i) ∧ -281474976710656 ≤ m ∧ m ≤ 400 ∧ Bx w wr (.cells #[.slice A na ca, .slice A2 nr cr] 29 (0, 0)))
   case atStart => exact ⟨0, m, rfl, rfl, by omega, by rw [← HMM.out]; rfl, m1, m2, HBX.out⟩
   case round =>
    clear HM HM2 m1 m2 hlt tj hj
    obtain ⟨i, m, rfl, rfl, hi, hm, m1, m2, hbx⟩ := hrel
    have HM := Lib.hid hm
    have HBX := Lib.hid hbx
    clear hm hbx
    obtain ⟨g1, hg1⟩ : ∃ g1, g1 = gk := ⟨_, rfl⟩
    subst hg1
    have r0 := obj_cell HBX.out.b_blk 0
    by_cases hlt : i < na
    ·have ti : decide ((i : Int) < (na : Int)) = true := decide_eq_true (by omega)
     by_cases hm0 : 0 ≤ m
     ·have tm : decide (0 ≤ m) = true := decide_eq_true hm0
      obtain ⟨s, hs⟩ : ∃ s, x.slots[i]? = some s := ⟨_, List.getElem?_eq_getElem (by have := HA.out.t_ns; omega)⟩
      obtain ⟨ga, oa, A1, c1, rfl, _, hc, hv⟩ := sl_at HA.out.t_s hs
      obtain ⟨p1, p2⟩ := HO4.out s (List.mem_of_getElem? hs)
      have HT := Lib.hid (foldG_take (fun n (s : Slt) => leftV lf (n - (s.svals.length : Int)) s.svals) m0 hs (by have := HM.out; unfold leftS at this; rw [← this]; exact hm0))
      have z1 := hv.l_le
      have z2 := hv.l_max
      unfold maxLen at z2
      obtain ⟨nv, hnv⟩ : ∃ z, z = s.svals.length := ⟨_, rfl⟩
      rw [← hnv] at hc p1 z1
      have HNV := Lib.hid hnv
      have HC := Lib.hid hc
      have HVV := Lib.hid hv
      have HP2 := Lib.hid p2
      obtain ⟨a0, a1⟩ := hc _ (stay_bel HBX.out.b_bel)
      have HMI : Hid (leftS lf m0 (x.slots.take (i + 1)) = leftV lf (m - (nv : Int)) s.svals) := Lib.hid (by
       have e1 := HT.out
       have e2 := HM.out
       unfold leftS at e2 ⊢
       rw [e1, ← e2, ← HNV.out])
      clear hs hc hv hnv p2 HT
      go_wp2
      clear a0 a1 r0
      go_loopg [1, 9] nv (fun gz x0 x1 wr => ∃ (j : Nat) (u : Int), x0 = .int .i64 u ∧ x1 = .int .i64 (j : Int) ∧ j + gz = nv ∧ u = leftV lf (m - (nv : Int)) (s.svals.take j) ∧ -281474976710656 ≤ u ∧ u ≤ 400 ∧ Bx w wr (.cells #[.slice (some ⟨ga, oa, none⟩) na ca, .slice A2 nr cr] 29 (0, 0)))
      case atStart => exact ⟨0, m - (nv : Int), rfl, rfl, by omega, rfl, by omega, by omega, HBX.out⟩
      case round =>
       obtain ⟨j, u, rfl, rfl, hj, hu, u1, u2, hbx⟩ := hrel
       have HU := Lib.hid hu
       have HBX := Lib.hid hbx
       clear hu hbx
       obtain ⟨g2, hg2⟩ : ∃ g2, g2 = gk := ⟨_, rfl⟩
       subst hg2
       have r0 := obj_cell HBX.out.b_blk 0
       obtain ⟨a0, a1⟩ := HC.out _ (stay_bel HBX.out.b_bel)
       by_cases hltj : j < nv
       ·have tj : decide ((j : Int) < (nv : Int)) = true := decide_eq_true (by omega)
        by_cases hu0 : 0 ≤ u
        ·have tu : decide (0 ≤ u) = true := decide_eq_true hu0
         obtain ⟨v, hv⟩ : ∃ v, s.svals[j]? = some v := ⟨_, List.getElem?_eq_getElem (by have := HNV.out; omega)⟩
         obtain ⟨gb, ob, B1, d1, rfl, _, hcb, hk⟩ := va_at HVV.out hv
         obtain ⟨p3, p4, p5⟩ := HP2.out v (List.mem_of_getElem? hv)
         have HT := Lib.hid (foldG_take (fun n (v : Va) => leftM lf (n - ((v.vs.length / 20 : Nat) : Int)) v.vm) (m - (nv : Int)) hv (by have := HU.out; unfold leftV at this; rw [← this]; exact hu0))
         have z3 := hk.l_le
         have z4 := hk.l_max
         unfold maxLen at z4
         obtain ⟨nm, hnm⟩ : ∃ z, z = v.vm.length := ⟨_, rfl⟩
         obtain ⟨st, hst⟩ : ∃ z, z = strOf v.vs := ⟨_, rfl⟩
         have hz : st.size = v.vs.length := by rw [hst, st_size]
         rw [← hnm, ← hst] at hcb
         rw [← hnm] at p4 z3
         obtain ⟨lz, hlz⟩ : ∃ z, z = v.vs.length := ⟨_, rfl⟩
         rw [← hlz] at p3 hz
         have hzl : st.size ≤ 140737488351232 := by omega
         have HZ := Lib.hid hz
         have HLZ := Lib.hid hlz
         have HNM := Lib.hid hnm
         have HCB := Lib.hid hcb
         have HK := Lib.hid hk
         have HP5 := Lib.hid p5
         obtain ⟨b0, b1, b2⟩ := hcb _ (stay_bel HBX.out.b_bel)
         have HUI : Hid (leftV lf (m - (nv : Int)) (s.svals.take (j + 1)) = leftM lf (u - ((lz / 20 : Nat) : Int)) v.vm) := Lib.hid (by
          have e1 := HT.out
          have e2 := HU.out
          unfold leftV at e2 ⊢
          rw [e1, ← e2, ← HLZ.out])
         have HQ : Hid (u - (st.size : Int) / 20 = u - ((lz / 20 : Nat) : Int)) := Lib.hid (by have := HZ.out; omega)
         clear hv hcb hk hnm hst hz hlz p5 HT
         go_wp2
         clear a0 a1 r0 b0 b1 b2
         go_loopg [1, 10] nm (fun gz x0 x1 wr => ∃ (q : Nat) (t : Int), x0 = .int .i64 t ∧ x1 = .int .i64 (q : Int) ∧ q + gz = nm ∧ t = leftM lf (u - ((lz / 20 : Nat) : Int)) (v.vm.take q) ∧ -281474976710656 ≤ t ∧ t ≤ 400 ∧ Bx w wr (.cells #[.slice (some ⟨ga, oa, none⟩) na ca, .slice A2 nr cr] 29 (0, 0)))
         case atStart => exact ⟨0, u - ((lz / 20 : Nat) : Int), int_same HQ.out, rfl, by omega, rfl, by omega, by omega, HBX.out⟩
         case round =>
          obtain ⟨q, t, rfl, rfl, hq, ht, t1, t2, hbx⟩ := hrel
          have HTT := Lib.hid ht
          have HBX := Lib.hid hbx
          clear ht hbx
          obtain ⟨g3, hg3⟩ : ∃ g3, g3 = gk := ⟨_, rfl⟩
          subst hg3
          have r0 := obj_cell HBX.out.b_blk 0
          obtain ⟨a0, a1⟩ := HC.out _ (stay_bel HBX.out.b_bel)
          obtain ⟨b0, b1, b2⟩ := HCB.out _ (stay_bel HBX.out.b_bel)
          by_cases hltq : q < nm
          ·have tq : decide ((q : Int) < (nm : Int)) = true := decide_eq_true (by omega)
           by_cases ht0 : 0 ≤ t
           ·have tt : decide (0 ≤ t) = true := decide_eq_true ht0
            obtain ⟨y, hy⟩ : ∃ y, v.vm[q]? = some y := ⟨_, List.getElem?_eq_getElem (by have := HNM.out; omega)⟩
            obtain ⟨kk, gc, oc, C1, e1, cc1, C2, e2, cc2, hkk, rfl, _, hcc, hty⟩ := kid_at HK.out hy
            have HT := Lib.hid (foldG_take (fun n t => lf t (n - 1)) (u - ((lz / 20 : Nat) : Int)) hy (by have := HTT.out; unfold leftM at this; rw [← this]; exact ht0))
            have hoy := HP5.out y (List.mem_of_getElem? hy)
            have HRES : Hid (leftN k y (t - 1) (d - 1) = leftM lf (u - ((lz / 20 : Nat) : Int)) (v.vm.take (q + 1))) := Lib.hid (by
             have e1 := HT.out
             have e2 := HTT.out
             unfold leftM at e2 ⊢
             rw [e1, ← e2, HLF.out])
            have HLO := Lib.hid (leftN_lo k y (t - 1) (d - 1) hoy (by omega))
            have HHI := Lib.hid (leftN_le k y (t - 1) (d - 1) (by omega))
            have HCALL : Hid (∀ u, Below w.heap.size w u → Calls Tryz.prog 26 #[.agg #[.slice C1 e1 cc1, .slice C2 e2 cc2], .int .i64 (t - 1), .int .i64 (d - 1)] u fun e w' => e = .returned (.int .i64 (leftN k y (t - 1) (d - 1))) ∧ Below u.heap.size u w') := Lib.hid (fun u hb => by
             have := HL.out kk hkk _ u _ _ _ _ _ _ y (t - 1) (d - 1) (trAt_bel hty hb) (by rw [hkk] at hoy; exact hoy) (by omega) (by omega) (by omega) (by omega)
             rw [hkk]
             exact this)
            obtain ⟨res, hres⟩ : ∃ z, z = leftN k y (t - 1) (d - 1) := ⟨_, rfl⟩
            rw [← hres] at HRES HLO HHI HCALL
            obtain ⟨c0, c1'⟩ := hcc _ (stay_bel HBX.out.b_bel)
            clear hy hcc hty hkk hres hoy HT
            go_wp2_with (go_at_call 26; refine (HCALL.out _ HBX.out.b_bel).mono ?_; rintro e w2 ⟨rfl, hb⟩; replace HBX := Lib.hid (bx_step HBX.out hb); clear hb)
            go_roundg (g3 - 1)
            case measure => omega
            case rel => exact ⟨q + 1, res, rfl, by go_num, by omega, HRES.out, HLO.out, by have := HHI.out; omega, HBX.out⟩
           ·have tt : decide (0 ≤ t) = false := decide_eq_false ht0
            have HF : Hid (t = leftV lf (m - (nv : Int)) (s.svals.take (j + 1))) := Lib.hid (by
             have e2 := HTT.out
             rw [HUI.out]
             unfold leftM at e2 ⊢
             rw [foldG_stop _ _ (i := q) (by rw [← e2]; omega)]
             exact e2)
            go_wp2
            go_roundg (g2 - 1)
            case measure => omega
            case rel => exact ⟨j + 1, t, rfl, by go_num, by omega, HF.out, t1, t2, HBX.out⟩
          ·have tq : decide ((q : Int) < (nm : Int)) = false := decide_eq_false (by omega)
           have HF : Hid (t = leftV lf (m - (nv : Int)) (s.svals.take (j + 1))) := Lib.hid (by
            have e2 := HTT.out
            rw [HUI.out]
            rw [List.take_of_length_le (by have := HNM.out; omega)] at e2
            exact e2)
           go_wp2
           go_roundg (g2 - 1)
           case measure => omega
           case rel => exact ⟨j + 1, t, rfl, by go_num, by omega, HF.out, t1, t2, HBX.out⟩
        ·have tu : decide (0 ≤ u) = false := decide_eq_false hu0
         have HF : Hid (u = leftS lf m0 (x.slots.take (i + 1))) := Lib.hid (by
          have e2 := HU.out
          rw [HMI.out]
          unfold leftV at e2 ⊢
          rw [foldG_stop _ _ (i := j) (by rw [← e2]; omega)]
          exact e2)
         go_wp2
         go_roundg (g1 - 1)
         case measure => omega
         case rel => exact ⟨i + 1, u, rfl, by go_num, by omega, HF.out, u1, u2, HBX.out⟩
       ·have tj : decide ((j : Int) < (nv : Int)) = false := decide_eq_false (by omega)
        have HF : Hid (u = leftS lf m0 (x.slots.take (i + 1))) := Lib.hid (by
         have e2 := HU.out
         rw [HMI.out]
         rw [List.take_of_length_le (by have := HNV.out; omega)] at e2
         exact e2)
        go_wp2
        go_roundg (g1 - 1)
        case measure => omega
        case rel => exact ⟨i + 1, u, rfl, by go_num, by omega, HF.out, u1, u2, HBX.out⟩
     ·have tm : decide (0 ≤ m) = false := decide_eq_false hm0
      have HF : Hid (leftN (k + 1) x n d = m) := Lib.hid (by
       have e2 := HM.out
       rw [HW.out]
       unfold leftS at e2 ⊢
       rw [foldG_stop _ _ (i := i) (by rw [← e2]; omega)]
       exact e2.symm)
      go_wp2
      go_ret
      exact ⟨rt_ret_i64 HF.out.symm, HBX.out.b_bel⟩
    ·have ti : decide ((i : Int) < (na : Int)) = false := decide_eq_false (by omega)
     have HF : Hid (leftN (k + 1) x n d = m) := Lib.hid (by
      have e2 := HM.out
      rw [List.take_of_length_le (by have := HA.out.t_ns; omega)] at e2
      rw [HW.out, e2])
     go_wp2
     go_ret
     exact ⟨rt_ret_i64 HF.out.symm, HBX.out.b_bel⟩
theorem rleft_any : ∀ k, LeftOk k
 | 0 => rleft_step (fun q h => by cases h)
 | k + 1 => rleft_step (fun q h => by cases h; exact rleft_any k)

/-- What is small. -/
def smallTr (k : Nat) (x : Tr) : Bool := decide (0 ≤ leftN (k + 1) x 400 40)
theorem small_fits {k : Nat} {x : Tr} (h : smallTr k x = true) : FitN (k + 1) x ∧ deepN (k + 1) x ≤ 40 ∧ cntN (k + 1) x ≤ 400 := by
 have h0 := of_decide_eq_true h
 obtain ⟨a, b, c⟩ := left_fits (k + 1) x 400 40 (by omega) h0
 exact ⟨a, by have := b (by omega); omega, by omega⟩
theorem rsmalltr_any {k : Nat} {S : Nat → Prop} (w : World) {A : Option Addr} {na ca : Nat} {A2 : Option Addr} {nr cr : Nat} {x : Tr} (h : TrAt S k w A na ca A2 nr cr x) (ho : OkT x) :
 Calls Tryz.prog 9 #[.agg #[.slice A na ca, .slice A2 nr cr]] w fun e w' => e = .returned (.bool (smallTr k x)) ∧ Below w.heap.size w w' := by
 have HBX := Lib.hid (bx_start w #[.slice A na ca, .slice A2 nr cr] 29)
 have r0 := obj_cell (HBX.out).b_blk 0
 have r1 := obj_cell (HBX.out).b_blk 1
 have HC := Lib.hid (fun u (hb : Below w.heap.size w u) => rleft_any k _ u _ _ _ _ _ _ x 400 40 (trAt_bel h hb) (ho (k + 1)) (by omega) (by omega) (by omega) (by omega))
 have HV : Hid (smallTr k x = decide (0 ≤ leftN (k + 1) x 400 40)) := Lib.hid rfl
 obtain ⟨r, hr⟩ : ∃ r, r = leftN (k + 1) x 400 40 := ⟨_, rfl⟩
 rw [← hr] at HC HV
 clear h ho hr
 go_enter Tryz.func9, Tryz.ntmps9
 go_wp2_with (go_at_call 26; refine (HC.out _ HBX.out.b_bel).mono ?_; rintro e w2 ⟨rfl, hb⟩; replace HBX := Lib.hid (bx_step HBX.out hb); clear hb)
 go_ret
 exact ⟨ret_bool' HV.out.symm, HBX.out.b_bel⟩
end Go.Proofs.YtloheacncefkgaaGreatDoor

/- The document's layer 19: how deep a tree is, and how much it has. Conditions: those that each theorem names. -/
namespace Go.Proofs.YtloheacncefkgaaGreatDoor
open Go.RowKit
set_option linter.unusedVariables false
set_option maxRecDepth 100000

def DeepOk (k : Nat) : Prop := ∀ (S : Nat → Prop) (w : World) (A : Option Addr) (na ca : Nat) (A2 : Option Addr) (nr cr : Nat) (x : Tr),
 TrAt S k w A na ca A2 nr cr x → deepN (k + 1) x ≤ 1000 →
  Calls Tryz.prog 36 #[.agg #[.slice A na ca, .slice A2 nr cr]] w fun e w' => e = .returned (.int .i64 ((deepN (k + 1) x : Nat) : Int)) ∧ Below w.heap.size w w'
set_option maxHeartbeats 8000000 in
theorem rtdeepN_step {k : Nat} (H : ∀ q, k = q + 1 → DeepOk q) : DeepOk k := by
 intro S w A na ca A2 nr cr x h hbd
 obtain ⟨q1, q2, q3, q4⟩ := trAt_max h
 obtain ⟨fM, hfM⟩ : ∃ z, z = (fun u : Tr => deepN k u) := ⟨_, rfl⟩
 obtain ⟨fV, hfV⟩ : ∃ z, z = (fun v : Va => supB fM v.vm) := ⟨_, rfl⟩
 obtain ⟨fS, hfS⟩ : ∃ z, z = (fun s : Slt => supB fV s.svals) := ⟨_, rfl⟩
 have hfin : deepN (k + 1) x = supB fS x.slots + 1 := by rw [hfS, hfV, hfM]; rfl
 rw [hfin] at hbd ⊢
 have HFM := Lib.hid hfM
 have HFV := Lib.hid hfV
 have HFS := Lib.hid hfS
 have HA := Lib.hid h
 have HL := Lib.hid H
 have HBD := Lib.hid hbd
 have HBX := Lib.hid (bx_start w #[.slice A na ca, .slice A2 nr cr] 29)
 have r0 := obj_cell (HBX.out).b_blk 0
 have r1 := obj_cell (HBX.out).b_blk 1
 obtain ⟨tot, htot⟩ : ∃ z, z = supB fS x.slots + 1 := ⟨_, rfl⟩
 rw [← htot] at hbd ⊢
 have HTOT := Lib.hid htot
 clear h H hfin hfM hfV hfS htot
 go_enter Tryz.func36, Tryz.ntmps36
 go_wp2
 clear r0 r1
 go_loopg [3, 4] na (fun gz x0 x1 wr => ∃ (i a : Nat), x0 = .int .i64 (a : Int) ∧ x1 = .int .i64 (i : Int) ∧ i + gz = na ∧ a = supB fS (x.slots.take i) ∧ a ≤ 1000 ∧ Bx w wr (.cells #[.slice A na ca, .slice A2 nr cr] 29 (0, 0)))
 case atStart => exact ⟨0, 0, rfl, rfl, by omega, rfl, by omega, HBX.out⟩
 case round =>
  obtain ⟨i, a, rfl, rfl, hi, ha, hab, hbx⟩ := hrel
  have HAV := Lib.hid ha
  have HBX := Lib.hid hbx
  clear ha hbx
  obtain ⟨g1, hg1⟩ : ∃ g1, g1 = gk := ⟨_, rfl⟩
  subst hg1
  have r0 := obj_cell HBX.out.b_blk 0
  by_cases hlt : i < na
  ·have ti : decide ((i : Int) < (na : Int)) = true := decide_eq_true (by omega)
   obtain ⟨s, hs⟩ : ∃ s, x.slots[i]? = some s := ⟨_, List.getElem?_eq_getElem (by have := HA.out.t_ns; omega)⟩
   obtain ⟨ga, oa, A1, c1, rfl, _, hc, hv⟩ := sl_at HA.out.t_s hs
   have z1 := hv.l_le
   have z2 := hv.l_max
   unfold maxLen at z2
   obtain ⟨nv, hnv⟩ : ∃ z, z = s.svals.length := ⟨_, rfl⟩
   rw [← hnv] at hc z1
   have HNV := Lib.hid hnv
   have HC := Lib.hid hc
   have HVV := Lib.hid hv
   obtain ⟨a0, a1⟩ := hc _ (stay_bel HBX.out.b_bel)
   have HAN : Hid (supB fS (x.slots.take (i + 1)) = max a (fS s)) := Lib.hid (by rw [supB_take fS hs, HAV.out])
   have HSV : Hid (fS s = supB fV s.svals) := Lib.hid (by rw [HFS.out])
   have hsb : max a (fS s) ≤ 1000 := by
    rw [← HAN.out]
    have h1 := supB_le fS (b := supB fS x.slots) (l := x.slots.take (i + 1)) (fun y hy => supB_mem fS (List.mem_of_mem_take hy))
    have h2 := HBD.out
    omega
   have HSB := Lib.hid hsb
   clear hs hc hv hnv hsb
   go_wp2
   clear a0 a1 r0
   go_loopg [3, 5] nv (fun gz x0 x1 wr => ∃ (j b : Nat), x0 = .int .i64 (b : Int) ∧ x1 = .int .i64 (j : Int) ∧ j + gz = nv ∧ b = max a (supB fV (s.svals.take j)) ∧ b ≤ 1000 ∧ Bx w wr (.cells #[.slice (some ⟨ga, oa, none⟩) na ca, .slice A2 nr cr] 29 (0, 0)))
   case atStart => exact ⟨0, a, rfl, rfl, by omega, by simp [supB], by omega, HBX.out⟩
   case round =>
    obtain ⟨j, b, rfl, rfl, hj, hb, hbb, hbx⟩ := hrel
    have HBV := Lib.hid hb
    have HBX := Lib.hid hbx
    clear hb hbx
    obtain ⟨g2, hg2⟩ : ∃ g2, g2 = gk := ⟨_, rfl⟩
    subst hg2
    have r0 := obj_cell HBX.out.b_blk 0
    obtain ⟨a0, a1⟩ := HC.out _ (stay_bel HBX.out.b_bel)
    by_cases hltj : j < nv
    ·have tj : decide ((j : Int) < (nv : Int)) = true := decide_eq_true (by omega)
     obtain ⟨v, hv⟩ : ∃ v, s.svals[j]? = some v := ⟨_, List.getElem?_eq_getElem (by have := HNV.out; omega)⟩
     obtain ⟨gb, ob, B1, d1, rfl, _, hcb, hk⟩ := va_at HVV.out hv
     have z3 := hk.l_le
     have z4 := hk.l_max
     unfold maxLen at z4
     obtain ⟨nm, hnm⟩ : ∃ z, z = v.vm.length := ⟨_, rfl⟩
     obtain ⟨st, hst⟩ : ∃ z, z = strOf v.vs := ⟨_, rfl⟩
     rw [← hnm, ← hst] at hcb
     rw [← hnm] at z3
     have HNM := Lib.hid hnm
     have HCB := Lib.hid hcb
     have HK := Lib.hid hk
     obtain ⟨b0, b1, b2⟩ := hcb _ (stay_bel HBX.out.b_bel)
     have HBN : Hid (max a (supB fV (s.svals.take (j + 1))) = max b (fV v)) := Lib.hid (by rw [supB_take fV hv, HBV.out]; omega)
     have HVB : Hid (fV v = supB fM v.vm) := Lib.hid (by rw [HFV.out])
     have hvb : max b (fV v) ≤ 1000 := by
      rw [← HBN.out]
      have h1 := supB_le fV (b := supB fV s.svals) (l := s.svals.take (j + 1)) (fun y hy => supB_mem fV (List.mem_of_mem_take hy))
      have h2 := HSB.out
      have h3 := HSV.out
      omega
     have HVBD := Lib.hid hvb
     clear hv hcb hk hnm hst hvb
     go_wp2
     clear a0 a1 r0 b0 b1 b2
     go_loopg [3, 6] nm (fun gz x0 x1 wr => ∃ (q c : Nat), x0 = .int .i64 (c : Int) ∧ x1 = .int .i64 (q : Int) ∧ q + gz = nm ∧ c = max b (supB fM (v.vm.take q)) ∧ c ≤ 1000 ∧ Bx w wr (.cells #[.slice (some ⟨ga, oa, none⟩) na ca, .slice A2 nr cr] 29 (0, 0)))
     case atStart => exact ⟨0, b, rfl, rfl, by omega, by simp [supB], by omega, HBX.out⟩
     case round =>
      obtain ⟨q, c, rfl, rfl, hq, hc, hcb, hbx⟩ := hrel
      have HCV := Lib.hid hc
      have HBX := Lib.hid hbx
      clear hc hbx
      obtain ⟨g3, hg3⟩ : ∃ g3, g3 = gk := ⟨_, rfl⟩
      subst hg3
      have r0 := obj_cell HBX.out.b_blk 0
      obtain ⟨a0, a1⟩ := HC.out _ (stay_bel HBX.out.b_bel)
      obtain ⟨b0, b1, b2⟩ := HCB.out _ (stay_bel HBX.out.b_bel)
      by_cases hltq : q < nm
      ·have tq : decide ((q : Int) < (nm : Int)) = true := decide_eq_true (by omega)
       obtain ⟨y, hy⟩ : ∃ y, v.vm[q]? = some y := ⟨_, List.getElem?_eq_getElem (by have := HNM.out; omega)⟩
       obtain ⟨kk, gc, oc, C1, e1, cc1, C2, e2, cc2, hkk, rfl, _, hcc, hty⟩ := kid_at HK.out hy
       have HCN : Hid (max b (supB fM (v.vm.take (q + 1))) = max c (fM y)) := Lib.hid (by rw [supB_take fM hy, HCV.out]; omega)
       have hyb : max c (fM y) ≤ 1000 := by
        rw [← HCN.out]
        have h1 := supB_le fM (b := supB fM v.vm) (l := v.vm.take (q + 1)) (fun y hy => supB_mem fM (List.mem_of_mem_take hy))
        have h2 := HVBD.out
        have h3 := HVB.out
        omega
       have hyl : fM y ≤ 1000 := by omega
       have HCALL : Hid (∀ u, Below w.heap.size w u → Calls Tryz.prog 36 #[.agg #[.slice C1 e1 cc1, .slice C2 e2 cc2]] u fun e w' => e = .returned (.int .i64 ((fM y : Nat) : Int)) ∧ Below u.heap.size u w') := Lib.hid (fun u hb => by
        have h9 := HL.out kk hkk _ u _ _ _ _ _ _ y (trAt_bel hty hb) (by rw [← hkk, show deepN k y = fM y by rw [HFM.out]]; exact hyl)
        rw [show fM y = deepN (kk + 1) y by rw [HFM.out, hkk]]
        exact h9)
       obtain ⟨res, hres⟩ : ∃ z, z = fM y := ⟨_, rfl⟩
       rw [← hres] at HCN HCALL hyb hyl
       obtain ⟨c0, c1'⟩ := hcc _ (stay_bel HBX.out.b_bel)
       clear hy hcc hty hkk hres
       go_wp2_with (go_at_call 36; refine (HCALL.out _ HBX.out.b_bel).mono ?_; rintro e w2 ⟨rfl, hb⟩; replace HBX := Lib.hid (bx_step HBX.out hb); clear hb)
       all_goals
        go_roundg (g3 - 1)
        case measure => omega
        case rel => exact ⟨q + 1, max c res, int_same (by omega), by go_num, by omega, HCN.out.symm, hyb, HBX.out⟩
      ·have tq : decide ((q : Int) < (nm : Int)) = false := decide_eq_false (by omega)
       have HF : Hid (c = max a (supB fV (s.svals.take (j + 1)))) := Lib.hid (by
        rw [HBN.out, HVB.out, HCV.out, List.take_of_length_le (by have := HNM.out; omega)])
       go_wp2
       go_roundg (g2 - 1)
       case measure => omega
       case rel => exact ⟨j + 1, c, rfl, by go_num, by omega, HF.out, hcb, HBX.out⟩
    ·have tj : decide ((j : Int) < (nv : Int)) = false := decide_eq_false (by omega)
     have HF : Hid (b = supB fS (x.slots.take (i + 1))) := Lib.hid (by
      rw [HAN.out, HSV.out, HBV.out, List.take_of_length_le (by have := HNV.out; omega)])
     go_wp2
     go_roundg (g1 - 1)
     case measure => omega
     case rel => exact ⟨i + 1, b, rfl, by go_num, by omega, HF.out, hbb, HBX.out⟩
  ·have ti : decide ((i : Int) < (na : Int)) = false := decide_eq_false (by omega)
   have HF : Hid ((a : Int) + 1 = (tot : Int)) := Lib.hid (by
    have h1 := HAV.out
    rw [List.take_of_length_le (by have := HA.out.t_ns; omega)] at h1
    have h2 := HTOT.out
    omega)
   go_wp2
   go_ret
   exact ⟨rt_ret_i64 HF.out, HBX.out.b_bel⟩
theorem rtdeepN_any : ∀ k, DeepOk k
 | 0 => rtdeepN_step (fun q h => by cases h)
 | k + 1 => rtdeepN_step (fun q h => by cases h; exact rtdeepN_any k)

end Go.Proofs.YtloheacncefkgaaGreatDoor
