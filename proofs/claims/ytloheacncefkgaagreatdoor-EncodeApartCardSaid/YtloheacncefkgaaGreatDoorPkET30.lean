/- Several texts in one: RawMem, RrB, RwA. What each proves, and its conditions, stands at its own head. -/
import Derived.Test.YtloheacncefkgaaGreatDoorChecked
import Derived.Test.YtloheacncefkgaaGreatDoorPkET26
import Derived.Test.YtloheacncefkgaaGreatDoorPkET0
import Derived.Test.YtloheacncefkgaaGreatDoorPkET2
import Derived.Deep.SlicePairs
import Derived.WalkKit
import Derived.OwnWalk
import Derived.RowKitTokens
import Derived.Lib.Hide
import Derived.BigQuiet
import Derived.Deep.QuietTactic
/- Fields in memory: lists that are read, lists that came in. Conditions: those that each theorem names. -/
namespace Go.Proofs.YtloheacncefkgaaGreatDoor
open Go.RowKit Go.ChangeShapes
set_option linter.unusedVariables false
set_option maxRecDepth 100000

def rawV (x : Rw) : Value := .agg #[.int .i64 x.num, .int .i64 x.wire, .int .u64 (x.n : Int), .string (strOf x.s)]
def rawCells (x : Rw) : List Value := [.int .i64 x.num, .int .i64 x.wire, .int .u64 (x.n : Int), .string (strOf x.s)]
theorem rawCells_length (x : Rw) : (rawCells x).length = 4 := rfl
def rawRow (l : List Rw) : List Value := l.flatMap rawCells
theorem rawRow_length (l : List Rw) : (rawRow l).length = l.length * 4 := flat_length rawCells 4 rawCells_length l
/-- A slice that reads as these fields. -/
structure Raws (w : World) (A : Option Addr) (cap : Nat) (l : List Rw) : Prop where
  le : l.length ≤ cap
  max : cap ≤ 9223372036854775807
  at_ : ∀ (j : Nat) x, l[j]? = some x → ∃ g off, A = some ⟨g, off, none⟩ ∧ w.cell? ⟨g, off + j * 4, none⟩ = some (.int .i64 x.num) ∧ w.cell? ⟨g, off + j * 4 + 1, none⟩ = some (.int .i64 x.wire) ∧ w.cell? ⟨g, off + j * 4 + 2, none⟩ = some (.int .u64 (x.n : Int)) ∧ w.cell? ⟨g, off + j * 4 + 3, none⟩ = some (.string (strOf x.s))
theorem lt_of_cell {w : World} {b o : Nat} {v : Value} (h : w.cell? ⟨b, o, none⟩ = some v) : b < w.heap.size := by
  rcases Nat.lt_or_ge b w.heap.size with h' | h'
  · exact h'
  · simp [World.cell?, Array.getElem?_eq_none h'] at h
theorem Raws.bel {w w' : World} {A : Option Addr} {cap : Nat} {l : List Rw} (h : Raws w A cap l) (hb : Below w.heap.size w w') : Raws w' A cap l :=
  ⟨h.le, h.max, fun j x hj => by
    obtain ⟨g, off, e, c0, c1, c2, c3⟩ := h.at_ j x hj
    have hg := lt_of_cell c0
    exact ⟨g, off, e, (hb.cell (p := ⟨g, off + j * 4, none⟩) hg).trans c0, (hb.cell (p := ⟨g, off + j * 4 + 1, none⟩) hg).trans c1, (hb.cell (p := ⟨g, off + j * 4 + 2, none⟩) hg).trans c2, (hb.cell (p := ⟨g, off + j * 4 + 3, none⟩) hg).trans c3⟩⟩
/-- A row of the call's own reads so. -/
theorem Raws.own {w : World} {base : Nat} {t : TypeId} {v : Value} {n : Nat} {l : List Rw} (h : w.ownsRow base t 4 v n (rawRow l)) : n = l.length ∧ ∃ A cap, v = .slice A l.length cap ∧ Raws w A cap l := by
  have hn : n = l.length := by have := h.1; rw [rawRow_length] at this; omega
  subst hn
  obtain ⟨A, cap, rfl, h1, h2, h3, _⟩ := own_form h
  refine ⟨rfl, A, cap, rfl, h1, by unfold maxLen at h2; omega, fun j x hj => ?_⟩
  have hjl := (List.getElem?_eq_some_iff.mp hj).1
  obtain ⟨g, cp, hv, _, _, _, _⟩ := own_pos h (by omega)
  injection hv with e1 e2 e3
  subst e1 e3
  have hget : ∀ i, i < 4 → (rawRow l)[j * 4 + i]? = (rawCells x)[i]? := fun i hi => by rw [Nat.mul_comm j 4]; exact flat_get rawCells 4 rawCells_length l j x i hj hi
  have hc : ∀ i u, i < 4 → (rawCells x)[i]? = some u → w.cell? ⟨g, j * 4 + i, none⟩ = some u := fun i u hi hu => own_cell h rfl ((hget i hi).trans hu)
  refine ⟨g, 0, rfl, ?_, ?_, ?_, ?_⟩
  · have := hc 0 _ (by omega) rfl; rwa [Nat.zero_add]
  · have := hc 1 _ (by omega) rfl; rwa [Nat.zero_add]
  · have := hc 2 _ (by omega) rfl; rwa [Nat.zero_add]
  · have := hc 3 _ (by omega) rfl; rwa [Nat.zero_add]

end Go.Proofs.YtloheacncefkgaaGreatDoor

/- The document's All and Same, and what is small. Conditions: those that each theorem names. -/
namespace Go.Proofs.YtloheacncefkgaaGreatDoor
open Go.RowKit
set_option linter.unusedVariables false
set_option maxRecDepth 100000

theorem run_neq_raw (a b : Rw) (w : World) : (binOp .neq 93 (rawV a) (rawV b)).run Tryz.prog w = .ok (.bool (!rwEq a b)) w := by
  unfold rawV
  go_simp
  rw [ByteArray.toList_eq, ByteArray.toList_eq, show (strOf a.s).data.toList = a.s by simp [strOf], show (strOf b.s).data.toList = b.s by simp [strOf]]
  unfold rwEq
  by_cases h1 : a.num = b.num
  · by_cases h2 : a.wire = b.wire
    · by_cases h3 : a.n = b.n
      · by_cases h4 : a.s = b.s
        · simp [h1, h2, h3, h4]
        · simp [h1, h2, h3, h4]
      · have h3' : ¬ ((a.n : Int) = (b.n : Int)) := by omega
        simp [h1, h2, h3, h3']
    · simp [h1, h2]
  · simp [h1]
theorem rsame_raw (w : World) {A A' : Option Addr} {cap cap' n n' : Nat} {l m : List Rw} (h : Raws w A cap l) (h' : Raws w A' cap' m) (hn : n = l.length) (hn' : n' = m.length) :
    Calls Tryz.prog 45 #[.slice A n cap, .slice A' n' cap'] w fun e w' => e = .returned (.bool (sameR l m)) ∧ ∃ k, w' = w.drewN k := by
  have hle := h.le
  have hmx := h.max
  have hle' := h'.le
  have hmx' := h'.max
  rw [← hn] at hle
  rw [← hn'] at hle'
  have H := Lib.hid h
  have H' := Lib.hid h'
  have HN := Lib.hid hn
  have HN' := Lib.hid hn'
  clear h hn h' hn'
  by_cases hnn : n = n'
  · subst hnn
    go_enter Tryz.func45, Tryz.ntmps45
    go_wp2
    go_loopw [5] (fun x wr => ∃ k : Nat, k ≤ n ∧ x = .int .i64 (k : Int) ∧ (∃ i, wr = w.drewN i) ∧ ∀ (j : Nat) a b, j < k → l[j]? = some a → m[j]? = some b → rwEq a b = true) (fun x _ => n - (intOf x).toNat)
    case atStart => exact ⟨0, Nat.zero_le _, rfl, ⟨0, rfl⟩, fun j a b hj => absurd hj (Nat.not_lt_zero _)⟩
    case round =>
      obtain ⟨k, hk, rfl, ⟨i, rfl⟩, hall⟩ := hrel
      have HALL := Lib.hid hall
      clear hall
      by_cases hlt : k < n
      · have g1 : decide ((k : Int) < (n : Int)) = true := decide_eq_true (by omega)
        obtain ⟨a, ha⟩ : ∃ a, l[k]? = some a := ⟨_, List.getElem?_eq_getElem (by have := HN.out; omega)⟩
        obtain ⟨b, hb⟩ : ∃ b, m[k]? = some b := ⟨_, List.getElem?_eq_getElem (by have := HN'.out; omega)⟩
        obtain ⟨g, off, rfl, c0, c1, c2, c3⟩ := H.out.at_ k a ha
        obtain ⟨g', off', rfl, d0, d1, d2, d3⟩ := H'.out.at_ k b hb
        have HA := Lib.hid ha
        have HB := Lib.hid hb
        clear ha hb
        have HQ : ∀ w : World, (binOp .neq 93 (.agg #[.int .i64 a.num, .int .i64 a.wire, .int .u64 (a.n : Int), .string (strOf a.s)]) (.agg #[.int .i64 b.num, .int .i64 b.wire, .int .u64 (b.n : Int), .string (strOf b.s)])).run Tryz.prog w = .ok (.bool (!rwEq a b)) w := fun w => run_neq_raw a b w
        obtain ⟨r, hr⟩ : ∃ r, r = rwEq a b := ⟨_, rfl⟩
        rw [← hr] at HQ
        have HRR := Lib.hid hr
        clear hr
        cases r with
        | true =>
          go_wp2
          go_quiet (fail)
          go_wp2
          go_roundw
          case rel =>
            refine ⟨k + 1, by omega, by go_num, ⟨i + nq, rfl⟩, fun j x y hj hx hy => ?_⟩
            by_cases hjk : j < k
            · exact HALL.out j x y hjk hx hy
            · have : j = k := by omega
              subst this
              have e1 := HA.out.symm.trans hx
              have e2 := HB.out.symm.trans hy
              injection e1 with e1
              injection e2 with e2
              subst e1 e2
              exact HRR.out.symm
          case measure => simp [intOf]; omega
        | false =>
          go_wp2
          go_quiet (fail)
          go_wp2
          go_ret
          exact ⟨ret_bool' (sameR_off HA.out HB.out HRR.out.symm).symm, _, World.drewN_drewN _ _ _⟩
      · have g1 : decide ((k : Int) < (n : Int)) = false := decide_eq_false (by omega)
        obtain rfl : k = n := by omega
        go_wp2
        go_ret
        exact ⟨ret_bool' (sameR_all (by have := HN.out; have := HN'.out; omega) (fun j a b ha hb => HALL.out j a b (by have := (List.getElem?_eq_some_iff.mp ha).1; have := HN.out; omega) ha hb)).symm, _, rfl⟩
  · have g1 : ((n : Int) == (n' : Int)) = false := beq_false_of_ne (by omega)
    have g2 : ¬ ((n : Int) = (n' : Int)) := by omega
    have HS : Hid (sameR l m = false) := Lib.hid (sameR_length (by have := HN.out; have := HN'.out; omega))
    go_enter Tryz.func45, Tryz.ntmps45
    go_wp2
    go_ret
    exact ⟨ret_bool' HS.out.symm, 0, rfl⟩

end Go.Proofs.YtloheacncefkgaaGreatDoor

/- The program's Right and Same of fields. Conditions: those that each theorem names. -/
namespace Go.Proofs.YtloheacncefkgaaGreatDoor
open Go.RowKit
set_option linter.unusedVariables false
set_option maxRecDepth 100000

theorem raw_right (x : Rw) (w : World) : Calls Tryz.prog 63 #[rawV x] w fun e w' => e = .returned (.bool (okR x)) ∧ w' = w.alloc (.cells (rawCells x).toArray 93) := by
  obtain ⟨num, wire, n, s⟩ := x
  unfold rawV rawCells
  dsimp only
  have HR := Lib.hid (fun w => right_any num wire w)
  cases hr : rightB num wire with
  | false =>
    rw [hr] at HR
    have HO : Hid (okR ⟨num, wire, n, s⟩ = false) := by show _ = _; simp [okR, hr]
    clear hr
    go_enter Tryz.func63, Tryz.ntmps63
    go_wp2_with (go_at_call 108; refine (HR.out _).mono ?_; rintro e w' ⟨rfl, rfl⟩)
    go_ret
    exact ⟨ret_bool' HO.out.symm, rfl⟩
  | true =>
    rw [hr] at HR
    by_cases h2 : wire = 2
    · subst h2
      have HO : Hid (okR ⟨num, 2, n, s⟩ = ((n : Int) == 0)) := by show _ = _; simp [okR, hr]; by_cases h : n = 0 <;> simp [h]
      clear hr
      go_enter Tryz.func63, Tryz.ntmps63
      go_wp2_with (go_at_call 108; refine (HR.out _).mono ?_; rintro e w' ⟨rfl, rfl⟩)
      go_ret
      exact ⟨ret_bool' HO.out.symm, rfl⟩
    · have g2 : (wire == 2) = false := beq_false_of_ne h2
      by_cases h5 : wire = 5
      · subst h5
        by_cases hs : s = []
        · subst hs
          have e0 : strOf [] = ⟨#[]⟩ := rfl
          rw [e0]
          have HO : Hid (okR ⟨num, 5, n, []⟩ = decide (n < 4294967296)) := by show _ = _; unfold okR; generalize decide (n < 4294967296) = b; simp [hr]
          clear hr
          by_cases hlt : n < 4294967296
          · have g6 : decide ((n : Int) ≤ 4294967295) = true := decide_eq_true (by omega)
            have HO2 : Hid (okR ⟨num, 5, n, []⟩ = true) := Lib.hid (HO.out.trans (decide_eq_true hlt))
            clear HO
            go_enter Tryz.func63, Tryz.ntmps63
            go_wp2_with (go_at_call 108; refine (HR.out _).mono ?_; rintro e w' ⟨rfl, rfl⟩)
            go_ret
            exact ⟨ret_bool' HO2.out.symm, rfl⟩
          · have g6 : decide ((n : Int) ≤ 4294967295) = false := decide_eq_false (by omega)
            have HO2 : Hid (okR ⟨num, 5, n, []⟩ = false) := Lib.hid (HO.out.trans (decide_eq_false hlt))
            clear HO
            go_enter Tryz.func63, Tryz.ntmps63
            go_wp2_with (go_at_call 108; refine (HR.out _).mono ?_; rintro e w' ⟨rfl, rfl⟩)
            go_ret
            exact ⟨ret_bool' HO2.out.symm, rfl⟩
        · have e1 : (strOf s).toList = s := by rw [ByteArray.toList_eq]; simp [strOf]
          have g3 : (strOf s).toList.isEmpty = false := by rw [e1]; simpa using hs
          have g4 : ¬ (strOf s).toList = [] := by rw [e1]; exact hs
          have HO : Hid (okR ⟨num, 5, n, s⟩ = false) := by show _ = _; simp [okR, hr, hs]
          obtain ⟨t, ht⟩ : ∃ t, t = strOf s := ⟨_, rfl⟩
          rw [← ht] at g3 g4 ⊢
          clear hr h2 hs ht e1
          go_enter Tryz.func63, Tryz.ntmps63
          go_wp2_with (go_at_call 108; refine (HR.out _).mono ?_; rintro e w' ⟨rfl, rfl⟩)
          go_ret
          exact ⟨ret_bool' HO.out.symm, rfl⟩
      · have g5 : (wire == 5) = false := beq_false_of_ne h5
        by_cases hs : s = []
        · subst hs
          have e0 : strOf [] = ⟨#[]⟩ := rfl
          rw [e0]
          have HO : Hid (okR ⟨num, wire, n, []⟩ = true) := by show _ = _; simp [okR, hr, h2, h5]
          clear hr h2
          go_enter Tryz.func63, Tryz.ntmps63
          go_wp2_with (go_at_call 108; refine (HR.out _).mono ?_; rintro e w' ⟨rfl, rfl⟩)
          go_ret
          exact ⟨ret_bool' HO.out.symm, rfl⟩
        · have e1 : (strOf s).toList = s := by rw [ByteArray.toList_eq]; simp [strOf]
          have g3 : (strOf s).toList.isEmpty = false := by rw [e1]; simpa using hs
          have g4 : ¬ (strOf s).toList = [] := by rw [e1]; exact hs
          have HO : Hid (okR ⟨num, wire, n, s⟩ = false) := by show _ = _; simp [okR, hr, h2, hs]
          obtain ⟨t, ht⟩ : ∃ t, t = strOf s := ⟨_, rfl⟩
          rw [← ht] at g3 g4 ⊢
          clear hr h2 hs ht e1
          go_enter Tryz.func63, Tryz.ntmps63
          go_wp2_with (go_at_call 108; refine (HR.out _).mono ?_; rintro e w' ⟨rfl, rfl⟩)
          go_ret
          exact ⟨ret_bool' HO.out.symm, rfl⟩

end Go.Proofs.YtloheacncefkgaaGreatDoor
