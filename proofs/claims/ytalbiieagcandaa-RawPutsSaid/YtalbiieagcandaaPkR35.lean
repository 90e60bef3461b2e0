/- Several texts in one: RrA, RrB, RwA. What each proves, and its conditions, stands at its own head. -/
import Derived.Test.YtalbiieagcandaaPkR34
import Derived.Test.YtalbiieagcandaaPkR1
import Derived.Test.YtalbiieagcandaaPkR0
import Derived.BigQuiet
import Derived.Deep.QuietTactic
/- The document's Right, All, Same, and what is small. Conditions: those that each theorem names. -/
namespace Go.Proofs.Ytalbiieagcandaa
open Go.RowKit
set_option linter.unusedVariables false
set_option maxRecDepth 100000

theorem rraw_right (x : Rw) (w : World) : Calls Try.prog 9 #[rawV x] w fun e w' => e = .returned (.bool (okR x)) ∧ w' = w.alloc (.cells (rawCells x).toArray 28) := by
  obtain ⟨num, wire, n, s⟩ := x
  unfold rawV rawCells
  dsimp only
  have HR := Lib.hid (fun w => rright_any num wire w)
  cases hr : rightB num wire with
  | false =>
    rw [hr] at HR
    have HO : Hid (okR ⟨num, wire, n, s⟩ = false) := by show _ = _; simp [okR, hr]
    clear hr
    go_enter Try.func9, Try.ntmps9
    go_wp2_with (go_at_call 22; refine (HR.out _).mono ?_; rintro e w' ⟨rfl, rfl⟩)
    go_ret
    exact ⟨ret_bool' HO.out.symm, rfl⟩
  | true =>
    rw [hr] at HR
    by_cases h2 : wire = 2
    · subst h2
      have HO : Hid (okR ⟨num, 2, n, s⟩ = ((n : Int) == 0)) := by show _ = _; simp [okR, hr]; by_cases h : n = 0 <;> simp [h]
      clear hr
      go_enter Try.func9, Try.ntmps9
      go_wp2_with (go_at_call 22; refine (HR.out _).mono ?_; rintro e w' ⟨rfl, rfl⟩)
      go_ret
      exact ⟨ret_bool' HO.out.symm, rfl⟩
    · have g2 : (wire == 2) = false := beq_false_of_ne h2
      by_cases hs : s = []
      · subst hs
        have e0 : strOf [] = ⟨#[]⟩ := rfl
        rw [e0]
        by_cases h5 : wire = 5
        · subst h5
          have HO : Hid (okR ⟨num, 5, n, []⟩ = decide (n < 4294967296)) := by show _ = _; unfold okR; generalize decide (n < 4294967296) = b; simp [hr]
          clear hr
          by_cases hlt : n < 4294967296
          · have g6 : decide ((n : Int) < 4294967296) = true := decide_eq_true (by omega)
            have HO2 : Hid (okR ⟨num, 5, n, []⟩ = true) := Lib.hid (HO.out.trans (decide_eq_true hlt))
            clear HO
            go_enter Try.func9, Try.ntmps9
            go_wp2_with (go_at_call 22; refine (HR.out _).mono ?_; rintro e w' ⟨rfl, rfl⟩)
            go_ret
            exact ⟨ret_bool' HO2.out.symm, rfl⟩
          · have g6 : decide ((n : Int) < 4294967296) = false := decide_eq_false (by omega)
            have HO2 : Hid (okR ⟨num, 5, n, []⟩ = false) := Lib.hid (HO.out.trans (decide_eq_false hlt))
            clear HO
            go_enter Try.func9, Try.ntmps9
            go_wp2_with (go_at_call 22; refine (HR.out _).mono ?_; rintro e w' ⟨rfl, rfl⟩)
            go_ret
            exact ⟨ret_bool' HO2.out.symm, rfl⟩
        · have g5 : (wire == 5) = false := beq_false_of_ne h5
          have HO : Hid (okR ⟨num, wire, n, []⟩ = true) := by show _ = _; simp [okR, hr, h2, h5]
          clear hr h2
          go_enter Try.func9, Try.ntmps9
          go_wp2_with (go_at_call 22; refine (HR.out _).mono ?_; rintro e w' ⟨rfl, rfl⟩)
          go_ret
          exact ⟨ret_bool' HO.out.symm, rfl⟩
      · have e1 : (strOf s).toList = s := by rw [ByteArray.toList_eq]; simp [strOf]
        have g3 : (strOf s).toList.isEmpty = false := by rw [e1]; simpa using hs
        have g4 : ¬ (strOf s).toList = [] := by rw [e1]; exact hs
        have HO : Hid (okR ⟨num, wire, n, s⟩ = false) := by show _ = _; simp [okR, hr, h2, hs]
        obtain ⟨t, ht⟩ : ∃ t, t = strOf s := ⟨_, rfl⟩
        rw [← ht] at g3 g4 ⊢
        clear hr h2 hs ht e1
        go_enter Try.func9, Try.ntmps9
        go_wp2_with (go_at_call 22; refine (HR.out _).mono ?_; rintro e w' ⟨rfl, rfl⟩)
        go_ret
        exact ⟨ret_bool' HO.out.symm, rfl⟩
end Go.Proofs.Ytalbiieagcandaa

/- The document's All and Same, and what is small. Conditions: those that each theorem names. -/
namespace Go.Proofs.Ytalbiieagcandaa
open Go.RowKit
set_option linter.unusedVariables false
set_option maxRecDepth 100000

theorem rall_raw (w : World) {A : Option Addr} {cap n : Nat} {l : List Rw} (h : Raws w A cap l) (hn : n = l.length) :
    Calls Try.prog 13 #[.slice A n cap] w fun e w' => e = .returned (.bool (allR l)) ∧ Below w.heap.size w w' := by
  have hle := h.le
  have hmx := h.max
  rw [← hn] at hle
  have H := Lib.hid h
  have HN := Lib.hid hn
  clear h hn
  go_enter Try.func13, Try.ntmps13
  go_wp2
  go_loopw [3] (fun x wr => ∃ k : Nat, k ≤ n ∧ x = .int .i64 (k : Int) ∧ Below w.heap.size w wr ∧ ∀ (j : Nat) a, j < k → l[j]? = some a → okR a = true) (fun x _ => n - (intOf x).toNat)
  case atStart => exact ⟨0, Nat.zero_le _, rfl, Below.refl _ _, fun j a hj => absurd hj (Nat.not_lt_zero _)⟩
  case round =>
    obtain ⟨k, hk, rfl, hbel, hall⟩ := hrel
    have HB := Lib.hid hbel
    have HALL := Lib.hid hall
    clear hbel hall
    by_cases hlt : k < n
    · have g1 : decide ((k : Int) < (n : Int)) = true := decide_eq_true (by omega)
      obtain ⟨a, ha⟩ : ∃ a, l[k]? = some a := ⟨_, List.getElem?_eq_getElem (by have := HN.out; omega)⟩
      obtain ⟨g, off, rfl, c0, c1, c2, c3⟩ := (H.out.bel HB.out).at_ k a ha
      have HR := Lib.hid (fun w => rraw_right a w)
      have HA := Lib.hid ha
      obtain ⟨r, hr⟩ : ∃ r, r = okR a := ⟨_, rfl⟩
      rw [← hr] at HR
      have HRR := Lib.hid hr
      clear hr ha
      obtain ⟨num, wire, m, s⟩ := a
      cases r with
      | false =>
        go_wp2_with (go_at_call 9; refine (HR.out _).mono ?_; rintro e w2 ⟨rfl, hw2⟩; have hb2 : Below w.heap.size w w2 := hw2 ▸ HB.out.alloc HB.out.size _; have HB2 := Lib.hid hb2; clear hb2 hw2)
        go_ret
        exact ⟨ret_bool' (allR_off HA.out HRR.out.symm).symm, HB2.out⟩
      | true =>
        go_wp2_with (go_at_call 9; refine (HR.out _).mono ?_; rintro e w2 ⟨rfl, hw2⟩; have hb2 : Below w.heap.size w w2 := hw2 ▸ HB.out.alloc HB.out.size _; have HB2 := Lib.hid hb2; clear hb2 hw2)
        go_roundw
        case rel =>
          refine ⟨k + 1, by omega, by go_num, HB2.out, fun j b hj hb => ?_⟩
          by_cases hjk : j < k
          · exact HALL.out j b hjk hb
          · have : j = k := by omega
            subst this
            have := HA.out.symm.trans hb
            injection this with this
            subst this
            exact HRR.out.symm
        case measure => simp [intOf]; omega
    · have g1 : decide ((k : Int) < (n : Int)) = false := decide_eq_false (by omega)
      obtain rfl : k = n := by omega
      go_wp2
      go_ret
      exact ⟨ret_bool' (allR_all (fun j a ha => HALL.out j a (by have := (List.getElem?_eq_some_iff.mp ha).1; have := HN.out; omega) ha)).symm, HB.out⟩

theorem run_neq_raw (a b : Rw) (w : World) : (binOp .neq 28 (rawV a) (rawV b)).run Try.prog w = .ok (.bool (!rwEq a b)) w := by
  unfold rawV
  go_simp
  rw [ByteArray.toList_eq, ByteArray.toList_eq, show (strOf a.s).data.toList = a.s by simp [strOf], show (strOf b.s).data.toList = b.s by simp [strOf]]
  unfold rwEq
  by_cases h1 : a.num = b.num
  · by_cases h2 : a.wire = b.wire
    · by_cases h3 : a.n = b.n
      · by_cases h4 : a.s = b.s
        · simp [h1, h2, h3, h4]
        · simp [h1, h2, h3, h4]
      · have h3' : ¬ ((a.n : Int) = (b.n : Int)) := by omega
        simp [h1, h2, h3, h3']
    · simp [h1, h2]
  · simp [h1]
theorem rsame_raw (w : World) {A A' : Option Addr} {cap cap' n n' : Nat} {l m : List Rw} (h : Raws w A cap l) (h' : Raws w A' cap' m) (hn : n = l.length) (hn' : n' = m.length) :
    Calls Try.prog 12 #[.slice A n cap, .slice A' n' cap'] w fun e w' => e = .returned (.bool (sameR l m)) ∧ ∃ k, w' = w.drewN k := by
  have hle := h.le
  have hmx := h.max
  have hle' := h'.le
  have hmx' := h'.max
  rw [← hn] at hle
  rw [← hn'] at hle'
  have H := Lib.hid h
  have H' := Lib.hid h'
  have HN := Lib.hid hn
  have HN' := Lib.hid hn'
  clear h hn h' hn'
  by_cases hnn : n = n'
  · subst hnn
    go_enter Try.func12, Try.ntmps12
    go_wp2
    go_loopw [5] (fun x wr => ∃ k : Nat, k ≤ n ∧ x = .int .i64 (k : Int) ∧ (∃ i, wr = w.drewN i) ∧ ∀ (j : Nat) a b, j < k → l[j]? = some a → m[j]? = some b → rwEq a b = true) (fun x _ => n - (intOf x).toNat)
    case atStart => exact ⟨0, Nat.zero_le _, rfl, ⟨0, rfl⟩, fun j a b hj => absurd hj (Nat.not_lt_zero _)⟩
    case round =>
      obtain ⟨k, hk, rfl, ⟨i, rfl⟩, hall⟩ := hrel
      have HALL := Lib.hid hall
      clear hall
      by_cases hlt : k < n
      · have g1 : decide ((k : Int) < (n : Int)) = true := decide_eq_true (by omega)
        obtain ⟨a, ha⟩ : ∃ a, l[k]? = some a := ⟨_, List.getElem?_eq_getElem (by have := HN.out; omega)⟩
        obtain ⟨b, hb⟩ : ∃ b, m[k]? = some b := ⟨_, List.getElem?_eq_getElem (by have := HN'.out; omega)⟩
        obtain ⟨g, off, rfl, c0, c1, c2, c3⟩ := H.out.at_ k a ha
        obtain ⟨g', off', rfl, d0, d1, d2, d3⟩ := H'.out.at_ k b hb
        have HA := Lib.hid ha
        have HB := Lib.hid hb
        clear ha hb
        have HQ : ∀ w : World, (binOp .neq 28 (.agg #[.int .i64 a.num, .int .i64 a.wire, .int .u64 (a.n : Int), .string (strOf a.s)]) (.agg #[.int .i64 b.num, .int .i64 b.wire, .int .u64 (b.n : Int), .string (strOf b.s)])).run Try.prog w = .ok (.bool (!rwEq a b)) w := fun w => run_neq_raw a b w
        obtain ⟨r, hr⟩ : ∃ r, r = rwEq a b := ⟨_, rfl⟩
        rw [← hr] at HQ
        have HRR := Lib.hid hr
        clear hr
        cases r with
        | true =>
          go_wp2
          go_quiet (fail)
          go_wp2
          go_roundw
          case rel =>
            refine ⟨k + 1, by omega, by go_num, ⟨i + nq, rfl⟩, fun j x y hj hx hy => ?_⟩
            by_cases hjk : j < k
            · exact HALL.out j x y hjk hx hy
            · have : j = k := by omega
              subst this
              have e1 := HA.out.symm.trans hx
              have e2 := HB.out.symm.trans hy
              injection e1 with e1
              injection e2 with e2
              subst e1 e2
              exact HRR.out.symm
          case measure => simp [intOf]; omega
        | false =>
          go_wp2
          go_quiet (fail)
          go_wp2
          go_ret
          exact ⟨ret_bool' (sameR_off HA.out HB.out HRR.out.symm).symm, _, World.drewN_drewN _ _ _⟩
      · have g1 : decide ((k : Int) < (n : Int)) = false := decide_eq_false (by omega)
        obtain rfl : k = n := by omega
        go_wp2
        go_ret
        exact ⟨ret_bool' (sameR_all (by have := HN.out; have := HN'.out; omega) (fun j a b ha hb => HALL.out j a b (by have := (List.getElem?_eq_some_iff.mp ha).1; have := HN.out; omega) ha hb)).symm, _, rfl⟩
  · have g1 : ((n : Int) == (n' : Int)) = false := beq_false_of_ne (by omega)
    have g2 : ¬ ((n : Int) = (n' : Int)) := by omega
    have HS : Hid (sameR l m = false) := Lib.hid (sameR_length (by have := HN.out; have := HN'.out; omega))
    go_enter Try.func12, Try.ntmps12
    go_wp2
    go_ret
    exact ⟨ret_bool' HS.out.symm, 0, rfl⟩

def IsSmall (w : World) (n : Nat) (l : List Rw) (e : Ending) (w' : World) : Prop := ∃ b, e = .returned (.bool b) ∧ (b = true → n ≤ 50 ∧ ∀ a ∈ l, a.s.length ≤ 300) ∧ w = w'
theorem small_any {w : World} {A : Option Addr} {cap n : Nat} {l : List Rw} (h : Raws w A cap l) (hn : n = l.length) :
    Calls Try.prog 6 #[.slice A n cap] w (IsSmall w n l) := by
  have hle := h.le
  have hmx := h.max
  rw [← hn] at hle
  have H := Lib.hid h
  have HN := Lib.hid hn
  clear h hn
  go_enter Try.func6, Try.ntmps6
  go_wp2
  go_loop [3] (fun x => ∃ k : Nat, k ≤ n ∧ k ≤ 60 ∧ x = .int .i64 (k : Int) ∧ ∀ j a, j < k → l[j]? = some a → a.s.length ≤ 300) (fun x => n - (intOf x).toNat)
  case atStart => exact ⟨0, Nat.zero_le _, Nat.zero_le _, rfl, fun j a hj => absurd hj (Nat.not_lt_zero _)⟩
  case round =>
    obtain ⟨k, hk, hk6, rfl, hall⟩ := hrel
    have HALL := Lib.hid hall
    clear hall
    by_cases hlt : k < n
    · have g1 : decide ((k : Int) < (n : Int)) = true := decide_eq_true (by omega)
      by_cases h60 : k < 60
      · have g2 : decide ((k : Int) < 60) = true := decide_eq_true (by omega)
        obtain ⟨a, ha⟩ : ∃ a, l[k]? = some a := ⟨_, List.getElem?_eq_getElem (by have := HN.out; omega)⟩
        obtain ⟨g, off, rfl, _, _, _, hc⟩ := H.out.at_ k a ha
        obtain ⟨t, ht⟩ : ∃ t, t = strOf a.s := ⟨_, rfl⟩
        have hsz : t.size = a.s.length := by rw [ht]; show a.s.toArray.size = _; simp
        rw [← ht] at hc
        have HA := Lib.hid ha
        have HSZ := Lib.hid hsz
        clear ha ht hsz
        by_cases hs : t.size ≤ 300
        · have g3 : decide ((t.size : Int) > 300) = false := decide_eq_false (by omega)
          go_wp2
          go_round
          case rel =>
            refine ⟨k + 1, by omega, by omega, by go_num, fun j b hj hb => ?_⟩
            by_cases hjk : j < k
            · exact HALL.out j b hjk hb
            · have : j = k := by omega
              subst this
              have := HA.out.symm.trans hb
              injection this with this
              subst this
              have := HSZ.out
              omega
          case measure => simp [intOf]; omega
        · have g3 : decide ((t.size : Int) > 300) = true := decide_eq_true (by omega)
          go_wp2
          go_ret
          exact ⟨false, rfl, (fun e => by cases e), rfl⟩
      · have g2 : decide ((k : Int) < 60) = false := decide_eq_false (by omega)
        have g4 : decide ((n : Int) ≤ 50) = false := decide_eq_false (by omega)
        go_wp2
        go_ret
        exact ⟨false, rfl, (fun e => by cases e), rfl⟩
    · have g1 : decide ((k : Int) < (n : Int)) = false := decide_eq_false (by omega)
      go_wp2
      go_ret
      refine ⟨decide ((n : Int) ≤ 50), rfl, fun e => ?_, rfl⟩
      have := of_decide_eq_true e
      refine ⟨by omega, fun a ha => ?_⟩
      obtain ⟨j, hj⟩ := List.getElem?_of_mem ha
      exact HALL.out j a (by have := (List.getElem?_eq_some_iff.mp hj).1; have := HN.out; omega) hj
end Go.Proofs.Ytalbiieagcandaa

/- The program's Right and Same of fields. Conditions: those that each theorem names. -/
namespace Go.Proofs.Ytalbiieagcandaa
open Go.RowKit
set_option linter.unusedVariables false
set_option maxRecDepth 100000

theorem raw_right (x : Rw) (w : World) : Calls Try.prog 8 #[rawV x] w fun e w' => e = .returned (.bool (okR x)) ∧ w' = w.alloc (.cells (rawCells x).toArray 28) := by
  obtain ⟨num, wire, n, s⟩ := x
  unfold rawV rawCells
  dsimp only
  have HR := Lib.hid (fun w => right_any num wire w)
  cases hr : rightB num wire with
  | false =>
    rw [hr] at HR
    have HO : Hid (okR ⟨num, wire, n, s⟩ = false) := by show _ = _; simp [okR, hr]
    clear hr
    go_enter Try.func8, Try.ntmps8
    go_wp2_with (go_at_call 21; refine (HR.out _).mono ?_; rintro e w' ⟨rfl, rfl⟩)
    go_ret
    exact ⟨ret_bool' HO.out.symm, rfl⟩
  | true =>
    rw [hr] at HR
    by_cases h2 : wire = 2
    · subst h2
      have HO : Hid (okR ⟨num, 2, n, s⟩ = ((n : Int) == 0)) := by show _ = _; simp [okR, hr]; by_cases h : n = 0 <;> simp [h]
      clear hr
      go_enter Try.func8, Try.ntmps8
      go_wp2_with (go_at_call 21; refine (HR.out _).mono ?_; rintro e w' ⟨rfl, rfl⟩)
      go_ret
      exact ⟨ret_bool' HO.out.symm, rfl⟩
    · have g2 : (wire == 2) = false := beq_false_of_ne h2
      by_cases h5 : wire = 5
      · subst h5
        by_cases hs : s = []
        · subst hs
          have e0 : strOf [] = ⟨#[]⟩ := rfl
          rw [e0]
          have HO : Hid (okR ⟨num, 5, n, []⟩ = decide (n < 4294967296)) := by show _ = _; unfold okR; generalize decide (n < 4294967296) = b; simp [hr]
          clear hr
          by_cases hlt : n < 4294967296
          · have g6 : decide ((n : Int) ≤ 4294967295) = true := decide_eq_true (by omega)
            have HO2 : Hid (okR ⟨num, 5, n, []⟩ = true) := Lib.hid (HO.out.trans (decide_eq_true hlt))
            clear HO
            go_enter Try.func8, Try.ntmps8
            go_wp2_with (go_at_call 21; refine (HR.out _).mono ?_; rintro e w' ⟨rfl, rfl⟩)
            go_ret
            exact ⟨ret_bool' HO2.out.symm, rfl⟩
          · have g6 : decide ((n : Int) ≤ 4294967295) = false := decide_eq_false (by omega)
            have HO2 : Hid (okR ⟨num, 5, n, []⟩ = false) := Lib.hid (HO.out.trans (decide_eq_false hlt))
            clear HO
            go_enter Try.func8, Try.ntmps8
            go_wp2_with (go_at_call 21; refine (HR.out _).mono ?_; rintro e w' ⟨rfl, rfl⟩)
            go_ret
            exact ⟨ret_bool' HO2.out.symm, rfl⟩
        · have e1 : (strOf s).toList = s := by rw [ByteArray.toList_eq]; simp [strOf]
          have g3 : (strOf s).toList.isEmpty = false := by rw [e1]; simpa using hs
          have g4 : ¬ (strOf s).toList = [] := by rw [e1]; exact hs
          have HO : Hid (okR ⟨num, 5, n, s⟩ = false) := by show _ = _; simp [okR, hr, hs]
          obtain ⟨t, ht⟩ : ∃ t, t = strOf s := ⟨_, rfl⟩
          rw [← ht] at g3 g4 ⊢
          clear hr h2 hs ht e1
          go_enter Try.func8, Try.ntmps8
          go_wp2_with (go_at_call 21; refine (HR.out _).mono ?_; rintro e w' ⟨rfl, rfl⟩)
          go_ret
          exact ⟨ret_bool' HO.out.symm, rfl⟩
      · have g5 : (wire == 5) = false := beq_false_of_ne h5
        by_cases hs : s = []
        · subst hs
          have e0 : strOf [] = ⟨#[]⟩ := rfl
          rw [e0]
          have HO : Hid (okR ⟨num, wire, n, []⟩ = true) := by show _ = _; simp [okR, hr, h2, h5]
          clear hr h2
          go_enter Try.func8, Try.ntmps8
          go_wp2_with (go_at_call 21; refine (HR.out _).mono ?_; rintro e w' ⟨rfl, rfl⟩)
          go_ret
          exact ⟨ret_bool' HO.out.symm, rfl⟩
        · have e1 : (strOf s).toList = s := by rw [ByteArray.toList_eq]; simp [strOf]
          have g3 : (strOf s).toList.isEmpty = false := by rw [e1]; simpa using hs
          have g4 : ¬ (strOf s).toList = [] := by rw [e1]; exact hs
          have HO : Hid (okR ⟨num, wire, n, s⟩ = false) := by show _ = _; simp [okR, hr, h2, hs]
          obtain ⟨t, ht⟩ : ∃ t, t = strOf s := ⟨_, rfl⟩
          rw [← ht] at g3 g4 ⊢
          clear hr h2 hs ht e1
          go_enter Try.func8, Try.ntmps8
          go_wp2_with (go_at_call 21; refine (HR.out _).mono ?_; rintro e w' ⟨rfl, rfl⟩)
          go_ret
          exact ⟨ret_bool' HO.out.symm, rfl⟩

theorem equal_raw (w : World) {A A' : Option Addr} {cap cap' n n' : Nat} {l m : List Rw} (h : Raws w A cap l) (h' : Raws w A' cap' m) (hn : n = l.length) (hn' : n' = m.length) :
    Calls Try.prog 26 #[.slice A n cap, .slice A' n' cap'] w fun e w' => e = .returned (.bool (sameR l m)) ∧ ∃ k, w' = w.drewN k := by
  have hle := h.le
  have hmx := h.max
  have hle' := h'.le
  have hmx' := h'.max
  rw [← hn] at hle
  rw [← hn'] at hle'
  have H := Lib.hid h
  have H' := Lib.hid h'
  have HN := Lib.hid hn
  have HN' := Lib.hid hn'
  clear h hn h' hn'
  by_cases hnn : n = n'
  · subst hnn
    go_enter Try.func26, Try.ntmps26
    go_wp2
    go_loopw [13] (fun x wr => ∃ k : Nat, k ≤ n ∧ x = .int .i64 (k : Int) ∧ (∃ i, wr = w.drewN i) ∧ ∀ (j : Nat) a b, j < k → l[j]? = some a → m[j]? = some b → rwEq a b = true) (fun x _ => n - (intOf x).toNat)
    case atStart => exact ⟨0, Nat.zero_le _, rfl, ⟨0, rfl⟩, fun j a b hj => absurd hj (Nat.not_lt_zero _)⟩
    case round =>
      obtain ⟨k, hk, rfl, ⟨i, rfl⟩, hall⟩ := hrel
      have HALL := Lib.hid hall
      clear hall
      by_cases hlt : k < n
      · have g1 : decide ((k : Int) < (n : Int)) = true := decide_eq_true (by omega)
        obtain ⟨a, ha⟩ : ∃ a, l[k]? = some a := ⟨_, List.getElem?_eq_getElem (by have := HN.out; omega)⟩
        obtain ⟨b, hb⟩ : ∃ b, m[k]? = some b := ⟨_, List.getElem?_eq_getElem (by have := HN'.out; omega)⟩
        obtain ⟨g, off, rfl, c0, c1, c2, c3⟩ := H.out.at_ k a ha
        obtain ⟨g', off', rfl, d0, d1, d2, d3⟩ := H'.out.at_ k b hb
        have HA := Lib.hid ha
        have HB := Lib.hid hb
        clear ha hb
        have HQ : ∀ w : World, (binOp .neq 28 (.agg #[.int .i64 a.num, .int .i64 a.wire, .int .u64 (a.n : Int), .string (strOf a.s)]) (.agg #[.int .i64 b.num, .int .i64 b.wire, .int .u64 (b.n : Int), .string (strOf b.s)])).run Try.prog w = .ok (.bool (!rwEq a b)) w := fun w => run_neq_raw a b w
        obtain ⟨r, hr⟩ : ∃ r, r = rwEq a b := ⟨_, rfl⟩
        rw [← hr] at HQ
        have HRR := Lib.hid hr
        clear hr
        cases r with
        | true =>
          go_wp2
          go_quiet (fail)
          go_wp2
          go_roundw
          case rel =>
            refine ⟨k + 1, by omega, by go_num, ⟨i + nq, rfl⟩, fun j x y hj hx hy => ?_⟩
            by_cases hjk : j < k
            · exact HALL.out j x y hjk hx hy
            · have : j = k := by omega
              subst this
              have e1 := HA.out.symm.trans hx
              have e2 := HB.out.symm.trans hy
              injection e1 with e1
              injection e2 with e2
              subst e1 e2
              exact HRR.out.symm
          case measure => simp [intOf]; omega
        | false =>
          go_wp2
          go_quiet (fail)
          go_wp2
          go_ret
          exact ⟨ret_bool' (sameR_off HA.out HB.out HRR.out.symm).symm, _, World.drewN_drewN _ _ _⟩
      · have g1 : decide ((k : Int) < (n : Int)) = false := decide_eq_false (by omega)
        obtain rfl : k = n := by omega
        go_wp2
        go_ret
        exact ⟨ret_bool' (sameR_all (by have := HN.out; have := HN'.out; omega) (fun j a b ha hb => HALL.out j a b (by have := (List.getElem?_eq_some_iff.mp ha).1; have := HN.out; omega) ha hb)).symm, _, rfl⟩
  · have g1 : ((n : Int) == (n' : Int)) = false := beq_false_of_ne (by omega)
    have g2 : ¬ ((n : Int) = (n' : Int)) := by omega
    have HS : Hid (sameR l m = false) := Lib.hid (sameR_length (by have := HN.out; have := HN'.out; omega))
    go_enter Try.func26, Try.ntmps26
    go_wp2
    go_ret
    exact ⟨ret_bool' HS.out.symm, 0, rfl⟩
theorem same_raw (w : World) {A A' : Option Addr} {cap cap' n n' : Nat} {l m : List Rw} (h : Raws w A cap l) (h' : Raws w A' cap' m) (hn : n = l.length) (hn' : n' = m.length) :
    Calls Try.prog 11 #[.slice A n cap, .slice A' n' cap'] w fun e w' => e = .returned (.bool (sameR l m)) ∧ ∃ k, w' = w.drewN k := by
  have HE := Lib.hid (equal_raw w h h' hn hn')
  clear h h' hn hn'
  go_enter Try.func11, Try.ntmps11
  go_wp2_with (go_at_call 26; refine HE.out.mono ?_; rintro e w' ⟨rfl, k, rfl⟩)
  go_ret
  exact ⟨rfl, k, rfl⟩
end Go.Proofs.Ytalbiieagcandaa
