/- Several texts in one: RiA, RiB. What each proves, and its conditions, stands at its own head. -/
import Derived.Test.YtloheacncefkgaaGreatDoorChecked
import Derived.Test.YtloheacncefkgaaGreatDoorPkEU0
import Derived.WalkKit
import Derived.OwnWalk
import Derived.RowKitTokens
import Derived.Lib.Hide
import Derived.BigQuiet
import Derived.Deep.QuietTactic
import Derived.IntWalk
import Derived.Laws.Cover1
import Derived.Deep.LoopGhost
/- The document's Rise and Once. Conditions: those that each theorem names. -/
namespace Go.Proofs.YtloheacncefkgaaGreatDoor
open Go.RowKit
set_option linter.unusedVariables false
set_option maxRecDepth 100000

theorem less_ahead : ∀ a b : List UInt8, Op.bytesLess a b = ahead a b
 | [], [] => rfl
 | _ :: _, [] => rfl
 | [], _ :: _ => rfl
 | x :: a, y :: b => by
   rw [Op.bytesLess, ahead, less_ahead a b]
   by_cases h1 : x.toNat < y.toNat
   ·rw [if_pos h1]
    have : x < y := h1
    simp [this]
   ·rw [if_neg h1]
    have n1 : ¬ x < y := h1
    by_cases h2 : y.toNat < x.toNat
    ·rw [if_pos h2]
     have : x ≠ y := fun e => by subst e; omega
     simp [n1, this]
    ·rw [if_neg h2]
     have : x = y := UInt8.toNat_inj.mp (by omega)
     subst this
     simp
theorem str_list (a : List UInt8) : (strOf a).toList = a := by rw [ByteArray.toList_eq]; simp [strOf]
theorem rrise_any (w : World) {A : Option Addr} {cap n : Nat} {ts : List (List UInt8)} (hs : Sl w A cap (txts ts)) (hn : n = ts.length) :
 Calls Tryz.prog 51 #[.slice A n cap] w fun e w' => e = .returned (.bool (riseB ts)) ∧ ∃ k, w' = w.drewN k := by
 have hle := hs.le
 have hmx := hs.max
 rw [txts_length, ← hn] at hle
 unfold maxLen at hmx
 have H := Lib.hid hs
 have HN := Lib.hid hn
 clear hs hn
 go_enter Tryz.func51, Tryz.ntmps51
 go_wp2
 go_loopw [3] (fun x wr => ∃ k : Nat, x = .int .i64 ((k + 1 : Nat) : Int) ∧ k ≤ n ∧ (∃ i, wr = w.drewN i) ∧ ∀ (j : Nat) a b, j < k → ts[j]? = some a → ts[j + 1]? = some b → ahead a b = true) (fun x _ => n + 1 - (intOf x).toNat)
 case atStart => exact ⟨0, rfl, Nat.zero_le _, ⟨0, rfl⟩, fun j a b hj => absurd hj (Nat.not_lt_zero _)⟩
 case round =>
  obtain ⟨k, rfl, hk, ⟨i, rfl⟩, hall⟩ := hrel
  have HALL := Lib.hid hall
  clear hall
  obtain ⟨k1, hk1⟩ : ∃ k1, k1 = k + 1 := ⟨_, rfl⟩
  rw [← hk1]
  by_cases hlt : k1 < n
  ·have g1 : decide ((k1 : Int) < (n : Int)) = true := decide_eq_true (by omega)
   obtain ⟨a, ha⟩ : ∃ a, ts[k]? = some a := ⟨_, List.getElem?_eq_getElem (by have := HN.out; omega)⟩
   obtain ⟨b, hb⟩ : ∃ b, ts[k + 1]? = some b := ⟨_, List.getElem?_eq_getElem (by have := HN.out; omega)⟩
   obtain ⟨g, off, rfl, c0⟩ := H.out.at_ k (.string (strOf a)) (by rw [txts, List.getElem?_map, ha]; rfl)
   obtain ⟨g', off', e', c1⟩ := H.out.at_ (k + 1) (.string (strOf b)) (by rw [txts, List.getElem?_map, hb]; rfl)
   cases e'
   rw [← hk1] at c1
   have HA := Lib.hid ha
   have HB := Lib.hid hb
   have HQ : Op.bytesLess (strOf a).toList (strOf b).toList = ahead a b := by rw [str_list, str_list, less_ahead]
   obtain ⟨r, hr⟩ : ∃ r, r = ahead a b := ⟨_, rfl⟩
   rw [← hr] at HQ
   have HR := Lib.hid hr
   obtain ⟨sa, hsa⟩ : ∃ sa, sa = strOf a := ⟨_, rfl⟩
   obtain ⟨sb, hsb⟩ : ∃ sb, sb = strOf b := ⟨_, rfl⟩
   rw [← hsa] at c0 HQ
   rw [← hsb] at c1 HQ
   have gw : IntKind.i64.wrap ((k1 : Int) - 1) = (k : Int) := by rw [show (k1 : Int) - 1 = (k : Int) by omega]; exact IntWalk.i64_in _ (by omega)
   have gx : (k1 : Int) - 1 = (k : Int) := by omega
   have hkk : k < n := by omega
   have HK1 := Lib.hid hk1
   clear ha hb hr hsa hsb hk1 hk
   cases r with
   | true =>
     go_wp2
     go_quiet (fail)
     go_wp2
     go_roundw
     case rel =>
      refine ⟨k + 1, by have := HK1.out; go_num, by have := HK1.out; omega, ⟨i + nq, rfl⟩, fun j x y hj hx hy => ?_⟩
      by_cases hjk : j < k
      ·exact HALL.out j x y hjk hx hy
      ·have : j = k := by omega
       subst this
       have e1 := HA.out.symm.trans hx
       have e2 := HB.out.symm.trans hy
       injection e1 with e1
       injection e2 with e2
       subst e1 e2
       exact HR.out.symm
     case measure => simp [intOf]; omega
   | false =>
     go_wp2
     go_quiet (fail)
     go_wp2
     go_ret
     exact ⟨ret_bool' (riseB_off HA.out HB.out HR.out.symm).symm, _, World.drewN_drewN _ _ _⟩
  ·have g1 : decide ((k1 : Int) < (n : Int)) = false := decide_eq_false (by omega)
   have HE : Hid (riseB ts = true) := Lib.hid (riseB_all (fun j a b ha hb => HALL.out j a b (by have := (List.getElem?_eq_some_iff.mp hb).1; have := HN.out; omega) ha hb))
   clear hk1
   go_wp2
   go_ret
   exact ⟨ret_bool' HE.out.symm, _, rfl⟩
end Go.Proofs.YtloheacncefkgaaGreatDoor

/- The document's Once. Conditions: those that each theorem names. -/
namespace Go.Proofs.YtloheacncefkgaaGreatDoor
open Go.RowKit
set_option linter.unusedVariables false
set_option maxRecDepth 100000

theorem ronce_any (w : World) {A : Option Addr} {cap n : Nat} {ts : List (List UInt8)} (hs : Sl w A cap (txts ts)) (hn : n = ts.length) :
 Calls Tryz.prog 49 #[.slice A n cap] w fun e w' => e = .returned (.bool (onceB ts)) ∧ ∃ k, w' = w.drewN k := by
 have hle := hs.le
 have hmx := hs.max
 rw [txts_length, ← hn] at hle
 unfold maxLen at hmx
 have H := Lib.hid hs
 have HN := Lib.hid hn
 clear hs hn
 go_enter Tryz.func49, Tryz.ntmps49
 go_wp2
 go_loopg [3, 4] n (fun g x y wr => ∃ i : Nat, x = .int .i64 (i : Int) ∧ i + g = n ∧ (∃ j, wr = w.drewN j) ∧ ∀ (p q : Nat) a b, q < p → p < i → ts[p]? = some a → ts[q]? = some b → a ≠ b)
 case atStart => exact ⟨0, rfl, by omega, ⟨0, rfl⟩, fun p q a b hq hp => absurd hp (Nat.not_lt_zero _)⟩
 case round =>
  obtain ⟨i, rfl, hi, ⟨d, rfl⟩, hall⟩ := hrel
  have HALL := Lib.hid hall
  clear hall
  obtain ⟨g0, hg0⟩ : ∃ g0, g0 = gk := ⟨_, rfl⟩
  subst hg0
  by_cases hlt : i < n
  ·have g1 : decide ((i : Int) < (n : Int)) = true := decide_eq_true (by omega)
   obtain ⟨a, ha⟩ : ∃ a, ts[i]? = some a := ⟨_, List.getElem?_eq_getElem (by have := HN.out; omega)⟩
   obtain ⟨g, off, rfl, c0⟩ := H.out.at_ i (.string (strOf a)) (by rw [txts, List.getElem?_map, ha]; rfl)
   have HA := Lib.hid ha
   obtain ⟨sa, hsa⟩ : ∃ sa, sa = strOf a := ⟨_, rfl⟩
   rw [← hsa] at c0
   have HSA := Lib.hid hsa
   clear ha hsa
   go_wp2
   go_loopg [4] i (fun h y wr => ∃ k : Nat, y = .int .i64 (k : Int) ∧ k + h = i ∧ (∃ j, wr = w.drewN j) ∧ ∀ (q : Nat) b, q < k → ts[q]? = some b → a ≠ b)
   case atStart => exact ⟨0, rfl, by omega, ⟨d, rfl⟩, fun q b hq => absurd hq (Nat.not_lt_zero _)⟩
   case round =>
    obtain ⟨k, rfl, hk, ⟨d2, rfl⟩, hin⟩ := hrel
    obtain ⟨h0, hh0⟩ : ∃ h0, h0 = gk := ⟨_, rfl⟩
    subst hh0
    have HIN := Lib.hid hin
    clear hin
    by_cases hki : k < i
    ·have g2 : decide ((k : Int) < (i : Int)) = true := decide_eq_true (by omega)
     obtain ⟨b, hb⟩ : ∃ b, ts[k]? = some b := ⟨_, List.getElem?_eq_getElem (by have := HN.out; omega)⟩
     obtain ⟨g', off', e', c1⟩ := H.out.at_ k (.string (strOf b)) (by rw [txts, List.getElem?_map, hb]; rfl)
     cases e'
     have HB := Lib.hid hb
     by_cases hab : a = b
     ·subst hab
      rw [← HSA.out] at c1
      clear hb
      go_wp2
      go_quiet (fail)
      go_wp2
      go_ret
      exact ⟨ret_bool' (onceB_off hki HA.out HB.out).symm, _, World.drewN_drewN _ _ _⟩
     ·obtain ⟨sb, hsb⟩ : ∃ sb, sb = strOf b := ⟨_, rfl⟩
      have hne : ¬ sa.toList = sb.toList := by rw [HSA.out, hsb, str_list, str_list]; exact hab
      have hne2 : (sa.toList == sb.toList) = false := by rw [HSA.out, hsb, strOf_beq]; exact decide_eq_false hab
      rw [← hsb] at c1
      have HAB := Lib.hid hab
      clear hb hsb hab
      go_wp2
      go_quiet (fail)
      go_wp2
      go_roundg (h0 - 1)
      case measure => omega
      case rel =>
       refine ⟨k + 1, by go_num, by omega, ⟨d2 + nq, rfl⟩, fun q c hq hc => ?_⟩
       by_cases hqk : q < k
       ·exact HIN.out q c hqk hc
       ·have : q = k := by omega
        subst this
        have e1 := HB.out.symm.trans hc
        injection e1 with e1
        subst e1
        exact HAB.out
    ·have g2 : decide ((k : Int) < (i : Int)) = false := decide_eq_false (by omega)
     obtain rfl : k = i := by omega
     go_wp2
     go_roundg (g0 - 1)
     case measure => omega
     case rel =>
      refine ⟨k + 1, by go_num, by omega, ⟨d2, rfl⟩, fun p q x y hq hp hx hy => ?_⟩
      by_cases hpk : p < k
      ·exact HALL.out p q x y hq hpk hx hy
      ·have : p = k := by omega
       subst this
       have e1 := HA.out.symm.trans hx
       injection e1 with e1
       subst e1
       exact HIN.out q y hq hy
  ·have g1 : decide ((i : Int) < (n : Int)) = false := decide_eq_false (by omega)
   have HE : Hid (onceB ts = true) := Lib.hid (onceB_all (fun p q a b hq hp hqq => HALL.out p q a b hq (by have := (List.getElem?_eq_some_iff.mp hp).1; have := HN.out; omega) hp hqq))
   go_wp2
   go_ret
   exact ⟨ret_bool' HE.out.symm, _, rfl⟩
end Go.Proofs.YtloheacncefkgaaGreatDoor
