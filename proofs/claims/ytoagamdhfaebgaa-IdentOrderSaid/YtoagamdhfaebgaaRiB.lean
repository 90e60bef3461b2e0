/- The document's Once. Conditions: those that each theorem names. -/
import Derived.Test.YtoagamdhfaebgaaRiA
namespace Go.Proofs.Ytoagamdhfaebgaa
open Go.RowKit
set_option linter.unusedVariables false
set_option maxRecDepth 100000

theorem ronce_any (w : World) {A : Option Addr} {cap n : Nat} {ts : List (List UInt8)} (hs : Sl w A cap (txts ts)) (hn : n = ts.length) :
    Calls Try.prog 12 #[.slice A n cap] w fun e w' => e = .returned (.bool (onceB ts)) ∧ ∃ k, w' = w.drewN k := by
  have hle := hs.le
  have hmx := hs.max
  rw [txts_length, ← hn] at hle
  unfold maxLen at hmx
  have H := Lib.hid hs
  have HN := Lib.hid hn
  clear hs hn
  go_enter Try.func12, Try.ntmps12
  go_wp2
  go_loopg [3, 4] n (fun g x y wr => ∃ i : Nat, x = .int .i64 (i : Int) ∧ i + g = n ∧ (∃ j, wr = w.drewN j) ∧ ∀ (p q : Nat) a b, q < p → p < i → ts[p]? = some a → ts[q]? = some b → a ≠ b)
  case atStart => exact ⟨0, rfl, by omega, ⟨0, rfl⟩, fun p q a b hq hp => absurd hp (Nat.not_lt_zero _)⟩
  case round =>
    obtain ⟨i, rfl, hi, ⟨d, rfl⟩, hall⟩ := hrel
    have HALL := Lib.hid hall
    clear hall
    obtain ⟨g0, hg0⟩ : ∃ g0, g0 = gk := ⟨_, rfl⟩
    subst hg0
    by_cases hlt : i < n
    · have g1 : decide ((i : Int) < (n : Int)) = true := decide_eq_true (by omega)
      obtain ⟨a, ha⟩ : ∃ a, ts[i]? = some a := ⟨_, List.getElem?_eq_getElem (by have := HN.out; omega)⟩
      obtain ⟨g, off, rfl, c0⟩ := H.out.at_ i (.string (strOf a)) (by rw [txts, List.getElem?_map, ha]; rfl)
      have HA := Lib.hid ha
      obtain ⟨sa, hsa⟩ : ∃ sa, sa = strOf a := ⟨_, rfl⟩
      rw [← hsa] at c0
      have HSA := Lib.hid hsa
      clear ha hsa
      go_wp2
      go_loopg [4] i (fun h y wr => ∃ k : Nat, y = .int .i64 (k : Int) ∧ k + h = i ∧ (∃ j, wr = w.drewN j) ∧ ∀ (q : Nat) b, q < k → ts[q]? = some b → a ≠ b)
      case atStart => exact ⟨0, rfl, by omega, ⟨d, rfl⟩, fun q b hq => absurd hq (Nat.not_lt_zero _)⟩
      case round =>
        obtain ⟨k, rfl, hk, ⟨d2, rfl⟩, hin⟩ := hrel
        obtain ⟨h0, hh0⟩ : ∃ h0, h0 = gk := ⟨_, rfl⟩
        subst hh0
        have HIN := Lib.hid hin
        clear hin
        by_cases hki : k < i
        · have g2 : decide ((k : Int) < (i : Int)) = true := decide_eq_true (by omega)
          obtain ⟨b, hb⟩ : ∃ b, ts[k]? = some b := ⟨_, List.getElem?_eq_getElem (by have := HN.out; omega)⟩
          obtain ⟨g', off', e', c1⟩ := H.out.at_ k (.string (strOf b)) (by rw [txts, List.getElem?_map, hb]; rfl)
          cases e'
          have HB := Lib.hid hb
          by_cases hab : a = b
          · subst hab
            rw [← HSA.out] at c1
            clear hb
            go_wp2
            go_quiet (fail)
            go_wp2
            go_ret
            exact ⟨ret_bool' (onceB_off hki HA.out HB.out).symm, _, World.drewN_drewN _ _ _⟩
          · obtain ⟨sb, hsb⟩ : ∃ sb, sb = strOf b := ⟨_, rfl⟩
            have hne : ¬ sa.toList = sb.toList := by rw [HSA.out, hsb, str_list, str_list]; exact hab
            have hne2 : (sa.toList == sb.toList) = false := by rw [HSA.out, hsb, strOf_beq]; exact decide_eq_false hab
            rw [← hsb] at c1
            have HAB := Lib.hid hab
            clear hb hsb hab
            go_wp2
            go_quiet (fail)
            go_wp2
            go_roundg (h0 - 1)
            case measure => omega
            case rel =>
              refine ⟨k + 1, by go_num, by omega, ⟨d2 + nq, rfl⟩, fun q c hq hc => ?_⟩
              by_cases hqk : q < k
              · exact HIN.out q c hqk hc
              · have : q = k := by omega
                subst this
                have e1 := HB.out.symm.trans hc
                injection e1 with e1
                subst e1
                exact HAB.out
        · have g2 : decide ((k : Int) < (i : Int)) = false := decide_eq_false (by omega)
          obtain rfl : k = i := by omega
          go_wp2
          go_roundg (g0 - 1)
          case measure => omega
          case rel =>
            refine ⟨k + 1, by go_num, by omega, ⟨d2, rfl⟩, fun p q x y hq hp hx hy => ?_⟩
            by_cases hpk : p < k
            · exact HALL.out p q x y hq hpk hx hy
            · have : p = k := by omega
              subst this
              have e1 := HA.out.symm.trans hx
              injection e1 with e1
              subst e1
              exact HIN.out q y hq hy
    · have g1 : decide ((i : Int) < (n : Int)) = false := decide_eq_false (by omega)
      have HE : Hid (onceB ts = true) := Lib.hid (onceB_all (fun p q a b hq hp hqq => HALL.out p q a b hq (by have := (List.getElem?_eq_some_iff.mp hp).1; have := HN.out; omega) hp hqq))
      go_wp2
      go_ret
      exact ⟨ret_bool' HE.out.symm, _, rfl⟩
end Go.Proofs.Ytoagamdhfaebgaa
