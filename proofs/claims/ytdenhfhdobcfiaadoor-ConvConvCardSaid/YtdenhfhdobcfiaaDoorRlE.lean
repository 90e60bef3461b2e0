/- The document's text that a text begins with. Conditions: those that each theorem names. -/
import Derived.Test.YtdenhfhdobcfiaaDoorLexTxt
import Derived.Test.YtdenhfhdobcfiaaDoorGives
import Derived.Test.YtdenhfhdobcfiaaDoorInts
import Derived.IntWalk
import Derived.Deep.LoopGhost
namespace Go.Proofs.YtdenhfhdobcfiaaDoor
open Go.RowKit
set_option linter.unusedVariables false
set_option maxRecDepth 100000

def textV2 (r : List UInt8 × Nat) : Value := .tuple #[.string (strOf r.1), .int .i64 (r.2 : Int)]
set_option maxHeartbeats 4000000 in
theorem rltext_any (t : List UInt8) (w : World) (hl : t.length ≤ 1000000) : Calls Tryd.prog 33 #[.string (strOf t)] w fun e w' => e = .returned (textV2 (textT t)) ∧ Below w.heap.size w w' := by
  obtain ⟨i0, hi, hz0, hz1, hz2⟩ := info_parts info_u8
  obtain ⟨n, hn⟩ : ∃ n, n = t.length := ⟨_, rfl⟩
  obtain ⟨str, hstr⟩ : ∃ str, str = strOf t := ⟨_, rfl⟩
  have hsz : str.size = n := by rw [hstr, str_size, hn]
  rw [← hn] at hl
  rw [← hstr]
  have HN := Lib.hid hn
  have EKK : Hid (∀ (k : Nat) (a : UInt8) (h : k < str.size), t[k]? = some a → str[k]'h = a) := Lib.hid (fun k a h ha => by
    obtain ⟨q1, q2⟩ := List.getElem?_eq_some_iff.mp ha
    have := hstr
    subst this
    exact q2)
  clear hn hstr
  by_cases hgo : ∃ h0 : 0 < str.size, str[0]'h0 = 39
  · obtain ⟨h0, E0⟩ := hgo
    have hn0 : (0 : Int) < (n : Int) := by omega
    have hn1 : decide ((n : Int) > 0) = true := decide_eq_true (by omega)
    have hn2 : decide (0 < n) = true := decide_eq_true (by omega)
    obtain ⟨c0, hc0⟩ : ∃ c, t[0]? = some c := ⟨_, List.getElem?_eq_getElem (by have := HN.out; omega)⟩
    have HC0 : Hid (t[0]? = some c0 ∧ c0.toNat = 39) := Lib.hid ⟨hc0, by rw [← EKK.out 0 c0 h0 hc0, E0]; rfl⟩
    clear hc0
    go_enter Tryd.func33, Tryd.ntmps33
    go_wp2
    go_loopg [4, 5] n (fun g v x wr => ∃ (k m : Nat) (vo : Value) (o : List UInt8), x = .int .i64 (k : Int) ∧ 1 ≤ k ∧ k ≤ n ∧ n - k ≤ g ∧ vo = v ∧ o.length ≤ k ∧ TextAt t o k ∧ wr.ownsRow w.heap.size 5 1 vo m (cellsOf o) ∧ Below w.heap.size w wr)
    case atStart => exact ⟨1, 0, _, [], rfl, Nat.le_refl _, by omega, by omega, rfl, Nat.zero_le _, textAt_start t, own0 w, (Below.refl _ _).alloc (Nat.le_refl _) _⟩
    case round =>
      obtain ⟨k, m, vo, o, rfl, h1k, hk, hg, rfl, hol, hat, hown, hbel⟩ := hrel
      obtain ⟨g0, hg0⟩ : ∃ g0, g0 = gk := ⟨_, rfl⟩
      subst hg0
      have HAT := Lib.hid hat
      have HOW := Lib.hid hown
      have HB := Lib.hid hbel
      clear hat hown hbel
      by_cases hlt : k < n
      · have g3 : decide ((k : Int) < (n : Int)) = true := decide_eq_true (by omega)
        obtain ⟨a, ha⟩ : ∃ a, t[k]? = some a := ⟨_, List.getElem?_eq_getElem (by have := HN.out; omega)⟩
        have hsk : k < str.size := by omega
        have EK : str[k]'hsk = a := EKK.out k a hsk ha
        have hk0 : 0 ≤ (k : Int) := by omega
        have hk1 : (k : Int) < (n : Int) := by omega
        have HA := Lib.hid ha
        by_cases h39 : a.toNat = 39
        · have ha39 : a = 39 := UInt8.toNat_inj.mp h39
          subst ha39
          by_cases hend : k + 1 < n
          · have g4 : decide ((k : Int) + 1 ≥ (n : Int)) = false := decide_eq_false (by omega)
            obtain ⟨b, hb⟩ : ∃ b, t[k + 1]? = some b := ⟨_, List.getElem?_eq_getElem (by have := HN.out; omega)⟩
            have hsk1 : k + 1 < str.size := by omega
            have EK1 : str[k + 1]'hsk1 = b := EKK.out (k + 1) b hsk1 hb
            have hk2 : 0 ≤ (k : Int) + 1 := by omega
            have hk3 : (k : Int) + 1 < (n : Int) := by omega
            by_cases hb39 : b.toNat = 39
            · have hb2 : b = 39 := UInt8.toNat_inj.mp hb39
              subst hb2
              have HT : Hid (TextAt t (o ++ [39]) (k + 2)) := Lib.hid (txt_two HAT.out h1k HA.out h39 hb rfl)
              clear ha hb h39 hb39
              go_wp2_with (at_builtin
                           have hb4 := (Below.refl _ wr).alloc (Nat.le_refl _) (.cells #[.int .u8 39] 5)
                           refine wpList_append_bs rfl _ _ 50 rfl w.heap.size 5 i0 Tryd.underlying50 hi hz0 hz1 hz2 vo m o rfl (own_below HOW.out hb4) _ _ _ [39] rfl rfl (Bs.lit wr _ _ [39] (by simp [cellsOf]) (by simp only [List.length_cons, List.length_nil]; unfold maxLen; omega)) (by simp only [List.length_cons, List.length_nil]; omega) (by have := HB.out.size; simp; omega) ?_
                           intro v3 w3 ho3 hg3
                           have HO3 := Lib.hid ho3
                           have HB3 := Lib.hid ((HB.out.trans (hb4.mono HB.out.size)).grown hg3 (by have := HB.out.size; simp; omega) (fun j hj => (HOW.out.lt j hj).1))
                           clear ho3 hg3 hb4)
              go_roundg (g0 - 2)
              case measure => omega
              case rel => exact ⟨k + 2, _, _, o ++ [39], by go_num, by omega, by omega, by omega, rfl, by rw [List.length_append]; simp; omega, HT.out, HO3.out, HB3.out⟩
            · have e39 : ((b.toNat : Int) == 39) = false := beq_false_of_ne (by omega)
              have f39 : ¬ (b.toNat : Int) = 39 := by omega
              have HT : Hid (textT t = (o, k + 1)) := Lib.hid (txt_done HAT.out h1k HC0.out.1 HC0.out.2 (by rw [drop_get ha, drop_get hb, textR_close h39 hb39]))
              obtain ⟨hm, Av, capv, hv, hBs⟩ := Bs.own HOW.out
              subst hv
              have gs := run_string_bytes (P := Tryd.prog) hBs Tryd.underlying50 Tryd.underlying5 Tryd.underlying9
              clear ha hb h39 hb39 hBs
              go_wp2
              go_ret2
              exact ⟨by rw [HT.out]; rfl, HB.out⟩
          · have g4 : decide ((k : Int) + 1 ≥ (n : Int)) = true := decide_eq_true (by omega)
            have HT : Hid (textT t = (o, k + 1)) := Lib.hid (txt_done HAT.out h1k HC0.out.1 HC0.out.2 (by rw [drop_get ha, List.drop_of_length_le (by have := HN.out; omega), textR_last h39]))
            obtain ⟨hm, Av, capv, hv, hBs⟩ := Bs.own HOW.out
            subst hv
            have gs := run_string_bytes (P := Tryd.prog) hBs Tryd.underlying50 Tryd.underlying5 Tryd.underlying9
            clear ha h39 hBs
            go_wp2
            go_ret2
            exact ⟨by rw [HT.out]; rfl, HB.out⟩
        · have e39 : ((a.toNat : Int) == 39) = false := beq_false_of_ne (by omega)
          have f39 : ¬ (a.toNat : Int) = 39 := by omega
          have HT : Hid (TextAt t (o ++ [a]) (k + 1)) := Lib.hid (txt_other HAT.out h1k HA.out h39)
          clear ha
          go_wp2_with (at_builtin
                       have hb4 := (Below.refl _ wr).alloc (Nat.le_refl _) (.cells #[.int .u8 (a.toNat : Int)] 5)
                       refine wpList_append_bs rfl _ _ 50 rfl w.heap.size 5 i0 Tryd.underlying50 hi hz0 hz1 hz2 vo m o rfl (own_below HOW.out hb4) _ _ _ [a] rfl rfl (Bs.lit wr _ _ [a] rfl (by simp only [List.length_cons, List.length_nil]; unfold maxLen; omega)) (by simp only [List.length_cons, List.length_nil]; omega) (by have := HB.out.size; simp; omega) ?_
                       intro v3 w3 ho3 hg3
                       have HO3 := Lib.hid ho3
                       have HB3 := Lib.hid ((HB.out.trans (hb4.mono HB.out.size)).grown hg3 (by have := HB.out.size; simp; omega) (fun j hj => (HOW.out.lt j hj).1))
                       clear ho3 hg3 hb4)
          go_roundg (g0 - 1)
          case measure => omega
          case rel => exact ⟨k + 1, _, _, o ++ [a], by go_num, by omega, by omega, by omega, rfl, by rw [List.length_append]; simp; omega, HT.out, HO3.out, HB3.out⟩
      · have g3 : decide ((k : Int) < (n : Int)) = false := decide_eq_false (by omega)
        have HT : Hid (textT t = ([], 0)) := Lib.hid (txt_none HAT.out HC0.out.1 HC0.out.2 (by rw [List.drop_of_length_le (by have := HN.out; omega)]; rfl))
        go_wp2
        go_ret2
        exact ⟨by rw [HT.out]; rfl, HB.out⟩
  · have HT : Hid (textT t = ([], 0)) := Lib.hid (text_no (fun c hc h => hgo ⟨by have := (List.getElem?_eq_some_iff.1 hc).1; have := HN.out; omega, by rw [EKK.out 0 c _ hc]; exact UInt8.toNat_inj.mp h⟩))
    by_cases h0 : 0 < n
    · have hs0 : 0 < str.size := by omega
      obtain ⟨c0, hc0⟩ : ∃ c, t[0]? = some c := ⟨_, List.getElem?_eq_getElem (by have := HN.out; omega)⟩
      have E0 : str[0]'hs0 = c0 := EKK.out 0 c0 hs0 hc0
      have hne : c0.toNat ≠ 39 := fun h => hgo ⟨hs0, by rw [E0]; exact UInt8.toNat_inj.mp h⟩
      have e39 : ((c0.toNat : Int) == 39) = false := beq_false_of_ne (by omega)
      have f39 : ¬ (c0.toNat : Int) = 39 := by omega
      have hn0 : (0 : Int) < (n : Int) := by omega
      have hn2 : decide (0 < n) = true := decide_eq_true (by omega)
      clear hgo hc0 hne
      go_enter Tryd.func33, Tryd.ntmps33
      go_wp2
      go_loopg [5] 0 (fun g x wr => x = .int .i64 1 ∧ Below w.heap.size w wr)
      case atStart => exact ⟨rfl, (Below.refl _ _).alloc (Nat.le_refl _) _⟩
      case round =>
        obtain ⟨rfl, hb⟩ := hrel
        go_wp2
        go_ret2
        exact ⟨by rw [HT.out]; rfl, hb⟩
    · have hz : decide (0 < n) = false := decide_eq_false h0
      have hz2 : decide ((0 : Int) < (n : Int)) = false := decide_eq_false (by omega)
      clear hgo
      go_enter Tryd.func33, Tryd.ntmps33
      go_wp2
      go_loopg [5] 0 (fun g x wr => x = .int .i64 1 ∧ Below w.heap.size w wr)
      case atStart => exact ⟨rfl, (Below.refl _ _).alloc (Nat.le_refl _) _⟩
      case round =>
        obtain ⟨rfl, hb⟩ := hrel
        go_wp2
        go_ret2
        exact ⟨by rw [HT.out]; rfl, hb⟩
end Go.Proofs.YtdenhfhdobcfiaaDoor
