/- The document's Get of hex. Conditions: those that each theorem names. -/
import Derived.Test.YtfmhpicnajeflaaRhA
import Derived.Deep.RegionHeld3
namespace Go.Proofs.Ytfmhpicnajeflaa
open Go.RowKit
set_option linter.unusedVariables false
set_option maxRecDepth 100000

theorem run_str_at (t : List UInt8) (k : Nat) (i : Int) (a : UInt8) (hi : i = (k : Int)) (h : t[k]? = some a) (w : World) : (Instr.index 9 (.string (strOf t)) (.int .i64 i)).run Try.prog w = .ok (.int .u8 (a.toNat : Int)) w := by
  obtain ⟨hk, rfl⟩ := List.getElem?_eq_some_iff.mp h
  subst hi
  rw [run_index_string w 9 (strOf t) .i64 k Try.underlying9, dif_pos ⟨by omega, by rw [str_size]; omega⟩]
  rfl
/-- What the document's Get answers. -/
def HexTo (w : World) (t : List UInt8) (e : Ending) (w' : World) : Prop :=
  Below w.heap.size w w' ∧ ((∃ bs A cap, unhex t = some bs ∧ e = .returned (.tuple #[.slice A bs.length cap, .bool true]) ∧ Bs w' A cap bs) ∨ (unhex t = none ∧ e = .returned (.tuple #[.slice none 0 0, .bool false])))
set_option maxHeartbeats 1000000 in
theorem rhexget_any (w : World) (t : List UInt8) (hl : t.length ≤ 140737488351232) :
    Calls Try.prog 11 #[.string (strOf t)] w (HexTo w t) := by
  obtain ⟨i0, hi, hz0, hz1, hz2⟩ := info_parts info_u8
  obtain ⟨n, hn⟩ : ∃ n, n = t.length := ⟨_, rfl⟩
  obtain ⟨str, hstr⟩ : ∃ str, str = strOf t := ⟨_, rfl⟩
  have hsz : str.size = n := by rw [hstr, str_size, hn]
  rw [← hn] at hl
  rw [← hstr]
  by_cases hodd : n % 2 = 1
  · have g0 : ((n : Int)).tmod 2 = 1 := by rw [Int.tmod_eq_emod_of_nonneg (by omega)]; omega
    have g1 : (n : Int) % 2 = 1 := by omega
    have HU := Lib.hid (unhex_odd t (by rw [← hn]; exact hodd))
    clear hn hstr
    go_enter Try.func11, Try.ntmps11
    go_wp2
    go_ret2
    exact ⟨Below.refl _ _, .inr ⟨HU.out, rfl⟩⟩
  · have g0 : ((n : Int)).tmod 2 = 0 := by rw [Int.tmod_eq_emod_of_nonneg (by omega)]; omega
    have g1 : (n : Int) % 2 = 0 := by omega
    have hown0 : (w.alloc (.cells #[] 5)).ownsRow w.heap.size 5 1 (.slice (some ⟨w.heap.size, 0, none⟩) 0 0) 0 (cellsOf []) := ⟨rfl, .inr ⟨w.heap.size, 0, _, rfl, Nat.le_refl _, heap_alloc_new w _, Nat.le_refl _, by decide, rfl, rfl⟩⟩
    have HO := Lib.hid hown0
    have HN := Lib.hid hn
    have HST := Lib.hid hstr
    clear hn hstr hown0
    go_enter Try.func11, Try.ntmps11
    go_wp2
    go_loopw [4, 5, 6, 7] (fun v x y z wr => ∃ (k m : Nat) (acc : List UInt8) (vo : Value), k ≤ n ∧ k % 2 = 0 ∧ x = .int .i64 (k : Int) ∧ vo = v ∧ acc.length ≤ k ∧ unhex t = (unhex (t.drop k)).map (acc ++ ·) ∧ wr.ownsRow w.heap.size 5 1 vo m (cellsOf acc) ∧ Below w.heap.size w wr) (fun _ x _ _ _ => n - (intOf x).toNat)
    case atStart => exact ⟨0, 0, [], _, Nat.zero_le _, rfl, rfl, rfl, Nat.le_refl _, by simp, HO.out, (Below.refl _ _).alloc (Nat.le_refl _) _⟩
    case round =>
      obtain ⟨k2, m, acc, vo, hk, heven, rfl, rfl, hacc, hun, hown, hbel⟩ := hrel
      have HBE := Lib.hid hbel
      by_cases hlt : k2 < n
      · have g2 : decide ((k2 : Int) < (n : Int)) = true := decide_eq_true (by omega)
        have hlt2 : k2 + 1 < n := by omega
        obtain ⟨a, ha⟩ : ∃ a, t[k2]? = some a := ⟨_, List.getElem?_eq_getElem (by have := HN.out; omega)⟩
        obtain ⟨b, hb⟩ : ∃ b, t[k2 + 1]? = some b := ⟨_, List.getElem?_eq_getElem (by have := HN.out; omega)⟩
        have hd : t.drop k2 = a :: b :: t.drop (k2 + 2) := by
          obtain ⟨h1, rfl⟩ := List.getElem?_eq_some_iff.mp ha
          obtain ⟨h2, rfl⟩ := List.getElem?_eq_some_iff.mp hb
          rw [List.drop_eq_getElem_cons h1, List.drop_eq_getElem_cons h2]
        have gw : IntKind.i64.wrap ((k2 : Int) + 1) = (k2 : Int) + 1 := IntWalk.i64_in _ (by omega)
        have hk0 : 0 ≤ (k2 : Int) := by omega
        have hk1 : (k2 : Int) < (n : Int) := by omega
        have hk2' : (k2 : Int) + 1 < (n : Int) := by omega
        have hk3 : 0 ≤ (k2 : Int) + 1 := by omega
        have hk4 : ((k2 : Int) + 1).toNat = k2 + 1 := by omega
        have hsk : k2 < str.size := by omega
        have hsk2 : k2 + 1 < str.size := by omega
        have EA : Hid (str[k2]'hsk = a) := by
          show _ = _
          obtain ⟨h1, h2⟩ := List.getElem?_eq_some_iff.mp ha
          have := HST.out
          subst this
          exact h2
        have EB : Hid (str[k2 + 1]'hsk2 = b) := by
          show _ = _
          obtain ⟨h1, h2⟩ := List.getElem?_eq_some_iff.mp hb
          have := HST.out
          subst this
          exact h2
        have HA := Lib.hid (fun w => rvalue_any a w)
        have HBV := Lib.hid (fun w => rvalue_any b w)
        rw [hd] at hun
        have HUN := Lib.hid hun
        have hda := dv_lt a
        have hdb := dv_lt b
        have HOWN := Lib.hid hown
        have HACC := Lib.hid hacc
        have hal : acc.length ≤ n := by omega
        have HAL := Lib.hid hal
        have HHL := Lib.hid hl
        by_cases hbad : dv a < 0 ∨ dv b < 0
        · have HU := Lib.hid (unhex_fail hun hbad)
          obtain ⟨x, hx⟩ : ∃ x, x = dv a := ⟨_, rfl⟩
          obtain ⟨y, hy⟩ : ∃ y, y = dv b := ⟨_, rfl⟩
          rw [← hx] at hbad HA
          rw [← hy] at hbad HBV
          clear hbel hown ha hb hd hun hda hdb hx hy hacc hal hl
          by_cases hx0 : x < 0
          · have g5 : decide (x < 0) = true := decide_eq_true hx0
            clear hbad
            go_wp2
            go_region_held3 (fun _ => True) (trivial)
              (first
                | (go_at_call 17; rw [EA.out]; refine (HA.out _).mono ?_; rintro e w2 ⟨rfl, rfl⟩)
                | (go_at_call 17; rw [EB.out]; refine (HBV.out _).mono ?_; rintro e w2 ⟨rfl, rfl⟩))
            all_goals
              go_wp2
              go_ret2
              exact ⟨HBE.out.drew, .inr ⟨HU.out, rfl⟩⟩
          · have g5 : decide (x < 0) = false := decide_eq_false hx0
            have g6 : decide (y < 0) = true := decide_eq_true (by rcases hbad with h | h; exact absurd h hx0; exact h)
            clear hbad hx0
            go_wp2
            go_region_held3 (fun _ => True) (trivial)
              (first
                | (go_at_call 17; rw [EA.out]; refine (HA.out _).mono ?_; rintro e w2 ⟨rfl, rfl⟩)
                | (go_at_call 17; rw [EB.out]; refine (HBV.out _).mono ?_; rintro e w2 ⟨rfl, rfl⟩))
            all_goals
              go_wp2
              go_ret2
              exact ⟨HBE.out.drew, .inr ⟨HU.out, rfl⟩⟩
        · have HU := Lib.hid (unhex_step hun (by omega) (by omega))
          have hby : (byteOf a b).toNat = (16 * dv a + dv b).toNat := by
            unfold byteOf
            simp
            omega
          obtain ⟨c, hc⟩ : ∃ c, c = byteOf a b := ⟨_, rfl⟩
          rw [← hc] at HU hby
          obtain ⟨x, hx⟩ : ∃ x : Nat, dv a = (x : Int) := ⟨(dv a).toNat, by omega⟩
          obtain ⟨y, hy⟩ : ∃ y : Nat, dv b = (y : Int) := ⟨(dv b).toNat, by omega⟩
          rw [hx] at hby HA hda
          rw [hy] at hby HBV hdb
          have g5 : decide ((x : Int) < 0) = false := decide_eq_false (by omega)
          have g6 : decide ((y : Int) < 0) = false := decide_eq_false (by omega)
          have hcx : (c.toNat : Int) = 16 * (x : Int) + (y : Int) := by omega
          clear hbel hown ha hb hd hun hc hx hy hbad hby hacc hal
          go_wp2
          go_region_held3 (fun _ => True) (trivial)
            (first
              | (go_at_call 17; rw [EA.out]; refine (HA.out _).mono ?_; rintro e w2 ⟨rfl, rfl⟩)
              | (go_at_call 17; rw [EB.out]; refine (HBV.out _).mono ?_; rintro e w2 ⟨rfl, rfl⟩))
          all_goals
            go_wp2_with (at_builtin
                         have hb4 := ((Below.refl _ wr).alloc (Nat.le_refl _) (.cells #[.int .u8 (16 * (x : Int) + (y : Int))] 5)).drew
                         refine wpList_append_bs rfl _ _ 22 rfl w.heap.size 5 i0 Try.underlying22 hi hz0 hz1 hz2 vo m acc rfl (own_below HOWN.out hb4) _ _ _ [c] rfl rfl (Bs.lit wr _ _ [c] (by simp [cellsOf, hcx]) (by simp only [List.length_cons, List.length_nil]; unfold maxLen; omega)).drew (by have := HAL.out; have := HHL.out; simp only [List.length_cons, List.length_nil]; omega) (by have := HBE.out.size; simp; omega) ?_
                         intro v3 w3 ho3 hg3
                         have HO3 := Lib.hid ho3
                         have HB3 := Lib.hid ((HBE.out.trans (hb4.mono HBE.out.size)).grown hg3 (by have := HBE.out.size; simp; omega) (fun j hj => (HOWN.out.lt j hj).1))
                         clear ho3 hg3 hb4)
            go_roundw
            case rel =>
              have hll := HHL.out
              exact ⟨k2 + 2, _, acc ++ [c], _, by omega, by omega, by go_num, rfl, by have := HACC.out; rw [List.length_append]; simp; omega, HU.out, HO3.out, HB3.out⟩
            case measure =>
              have hll := HHL.out
              simp [intOf]; omega
      · have g2 : decide ((k2 : Int) < (n : Int)) = false := decide_eq_false (by omega)
        have hdn : t.drop k2 = [] := List.drop_of_length_le (by have := HN.out; omega)
        rw [hdn] at hun
        have HU := Lib.hid (unhex_done hun)
        obtain ⟨hm, Av, capv, hv, hBs⟩ := Bs.own hown
        subst hv
        have HBS := Lib.hid hBs
        clear hun hown hdn hBs hbel
        go_wp2
        go_ret2
        exact ⟨HBE.out, .inl ⟨acc, Av, capv, HU.out, rfl, HBS.out⟩⟩
end Go.Proofs.Ytfmhpicnajeflaa
