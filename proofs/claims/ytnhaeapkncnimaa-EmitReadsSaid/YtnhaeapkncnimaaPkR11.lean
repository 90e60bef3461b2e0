/- Several texts in one: EmCat. What each proves, and its conditions, stands at its own head. -/
import Derived.Test.YtnhaeapkncnimaaPkR10
import Derived.Lib.AppendZeros
/- slices.Concat of two slices of bytes, slices.Grow of none. Conditions: those that each theorem names. -/
namespace Go.Proofs.Ytnhaeapkncnimaa
open Go.RowKit
set_option linter.unusedVariables false
set_option maxRecDepth 100000

/-- slices.Grow of nil: a row with that room. -/
theorem grow_any (n : Nat) (w : World) (h : n ≤ 1099511627776) (h0 : 0 < n) :
    Calls Try.prog 50 #[.slice none 0 0, .int .i64 (n : Int)] w fun e w' => ∃ v, e = .returned v ∧ w'.ownsRow w.heap.size 5 1 v 0 (cellsOf []) ∧ Below w.heap.size w w' := by
  obtain ⟨i, hi, hz0, hz1, hz2⟩ := info_parts info_u8
  have hr := fun ty => Lib.run_append_nil_zeros (P := Try.prog) w 38 3 ty 5 i (.int .u8 0) .i64 .i64 Try.underlying38 Try.underlying3 hi hz0 n h0 (by omega) (by omega) (by rw [hz2]; omega)
  have hG := grownCap_ge w n 0 5
  have hM := grownCap_le_maxLen w n 0 5 (by unfold maxLen; omega)
  obtain ⟨G, hGG⟩ : ∃ G, G = grownCap w n 0 5 := ⟨_, rfl⟩
  rw [← hGG] at hr hG hM
  unfold maxLen at hM
  clear hGG
  go_enter Try.func50, Try.ntmps50
  have hHR := Lib.hid hr
  clear hr
  go_wp2_with (at_builtin; refine Lib.wpList_append_run _ rfl _ _ _ _ rfl _ _ rfl rfl _ _ (hHR.out _) ?_)
  go_ret
  have e1 : (Builtin.zeroCells #[Value.int .u8 0] n ++ Builtin.zeroCells #[Value.int .u8 0] (G - n)).size = G := by
    simp [Builtin.zeroCells]
    omega
  exact ⟨_, rfl, World.ownsRow_made w.drew _ G (Nat.le_refl _) (by unfold maxLen; omega) (by rw [Nat.mul_one]; exact e1), (drew_below w 1).alloc (Nat.le_refl _) _⟩

theorem flat_snoc {pcs : List (List UInt8)} {k : Nat} {pc : List UInt8} (h : pcs[k]? = some pc) : (pcs.take (k + 1)).flatten = (pcs.take k).flatten ++ pc := by
  rw [List.take_add_one, h]
  simp

set_option maxHeartbeats 1000000 in
theorem concat_any {A : Option Addr} {n cap : Nat} {pcs : List (List UInt8)} (w : World) (hp : Pcs w (fun _ => False) A cap pcs) (hn : n = pcs.length) (h0 : 0 < pcs.flatten.length) (hb : pcs.flatten.length ≤ 1099511627776) :
    Calls Try.prog 37 #[.slice A n cap] w (GivesN w pcs.flatten) := by
  obtain ⟨i0, hi, hz0, hz1, hz2⟩ := info_parts info_u8
  obtain ⟨vs, hvl, hsl, _, hps⟩ := hp
  have hmax : n ≤ 9223372036854775807 := by have h1 := hsl.le; have h2 := hsl.max; unfold maxLen at h2; omega
  have hget : ∀ k, k < n → ∃ pc v bl off Aj cj, pcs[k]? = some pc ∧ A = some ⟨bl, off, none⟩ ∧ v = .slice Aj pc.length cj ∧ Bs w Aj cj pc ∧ w.cell? ⟨bl, off + k, none⟩ = some v := fun k hk => by
    obtain ⟨pc, hpc⟩ : ∃ pc, pcs[k]? = some pc := ⟨_, List.getElem?_eq_getElem (by omega)⟩
    obtain ⟨v, hv⟩ : ∃ v, vs[k]? = some v := ⟨_, List.getElem?_eq_getElem (by omega)⟩
    obtain ⟨bl, off, hA, hc⟩ := hsl.at_ k v hv
    obtain ⟨Aj, cj, he, hB, _⟩ := hps k v pc hv hpc
    exact ⟨pc, v, bl, off, Aj, cj, hpc, hA, he, hB, hc⟩
  obtain ⟨T, hT⟩ : ∃ T, T = pcs.flatten.length := ⟨_, rfl⟩
  have hlen : ∀ k, (pcs.take k).flatten.length ≤ T := fun k => by rw [hT]; exact flat_len_le pcs k
  rw [← hT] at h0 hb
  have HG := Lib.hid hget
  have HL := Lib.hid hlen
  have HN := Lib.hid hn
  have HT := Lib.hid hT
  clear hget hlen hn hT hvl hsl hps
  go_enter Try.func37, Try.ntmps37
  go_wp2
  go_loop [3, 5, 11] (fun t _ x => ∃ k : Nat, k ≤ n ∧ x = .int .i64 (k : Int) ∧ t = .int .i64 (((pcs.take k).flatten.length : Nat) : Int)) (fun _ _ x => n - (intOf x).toNat)
  case atStart => exact ⟨0, Nat.zero_le _, rfl, by simp⟩
  case round =>
    obtain ⟨k, hk, rfl, rfl⟩ := hrel
    by_cases hlt : k < n
    · have g1 : decide ((k : Int) < (n : Int)) = true := decide_eq_true (by omega)
      obtain ⟨pc, v, bl, off, Aj, cj, hpc, rfl, rfl, hB, hc⟩ := HG.out k hlt
      have h1 := HL.out (k + 1)
      rw [flat_snoc hpc, List.length_append] at h1
      have HPC := Lib.hid hpc
      have hBB := Lib.hid hB
      obtain ⟨L, hL⟩ : ∃ L, L = (pcs.take k).flatten.length := ⟨_, rfl⟩
      obtain ⟨M, hM⟩ : ∃ M, M = pc.length := ⟨_, rfl⟩
      rw [← hL] at h1 ⊢
      rw [← hM] at h1 hc
      have HLL := Lib.hid hL
      have HMM := Lib.hid hM
      have g2 : decide ((L : Int) + (M : Int) < 0) = false := decide_eq_false (by omega)
      clear hpc hB hL hM
      go_wp2
      go_round
      case rel => exact ⟨k + 1, by omega, by go_num, by rw [flat_snoc HPC.out, List.length_append, ← HLL.out, ← HMM.out]; go_num⟩
      case measure => simp [intOf]; omega
    · have g1 : decide ((k : Int) < (n : Int)) = false := decide_eq_false (by omega)
      have hTk : (pcs.take k).flatten.length = T := by rw [HT.out, show k = pcs.length by have := HN.out; omega, List.take_length]
      rw [hTk]
      clear hTk
      go_wp2_with (go_at_call 50; refine (grow_any T _ hb h0).mono ?_; rintro e w1 ⟨v1, rfl, hown1, hb1⟩; have HOW1 := Lib.hid hown1; have HB1 := Lib.hid hb1; clear hown1 hb1)
      go_loopw [6, 8, 27] (fun v _ x wr => ∃ k : Nat, k ≤ n ∧ x = .int .i64 (k : Int) ∧ wr.ownsRow w.heap.size 5 1 v (pcs.take k).flatten.length (cellsOf (pcs.take k).flatten) ∧ Below w.heap.size w wr) (fun _ _ x _ => n - (intOf x).toNat)
      case atStart => exact ⟨0, Nat.zero_le _, rfl, HOW1.out, HB1.out⟩
      case round =>
        obtain ⟨j, hj, rfl, hown, hbel⟩ := hrel
        have HOW := Lib.hid hown
        have HBE := Lib.hid hbel
        have hsz := hbel.size
        clear hown hbel
        by_cases hlt2 : j < n
        · have g3 : decide ((j : Int) < (n : Int)) = true := decide_eq_true (by omega)
          obtain ⟨pc, v, bl, off, Aj, cj, hpc, rfl, rfl, hB, hc0⟩ := HG.out j hlt2
          have h1 := HL.out (j + 1)
          rw [flat_snoc hpc, List.length_append] at h1
          have hc := (HBE.out.cell (p := ⟨bl, off + j, none⟩) (World.block_lt_of_cell? w _ hc0)).trans hc0
          have hB2 := hB.below HBE.out (Nat.le_refl _)
          have HPC := Lib.hid hpc
          have hBB := Lib.hid hB2
          obtain ⟨L, hL⟩ : ∃ L, L = (pcs.take j).flatten.length := ⟨_, rfl⟩
          obtain ⟨M, hM⟩ : ∃ M, M = pc.length := ⟨_, rfl⟩
          rw [← hL] at h1
          rw [← hM] at h1 hc
          have HLL := Lib.hid hL
          have HMM := Lib.hid hM
          clear hpc hB hB2 hL hM hc0
          go_wp2_with (at_builtin; refine wpList_append_bs2 rfl _ _ _ rfl w.heap.size 5 i0 Try.underlying38 hi hz0 hz1 hz2 _ _ (pcs.take j).flatten rfl HOW.out _ _ _ pc rfl HMM.out hBB.out (by have := HLL.out; have := HMM.out; omega) hsz ?_; intro v2 w2 hown2 hg2 hm2; have HOW2 := Lib.hid hown2; have HB2 := Lib.hid (HBE.out.grown hg2 hsz (fun k e => (HOW.out.lt k e).1)); clear hown2 hg2 hm2)
          go_roundw
          case rel => exact ⟨j + 1, by omega, by go_num, by rw [flat_snoc HPC.out, List.length_append]; exact HOW2.out, HB2.out⟩
          case measure => simp [intOf]; omega
        · have g3 : decide ((j : Int) < (n : Int)) = false := decide_eq_false (by omega)
          have hTj : pcs.take j = pcs := by rw [show j = pcs.length by have := HN.out; omega, List.take_length]
          rw [hTj] at HOW
          clear hTj
          go_wp2
          go_ret
          exact new_own HOW.out HBE.out
end Go.Proofs.Ytnhaeapkncnimaa
