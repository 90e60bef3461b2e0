/- The walks of the laws VarintAll and VarintJoins: they return true and leave what was there. -/
import Derived.Test.YtgkfmnmfocdhnaaVarH
namespace Go.Proofs.Ytgkfmnmfocdhnaa
open Go.RowKit
open Go.Lib (uvarint)

theorem all_n (A : Option Addr) (n cap : Nat) (bs : List UInt8) (w : World) (hn : n = bs.length) (hb : Bs w A cap bs) (hbig : bs.length ≤ 1099511627776) :
    Calls Try.prog 14 #[.slice A n cap] w (AllGives w bs) := by
  subst hn; exact all_any A cap bs w hb hbig
theorem nums_n (A A' : Option Addr) (n n' cap cap' : Nat) (l l' : List Nat) (w : World) (hn : n = l.length) (hn' : n' = l'.length) (h : Sl w A cap (u64s l)) (h' : Sl w A' cap' (u64s l')) :
    Calls Try.prog 16 #[.slice A n cap, .slice A' n' cap'] w fun e w' => e = .returned (.bool (decide (l = l'))) ∧ Below w.heap.size w w' := by
  subst hn hn'; exact nums_any A A' cap cap' l l' w h h'

set_option maxRecDepth 100000 in
set_option maxHeartbeats 1000000 in
/-- VarintAll. -/
theorem all_walk (w : World) (A : Option Addr) (cap : Nat) (bs : List UInt8) (hr : Bs w A cap bs) (_h47 : bs.length ≤ 140737488351232) :
    Calls Try.prog 5 #[.slice A bs.length cap] w fun e w' => e = .returned (.bool true) ∧ Below w.heap.size w w' := by
  have HB := Lib.hid hr
  clear hr
  obtain ⟨N, hN⟩ : ∃ N, N = bs.length := ⟨_, rfl⟩
  rw [← hN]
  have HN := Lib.hid hN
  by_cases hbig : 2000 < N
  · have g1 : (2000 : Int) < (N : Int) := by omega
    clear hN
    go_enter Try.func5, Try.ntmps5
    go_wp2_with (go_at_call 12; refine (live_any _).mono ?_; rintro e w5 ⟨rfl, hb5⟩)
    go_ret
    exact ⟨rfl, hb5⟩
  · have g1 : ¬ (2000 : Int) < (N : Int) := by omega
    have hsm : Hid (bs.length ≤ 1099511627776) := by show _ ≤ _; omega
    clear hN
    obtain ⟨R, hR⟩ : ∃ R, R = allRes bs := ⟨_, rfl⟩
    have HR := Lib.hid hR
    have HA : Hid (∀ W, Bs W A cap bs → Calls Try.prog 14 #[.slice A N cap] W fun e w' => ∃ A1 c1, e = .returned (.tuple #[.slice A1 R.1.length c1, .bool R.2]) ∧ Sl w' A1 c1 (u64s R.1) ∧ Below W.heap.size W w') := by
      show ∀ W, _; intro W h; rw [hR]; exact all_n A N cap bs W HN.out h hsm.out
    have HQ : Hid (∀ W, Bs W A cap bs → Calls Try.prog 15 #[.slice A N cap] W fun e w' => ∃ A1 c1, e = .returned (.tuple #[.slice A1 R.1.length c1, .bool R.2]) ∧ Sl w' A1 c1 (u64s R.1) ∧ Below W.heap.size W w') := by
      show ∀ W, _; intro W h; rw [hR, HN.out]; exact rall_any A cap bs W h hsm.out
    clear hR
    obtain ⟨l, ok⟩ := R
    simp only at HA HQ
    go_enter Try.func5, Try.ntmps5
    go_wp2_with (first
      | (go_at_call 14; refine (HA.out _ HB.out).mono ?_; rintro e w1 ⟨A1, c1, rfl, hs1, hb1⟩; have HS1 := Lib.hid hs1; clear hs1)
      | (go_at_call 15; refine (HQ.out _ (HB.out.below hb1 (Nat.le_refl _))).mono ?_; rintro e w2 ⟨A2, c2, rfl, hs2, hb2⟩; have HS2 := Lib.hid hs2; clear hs2)
      | (go_at_call 16; refine (nums_n _ _ _ _ _ _ l l _ rfl rfl (HS1.out.below hb2 (Nat.le_refl _)) HS2.out).mono ?_; rintro e w3 ⟨rfl, hb3⟩)
      | (go_at_call 12; refine (live_any _).mono ?_; rintro e w5 ⟨rfl, hb5⟩))
    go_ret
    exact ⟨rfl, bel_trans (bel_trans (bel_trans hb1 hb2) hb3) hb5⟩

set_option maxRecDepth 100000 in
set_option maxHeartbeats 1000000 in
/-- VarintJoins. -/
theorem joins_walk (w : World) (A : Option Addr) (cap : Nat) (l : List Nat) (hr : Sl w A cap (u64s l)) (ha : ∀ n ∈ l, n < 18446744073709551616) (_h47 : l.length * 8 ≤ 140737488351232) :
    Calls Try.prog 6 #[.slice A l.length cap] w fun e w' => e = .returned (.bool true) ∧ Below w.heap.size w w' := by
  obtain ⟨i0, hi, hz0, hz1, hz2⟩ := info_parts info_u8
  have hle := hr.le
  rw [u64s_length] at hle
  have hmax := hr.max
  unfold maxLen at hmax
  have HB := Lib.hid hr
  have HA := Lib.hid ha
  clear hr ha
  obtain ⟨N, hN⟩ : ∃ N, N = l.length := ⟨_, rfl⟩
  rw [← hN] at hle _h47 ⊢
  have HN := Lib.hid hN
  clear hN
  by_cases hbig : 200 < N
  · have g1 : (200 : Int) < (N : Int) := by omega
    go_enter Try.func6, Try.ntmps6
    go_wp2_with (go_at_call 12; refine (live_any _).mono ?_; rintro e w5 ⟨rfl, hb5⟩)
    go_ret
    exact ⟨rfl, hb5⟩
  · have g1 : ¬ (200 : Int) < (N : Int) := by omega
    go_enter Try.func6, Try.ntmps6
    go_wp2_with fail
    go_loopg [3, 4] N (fun g v i wr => ∃ k n : Nat, k + g = N ∧ i = .int .i64 k ∧ wr.ownsRow w.heap.size 5 1 v n (cellsOf (putAll (l.take k))) ∧ Below w.heap.size w wr)
    case atStart => exact ⟨0, 0, by omega, rfl, own0 w, (Below.refl _ _).alloc (Nat.le_refl _) _⟩
    case round =>
      obtain ⟨k, n, hkg, rfl, hown, hbel⟩ := hrel
      have hlen : (putAll (l.take k)).length ≤ 2000 := by
        have := putAll_length (l.take k) (fun m hm => HA.out m (List.mem_of_mem_take hm))
        have h2 := HN.out
        rw [List.length_take] at this; omega
      by_cases hlt : k < N
      · have hlt' : (k : Int) < (N : Int) := by omega
        have hkl : k < l.length := by have := HN.out; omega
        obtain ⟨b, off, rfl, hc⟩ := (HB.out.below hbel (Nat.le_refl _)).lt (j := k) (by rw [u64s_length]; exact hkl)
        rw [show (u64s l)[k]'(by rw [u64s_length]; exact hkl) = .int .u64 (l[k] : Int) by simp [u64s]] at hc
        have hx64 := HA.out l[k] (List.getElem_mem hkl)
        have hput := putAll_snoc (l.take k) l[k]
        rw [← List.take_succ_eq_append_getElem hkl] at hput
        obtain ⟨x, hx⟩ : ∃ x, x = l[k] := ⟨_, rfl⟩
        rw [← hx] at hc hx64 hput
        clear hx
        have HP := Lib.hid hput
        have h10 := Lib.uvarint_length64 hx64
        clear hput
        cases hgk : gk with
        | zero => omega
        | succ g2 =>
          go_wp2_with (first
            | (go_at_call 7; refine (put_any x _ hx64).mono ?_; rintro e w1 ⟨A1, cap1, rfl, hB1, hb1⟩; have HB1 := Lib.hid hB1; clear hB1; have hown1 := own_below hown hb1)
            | (at_builtin; refine wpList_append_bs rfl _ _ _ rfl w.heap.size 5 i0 Try.underlying23 hi hz0 hz1 hz2 _ _ (putAll (l.take k)) rfl hown1 _ _ _ (uvarint x) rfl rfl HB1.out (by omega) (Nat.le_trans hbel.size hb1.size) ?_; intro v2 w2 hown2 hgrow2))
          have hb2 : Below w.heap.size w w2 := (hbel.trans (hb1.mono hbel.size)).grown hgrow2 (Nat.le_trans hbel.size hb1.size) (fun j hj => (hown1.lt j hj).1)
          go_roundg g2
          case measure => omega
          case rel => exact ⟨k + 1, _, by omega, by go_num, by rw [HP.out]; exact hown2, hb2⟩
      · have hlt' : ¬ (k : Int) < (N : Int) := by omega
        have HT : Hid (putAll (l.take k) = putAll l) := by
          show _ = _
          have := HN.out
          rw [List.take_of_length_le (by omega)]
        rw [HT.out] at hown hlen
        have HR : Hid (allRes (putAll l) = (l, true)) := allRes_some (allOf_put l HA.out)
        have HQ : Hid (∀ A c W, Bs W A c (putAll l) → Calls Try.prog 14 #[.slice A (putAll l).length c] W fun e w' => ∃ A1 c1, e = .returned (.tuple #[.slice A1 N c1, .bool true]) ∧ Sl w' A1 c1 (u64s l) ∧ Below W.heap.size W w') := by
          show ∀ A c W, _
          intro A c W h
          have := all_any A c (putAll l) W h (by omega)
          unfold AllGives at this
          rw [HR.out] at this
          rw [HN.out]
          exact this
        obtain ⟨hn, A0, c0, rfl, hB0⟩ := Bs.own hown
        have HB0 := Lib.hid hB0
        clear hB0 hn hown
        go_wp2_with (first
          | (go_at_call 14; refine (HQ.out _ _ _ HB0.out).mono ?_; rintro e w1 ⟨A1, c1, rfl, hs1, hb1⟩; have HS1 := Lib.hid hs1; clear hs1)
          | (go_at_call 16; refine (nums_n _ _ _ _ _ _ l l _ HN.out HN.out (HB.out.below (hbel.trans (hb1.mono hbel.size)) (Nat.le_refl _)) HS1.out).mono ?_; rintro e w3 ⟨rfl, hb3⟩)
          | (go_at_call 12; refine (live_any _).mono ?_; rintro e w5 ⟨rfl, hb5⟩))
        go_ret
        exact ⟨rfl, bel_trans (bel_trans (bel_trans hbel hb1) hb3) hb5⟩

end Go.Proofs.Ytgkfmnmfocdhnaa
