/- Several texts in one: FixC, FixG. What each proves, and its conditions, stands at its own head. -/
import Derived.Test.YtalbiieagcandaaPkR11
import Derived.Test.YtalbiieagcandaaPkR1
import Derived.Test.YtalbiieagcandaaPkR0
import Derived.Lib.Hide
import Derived.Deep.LoopGhost
/- The document's answer that lays a number's bytes (Put): what it returns, for every input; memory that was there is as it was. -/
namespace Go.Proofs.Ytalbiieagcandaa
open Go.RowKit
set_option linter.unusedVariables false
set_option maxRecDepth 100000

set_option maxHeartbeats 400000 in
theorem fput_any (n k : Nat) (w : World) (h : n < 18446744073709551616) (hk : k ≤ 8) :
    Calls Try.prog 50 #[.int .u64 (n : Int), .int .i64 (k : Int)] w (Gives w (le k n)) := by
  obtain ⟨i0, hi, hz0, hz1, hz2⟩ := info_parts info_u8
  go_enter Try.func50, Try.ntmps50
  go_wp2
  go_loopw [0, 5, 6] (fun x v c wr => ∃ (j m : Nat) (pre : List UInt8), j ≤ k ∧ m < 18446744073709551616 ∧ x = .int .u64 m ∧ c = .int .i64 (j : Int) ∧ wr.ownsRow w.heap.size 5 1 v pre.length (cellsOf pre) ∧ Below w.heap.size w wr ∧ pre.length = j ∧ Hid (pre ++ le (k - j) m = le k n)) (fun _ _ c _ => 8 - (intOf c).toNat)
  case atStart => exact ⟨0, n, [], by omega, h, rfl, rfl, World.ownsRow_made (base := w.heap.size) (e := 5) (size := 1) w #[] 0 (Nat.le_refl _) (by decide) rfl, (Below.refl _ _).alloc (Nat.le_refl _) _, rfl, rfl⟩
  case round =>
    obtain ⟨j, m, pre, hj, hm, rfl, rfl, hown, hbel, hpl, HP⟩ := hrel
    have hsz := hbel.size
    by_cases hlt : j < k
    · have g1 : decide ((j : Int) < (k : Int)) = true := decide_eq_true (by omega)
      have HC := Lib.hid (cellsOf_snoc pre (a := m % 256) (by omega) (x := (m : Int) % 256) (by omega))
      have HQ : Hid ((pre ++ [(m % 256).toUInt8]) ++ le (k - (j + 1)) (m / 256) = le k n) := by
        show _ = _
        rw [← HP.out, show k - j = (k - (j + 1)) + 1 by omega, le, List.append_assoc]; rfl
      go_wp2_with (at_builtin; refine wpList_append_own _ rfl _ _ 29 rfl w.heap.size 5 i0 (.int .u8 0) 1 1 Try.underlying29 hi hz0 hz1 hz2 rfl (by decide) _ _ _ rfl (hown.alloc _) ⟨wr.heap.size, 0, none⟩ 1 1 [.int .u8 ((m : Int) % 256)] rfl rfl (cell_one_new _ _ _) (one_one _) (by unfold maxLen; omega) (by omega) (by simp; omega) ?_; intro v2 w2 hown2 hgrow2 _)
      have hown3 : w2.ownsRow w.heap.size 5 1 v2 (pre ++ [(m % 256).toUInt8]).length (cellsOf (pre ++ [(m % 256).toUInt8])) := by
        rw [← HC.out]; simpa using hown2
      have hb2 : Below w.heap.size w w2 := (hbel.alloc hsz _).grown hgrow2 (by simp; omega) (fun k hk => (hown.lt k hk).1)
      clear hown2 hgrow2 hown hbel
      go_wp2
      go_roundw
      case rel => exact ⟨j + 1, m / 256, _, by omega, by omega, by go_num, by go_num, hown3, hb2, by simp [hpl], HQ⟩
      case measure => simp [intOf]; omega
    · have g1 : decide ((j : Int) < (k : Int)) = false := decide_eq_false (by omega)
      have HE : Hid (pre = le k n) := by
        show _ = _
        have h1 := HP.out
        rw [show k - j = 0 by omega] at h1
        simpa [le] using h1
      go_wp2
      go_ret
      rw [HE.out] at hown
      exact gives_own hown hbel

end Go.Proofs.Ytalbiieagcandaa

/- The document's answer that reads a number of four or eight bytes (Get): what it returns, for every input; the world is as it was. -/
namespace Go.Proofs.Ytalbiieagcandaa
open Go.RowKit
set_option linter.unusedVariables false
set_option maxRecDepth 100000

theorem num_lt8 (k : Nat) (bs : List UInt8) (i : Nat) (hk : k ≤ 8) : num ((bs.take k).drop i) < 256 ^ (8 - i) := by
  have h := num_lt ((bs.take k).drop i)
  have h2 : (256 : Nat) ^ ((bs.take k).drop i).length ≤ 256 ^ (8 - i) := Nat.pow_le_pow_right (by decide) (by simp; omega)
  omega
theorem num_small (k : Nat) (bs : List UInt8) (i : Nat) (hk : k ≤ 8) (h1 : 1 ≤ i) : num ((bs.take k).drop i) < 72057594037927936 := by
  have h := num_lt8 k bs i hk
  have h2 : (256 : Nat) ^ (8 - i) ≤ 256 ^ 7 := Nat.pow_le_pow_right (by decide) (by omega)
  omega
theorem fget_any (A : Option Addr) (cap k : Nat) (bs : List UInt8) (w : World) (hb : Bs w A cap bs) (hk : k ≤ 8) (hk1 : 1 ≤ k) :
    Calls Try.prog 70 #[.slice A bs.length cap, .int .i64 (k : Int)] w fun e w' => e = .returned (.tuple #[.int .u64 (getN k bs : Int), .bool (isN k bs)]) ∧ w = w' := by
  obtain ⟨N, hN⟩ : ∃ N, N = bs.length := ⟨_, rfl⟩
  have hle := hb.le
  have hmax := hb.max
  unfold maxLen at hmax
  have HB := Lib.hid hb
  clear hb
  by_cases h8 : bs.length < k
  · have HG : Hid (getN k bs = 0) := by show _ = _; rw [getN, if_pos h8]
    have HI : Hid (isN k bs = false) := by show _ = _; simp [isN]; omega
    rw [← hN] at h8 hle ⊢
    clear hN
    have g1 : decide ((N : Int) < (k : Int)) = true := decide_eq_true (by omega)
    go_enter Try.func70, Try.ntmps70
    go_wp2
    go_ret2
    exact ⟨by rw [HG.out, HI.out]; rfl, rfl⟩
  · have HG : Hid (getN k bs = num (bs.take k)) := by show _ = _; rw [getN, if_neg h8]
    have HI : Hid (isN k bs = true) := by show _ = _; simp [isN]; omega
    have HL : Hid (bs.length = N) := hN.symm
    rw [← hN] at h8 hle ⊢
    clear hN
    have g1 : decide ((N : Int) < (k : Int)) = false := decide_eq_false (by omega)
    go_enter Try.func70, Try.ntmps70
    go_wp2
    go_loop [6, 7] (fun u x => ∃ i acc : Nat, i ≤ k ∧ u = .int .u64 (acc : Int) ∧ x = .int .i64 ((i : Int) - 1) ∧ Hid (acc = num ((bs.take k).drop i))) (fun _ x => (intOf x + 1).toNat)
    case atStart => exact ⟨k, 0, Nat.le_refl _, rfl, by go_num, by show _ = _; rw [List.drop_eq_nil_of_le (by simp; omega)]; rfl⟩
    case round =>
      obtain ⟨i, acc, hi, rfl, rfl, HA⟩ := hrel
      by_cases hlt : 1 ≤ i
      · have g2 : decide ((0 : Int) ≤ (i : Int) - 1) = true := decide_eq_true (by omega)
        have hib : i - 1 < (bs.take k).length := by have := HL.out; simp; omega
        have hs := num_small k bs i hk hlt
        rw [← HA.out] at hs
        obtain ⟨j, rfl⟩ : ∃ j, i = j + 1 := ⟨i - 1, by omega⟩
        have HN := Lib.hid (num_drop (bs.take k) j hib)
        have hjb : j < bs.length := by have := HL.out; omega
        obtain ⟨b, off, rfl, hcell⟩ := HB.out.lt hjb
        have hget : (bs.take k)[j] = bs[j] := List.getElem_take
        obtain ⟨c, hc⟩ : ∃ c : UInt8, c = bs[j] := ⟨_, rfl⟩
        rw [← hc] at hcell hget
        have HC := Lib.hid hget
        have hc256 : c.toNat < 256 := c.toNat_lt
        clear hc hget
        have e1 : ((j + 1 : Nat) : Int) - 1 = (j : Int) := by omega
        rw [e1]
        have g3 : decide ((0 : Int) ≤ (j : Int)) = true := decide_eq_true (by omega)
        have hjN : j < N := by omega
        clear g2 e1
        have HQ : Hid (acc * 256 + c.toNat = num ((bs.take k).drop j)) := by
          show _ = _
          rw [HN.out, HC.out, HA.out]; omega
        go_wp2
        go_round
        case rel => exact ⟨j, acc * 256 + c.toNat, by omega, by go_num, by go_num, HQ.out⟩
        case measure => simp [intOf]
      · obtain rfl : i = 0 := by omega
        have HE : Hid (acc = num (bs.take k)) := HA.out
        go_wp2
        go_ret2
        exact ⟨by rw [HG.out, HI.out, HE.out]; rfl, rfl⟩
theorem fget_n (A : Option Addr) (n cap k : Nat) (bs : List UInt8) (w : World) (hn : n = bs.length) (hb : Bs w A cap bs) (hk : k ≤ 8) (hk1 : 1 ≤ k) :
    Calls Try.prog 70 #[.slice A n cap, .int .i64 (k : Int)] w fun e w' => e = .returned (.tuple #[.int .u64 (getN k bs : Int), .bool (isN k bs)]) ∧ w = w' := by
  subst hn; exact fget_any A cap k bs w hb hk hk1
end Go.Proofs.Ytalbiieagcandaa
