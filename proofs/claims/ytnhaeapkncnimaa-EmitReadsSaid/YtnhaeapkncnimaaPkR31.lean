/- Several texts in one: VarB. What each proves, and its conditions, stands at its own head. -/
import Derived.Test.YtnhaeapkncnimaaChecked
import Derived.Test.YtnhaeapkncnimaaPkR22
import Derived.Test.YtnhaeapkncnimaaPkR0
import Derived.WalkKit
import Derived.Lib.Small
import Derived.Lib.Walk
import Derived.RowKitTokens
import Derived.Deep.LoopGhost
import Derived.BigQuiet
import Derived.Deep.QuietTactic
/- The document's answer for reading one number (Get of the reference): what it returns, for every input; the world is as it was but for draws. -/
namespace Go.Proofs.Ytnhaeapkncnimaa
open Go.RowKit
open Go.Lib (uvarint bitLen bitLen_le)

set_option maxRecDepth 100000 in
/-- the reference's Get. -/
theorem rget_any (A : Option Addr) (cap : Nat) (bs : List UInt8) (w : World) (hb : Bs w A cap bs) :
    Calls Try.prog 52 #[.slice A bs.length cap] w fun e w' => e = .returned (.tuple #[.int .u64 ((getFrom 0 0 bs).1 : Int), .int .i64 ((getFrom 0 0 bs).2 : Int)]) ∧ w = w' := by
  have hle := hb.le
  have hmax := hb.max
  unfold maxLen at hmax
  have HB := Lib.hid hb
  clear hb
  obtain ⟨N, hN⟩ : ∃ N : Nat, N = bs.length := ⟨_, rfl⟩
  rw [← hN] at hle ⊢
  have HN := Lib.hid hN
  clear hN
  go_enter Try.func52, Try.ntmps52
  go_wp2
  go_loop [4, 5, 6] (fun n u i => ∃ k acc P : Nat, k ≤ N ∧ k ≤ 9 ∧ acc < P ∧ Hid (P = 128 ^ k) ∧ i = .int .i64 k ∧ n = .int .u64 acc ∧ u = .int .u64 P ∧ Hid (getFrom 0 0 bs = getFrom k acc (bs.drop k))) (fun _ _ i => N - (intOf i).toNat)
  case atStart => exact ⟨0, 0, 1, by omega, by omega, by omega, rfl, rfl, rfl, rfl, rfl⟩
  case round =>
    obtain ⟨k, acc, P, hk, hk9, hacc, HP, rfl, rfl, rfl, HG⟩ := hrel
    have hP9 : P ≤ 9223372036854775808 := by rw [HP.out]; exact pow7_nine hk9
    by_cases hlt : k < N
    · have g1 : decide ((k : Int) < (N : Int)) = true := decide_eq_true (by omega)
      have g2 : decide ((k : Int) < 10) = true := decide_eq_true (by omega)
      have hkl : k < bs.length := by have := HN.out; omega
      obtain ⟨b, off, rfl, hcell⟩ := HB.out.lt hkl
      obtain ⟨c, hc⟩ : ∃ c : UInt8, c = bs[k] := ⟨_, rfl⟩
      rw [← hc] at hcell
      have hd : bs.drop k = c :: bs.drop (k + 1) := by rw [hc]; exact List.drop_eq_getElem_cons hkl
      have HD := Lib.hid hd
      clear hd hc
      have hc256 : c.toNat < 256 := c.toNat_lt
      by_cases h9 : k = 9
      · subst h9
        obtain rfl : P = 9223372036854775808 := by rw [HP.out]
        by_cases hc1 : 1 < c.toNat
        · have g4 : decide ((1 : Int) < (c.toNat : Int)) = true := decide_eq_true (by omega)
          have HS := Lib.hid (getFrom_high acc c (bs.drop (9 + 1)) hc1)
          go_wp2
          go_ret2
          exact ⟨by rw [HG.out, HD.out, HS.out]; simp, rfl⟩
        · have g4 : decide ((1 : Int) < (c.toNat : Int)) = false := decide_eq_false (by omega)
          have HS := Lib.hid (getFrom_last 9 acc c (bs.drop (9 + 1)) (by omega) (fun _ => by omega) (by omega))
          go_wp2
          go_ret2
          exact ⟨by rw [HG.out, HD.out, HS.out]; simp, rfl⟩
      · have g3 : ((k : Int) == 9) = false := by simp; omega
        have hk8 : k < 9 := by omega
        clear h9
        have hP8 : P * 128 ≤ 9223372036854775808 := by
          have := pow7_nine (i := k + 1) (by omega)
          rw [pow7] at this; rw [HP.out]; omega
        obtain ⟨t, ht⟩ : ∃ t : Nat, t = c.toNat % 128 * P := ⟨_, rfl⟩
        have ht' : (c.toNat : Int) % 128 * (P : Int) = (t : Int) := by rw [ht]; simp
        have htP : acc + t < P * 128 := by
          have hc : c.toNat % 128 ≤ 127 := by omega
          have := Nat.mul_le_mul_right P hc
          omega
        have HT := Lib.hid ht
        clear ht
        by_cases hc1 : c.toNat < 128
        · have HS := Lib.hid (getFrom_last k acc c (bs.drop (k + 1)) (by omega) (fun _ => by omega) hc1)
          go_wp2
          go_ret2
          exact ⟨by rw [HG.out, HD.out, HS.out, HT.out, HP.out]; simp, rfl⟩
        · have HS := Lib.hid (getFrom_more k acc c (bs.drop (k + 1)) hk8 (by omega))
          go_wp2
          go_round
          case rel => exact ⟨k + 1, acc + t, P * 128, by omega, by omega, htP, by rw [HP.out, pow7]; exact Nat.mul_comm _ _, by go_num, by go_num, by go_num, by rw [HG.out, HD.out, HS.out, HT.out, HP.out]; rfl⟩
          case measure => simp [intOf]; omega
    · have g1 : decide ((k : Int) < (N : Int)) = false := decide_eq_false (by omega)
      have HE : Hid (getFrom 0 0 bs = (0, 0)) := by
        show _ = _
        have := HN.out
        rw [HG.out, List.drop_eq_nil_of_le (by omega)]; rfl
      go_wp2
      go_ret2
      exact ⟨by rw [HE.out]; simp, rfl⟩

theorem rget_n (A : Option Addr) (n cap : Nat) (bs : List UInt8) (w : World) (hn : n = bs.length) (hb : Bs w A cap bs) :
    Calls Try.prog 52 #[.slice A n cap] w fun e w' => e = .returned (.tuple #[.int .u64 ((getFrom 0 0 bs).1 : Int), .int .i64 ((getFrom 0 0 bs).2 : Int)]) ∧ w = w' := by
  subst hn; exact rget_any A cap bs w hb
end Go.Proofs.Ytnhaeapkncnimaa
