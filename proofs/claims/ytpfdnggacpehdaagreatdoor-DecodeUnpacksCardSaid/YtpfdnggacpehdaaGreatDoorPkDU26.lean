/- Several texts in one: VarB, VarGet. What each proves, and its conditions, stands at its own head. -/
import Derived.Test.YtpfdnggacpehdaaGreatDoorChecked
import Derived.Test.YtpfdnggacpehdaaGreatDoorPkDU23
import Derived.Test.YtpfdnggacpehdaaGreatDoorPkDU0
import Derived.WalkKit
import Derived.Lib.Small
import Derived.Lib.Walk
import Derived.RowKitTokens
import Derived.Deep.LoopGhost
import Derived.BigQuiet
import Derived.Deep.QuietTactic
/- The document's answer for reading one number (Get of the reference): what it returns, for every input; the world is as it was but for draws. -/
namespace Go.Proofs.YtpfdnggacpehdaaGreatDoor
open Go.RowKit
open Go.Lib (uvarint bitLen bitLen_le)

set_option maxRecDepth 100000 in
/-- the reference's Get. -/
theorem rget_any (A : Option Addr) (cap : Nat) (bs : List UInt8) (w : World) (hb : Bs w A cap bs) :
    Calls Tryz.prog 91 #[.slice A bs.length cap] w fun e w' => e = .returned (.tuple #[.int .u64 ((getFrom 0 0 bs).1 : Int), .int .i64 ((getFrom 0 0 bs).2 : Int)]) ∧ w = w' := by
  have hle := hb.le
  have hmax := hb.max
  unfold maxLen at hmax
  have HB := Lib.hid hb
  clear hb
  obtain ⟨N, hN⟩ : ∃ N : Nat, N = bs.length := ⟨_, rfl⟩
  rw [← hN] at hle ⊢
  have HN := Lib.hid hN
  clear hN
  go_enter Tryz.func91, Tryz.ntmps91
  go_wp2
  go_loop [4, 5, 6] (fun n u i => ∃ k acc P : Nat, k ≤ N ∧ k ≤ 9 ∧ acc < P ∧ Hid (P = 128 ^ k) ∧ i = .int .i64 k ∧ n = .int .u64 acc ∧ u = .int .u64 P ∧ Hid (getFrom 0 0 bs = getFrom k acc (bs.drop k))) (fun _ _ i => N - (intOf i).toNat)
  case atStart => exact ⟨0, 0, 1, by omega, by omega, by omega, rfl, rfl, rfl, rfl, rfl⟩
  case round =>
    obtain ⟨k, acc, P, hk, hk9, hacc, HP, rfl, rfl, rfl, HG⟩ := hrel
    have hP9 : P ≤ 9223372036854775808 := by rw [HP.out]; exact pow7_nine hk9
    by_cases hlt : k < N
    · have g1 : decide ((k : Int) < (N : Int)) = true := decide_eq_true (by omega)
      have g2 : decide ((k : Int) < 10) = true := decide_eq_true (by omega)
      have hkl : k < bs.length := by have := HN.out; omega
      obtain ⟨b, off, rfl, hcell⟩ := HB.out.lt hkl
      obtain ⟨c, hc⟩ : ∃ c : UInt8, c = bs[k] := ⟨_, rfl⟩
      rw [← hc] at hcell
      have hd : bs.drop k = c :: bs.drop (k + 1) := by rw [hc]; exact List.drop_eq_getElem_cons hkl
      have HD := Lib.hid hd
      clear hd hc
      have hc256 : c.toNat < 256 := c.toNat_lt
      by_cases h9 : k = 9
      · subst h9
        obtain rfl : P = 9223372036854775808 := by rw [HP.out]
        by_cases hc1 : 1 < c.toNat
        · have g4 : decide ((1 : Int) < (c.toNat : Int)) = true := decide_eq_true (by omega)
          have HS := Lib.hid (getFrom_high acc c (bs.drop (9 + 1)) hc1)
          go_wp2
          go_ret2
          exact ⟨by rw [HG.out, HD.out, HS.out]; simp, rfl⟩
        · have g4 : decide ((1 : Int) < (c.toNat : Int)) = false := decide_eq_false (by omega)
          have HS := Lib.hid (getFrom_last 9 acc c (bs.drop (9 + 1)) (by omega) (fun _ => by omega) (by omega))
          go_wp2
          go_ret2
          exact ⟨by rw [HG.out, HD.out, HS.out]; simp, rfl⟩
      · have g3 : ((k : Int) == 9) = false := by simp; omega
        have hk8 : k < 9 := by omega
        clear h9
        have hP8 : P * 128 ≤ 9223372036854775808 := by
          have := pow7_nine (i := k + 1) (by omega)
          rw [pow7] at this; rw [HP.out]; omega
        obtain ⟨t, ht⟩ : ∃ t : Nat, t = c.toNat % 128 * P := ⟨_, rfl⟩
        have ht' : (c.toNat : Int) % 128 * (P : Int) = (t : Int) := by rw [ht]; simp
        have htP : acc + t < P * 128 := by
          have hc : c.toNat % 128 ≤ 127 := by omega
          have := Nat.mul_le_mul_right P hc
          omega
        have HT := Lib.hid ht
        clear ht
        by_cases hc1 : c.toNat < 128
        · have HS := Lib.hid (getFrom_last k acc c (bs.drop (k + 1)) (by omega) (fun _ => by omega) hc1)
          go_wp2
          go_ret2
          exact ⟨by rw [HG.out, HD.out, HS.out, HT.out, HP.out]; simp, rfl⟩
        · have HS := Lib.hid (getFrom_more k acc c (bs.drop (k + 1)) hk8 (by omega))
          go_wp2
          go_round
          case rel => exact ⟨k + 1, acc + t, P * 128, by omega, by omega, htP, by rw [HP.out, pow7]; exact Nat.mul_comm _ _, by go_num, by go_num, by go_num, by rw [HG.out, HD.out, HS.out, HT.out, HP.out]; rfl⟩
          case measure => simp [intOf]; omega
    · have g1 : decide ((k : Int) < (N : Int)) = false := decide_eq_false (by omega)
      have HE : Hid (getFrom 0 0 bs = (0, 0)) := by
        show _ = _
        have := HN.out
        rw [HG.out, List.drop_eq_nil_of_le (by omega)]; rfl
      go_wp2
      go_ret2
      exact ⟨by rw [HE.out]; simp, rfl⟩

theorem rget_n (A : Option Addr) (n cap : Nat) (bs : List UInt8) (w : World) (hn : n = bs.length) (hb : Bs w A cap bs) :
    Calls Tryz.prog 91 #[.slice A n cap] w fun e w' => e = .returned (.tuple #[.int .u64 ((getFrom 0 0 bs).1 : Int), .int .i64 ((getFrom 0 0 bs).2 : Int)]) ∧ w = w' := by
  subst hn; exact rget_any A cap bs w hb
end Go.Proofs.YtpfdnggacpehdaaGreatDoor

/- The calls of package varint that read: part, ends, Get, each with what it returns, for every input; the world is as it was. -/
namespace Go.Proofs.YtpfdnggacpehdaaGreatDoor
open Go.RowKit
open Go.Lib (uvarint bitLen bitLen_le)

theorem ret_int {k : IntKind} {a b : Int} (h : a = b) : Ending.returned (.int k a) = .returned (.int k b) := by rw [h]

theorem part_any (k : Nat) (c : Nat) (w : World) (hk : k ≤ 9) (hc : c < 256) :
    Calls Tryz.prog 135 #[.int .i64 (k : Int), .int .u8 (c : Int)] w fun e w' => e = .returned (.int .u64 (pt k c : Int)) ∧ w = w' := by
  go_enter Tryz.func135, Tryz.ntmps135
  go_wp2
  go_ret
  exact ⟨ret_int (pt_wrap k c), rfl⟩

set_option maxRecDepth 100000 in
theorem ends_any (k : Nat) (c : Nat) (w : World) :
    Calls Tryz.prog 136 #[.int .i64 (k : Int), .int .u8 (c : Int)] w fun e w' => e = .returned (.bool (endsB k c)) ∧ w = w' := by
  by_cases h1 : c < 128
  · have g1 : decide ((c : Int) < 128) = true := decide_eq_true (by omega)
    by_cases h2 : k < 9
    · have g2 : decide ((k : Int) < 9) = true := decide_eq_true (by omega)
      have HE := Lib.hid (show endsB k c = true by simp [endsB, h1, h2])
      go_enter Tryz.func136, Tryz.ntmps136
      go_wp2
      go_ret
      exact ⟨by rw [HE.out]; rfl, rfl⟩
    · have g2 : decide ((k : Int) < 9) = false := decide_eq_false (by omega)
      by_cases h3 : c ≤ 1
      · have g3 : decide ((c : Int) ≤ 1) = true := decide_eq_true (by omega)
        have HE := Lib.hid (show endsB k c = true by simp [endsB, h1, h2, h3])
        go_enter Tryz.func136, Tryz.ntmps136
        go_wp2
        go_ret
        exact ⟨by rw [HE.out]; rfl, rfl⟩
      · have g3 : decide ((c : Int) ≤ 1) = false := decide_eq_false (by omega)
        have HE := Lib.hid (show endsB k c = false by simp [endsB, h1, h2, h3])
        go_enter Tryz.func136, Tryz.ntmps136
        go_wp2
        go_ret
        exact ⟨by rw [HE.out]; rfl, rfl⟩
  · have g1 : decide ((c : Int) < 128) = false := decide_eq_false (by omega)
    have HE := Lib.hid (show endsB k c = false by simp [endsB, h1])
    go_enter Tryz.func136, Tryz.ntmps136
    go_wp2
    go_ret
    exact ⟨by rw [HE.out]; rfl, rfl⟩

/-- varint.Get. -/
theorem get_any (A : Option Addr) (cap : Nat) (bs : List UInt8) (w : World) (hb : Bs w A cap bs) :
    Calls Tryz.prog 104 #[.slice A bs.length cap] w fun e w' => e = .returned (.tuple #[.int .u64 ((getFrom 0 0 bs).1 : Int), .int .i64 ((getFrom 0 0 bs).2 : Int)]) ∧ w = w' := by
  have hle := hb.le
  have hmax := hb.max
  unfold maxLen at hmax
  obtain ⟨M, hM⟩ : ∃ M : Nat, M = min bs.length 10 := ⟨_, rfl⟩
  have m1 : min (bs.length : Int) 10 = (M : Int) := by omega
  have m2 : max (M : Int) 0 = (M : Int) := by omega
  have hMl : M ≤ bs.length := by omega
  have hM10 : M ≤ 10 := by omega
  have HM := Lib.hid hM
  clear hM
  have HB := Lib.hid hb
  clear hb
  obtain ⟨N, hN⟩ : ∃ N : Nat, N = bs.length := ⟨_, rfl⟩
  rw [← hN] at hle m1 hMl ⊢
  have HN := Lib.hid hN
  clear hN
  go_enter Tryz.func104, Tryz.ntmps104
  go_wp2
  go_loop [4, 13] (fun n i => ∃ k acc : Nat, k ≤ M ∧ acc < 128 ^ k ∧ i = .int .i64 k ∧ n = .int .u64 acc ∧ getFrom 0 0 bs = getFrom k acc (bs.drop k)) (fun _ i => M - (intOf i).toNat)
  case atStart => exact ⟨0, 0, by omega, by decide, rfl, rfl, rfl⟩
  case round =>
    obtain ⟨k, acc, hk, hacc, rfl, rfl, hg⟩ := hrel
    have HA := Lib.hid hacc
    clear hacc
    have HG := Lib.hid hg
    clear hg
    by_cases hlt : k < M
    · have hkl : k < bs.length := by have := HN.out; omega
      obtain ⟨b, off, rfl, hcell⟩ := HB.out.lt hkl
      obtain ⟨c, hc⟩ : ∃ c : UInt8, c = bs[k] := ⟨_, rfl⟩
      rw [← hc] at hcell
      have hd : bs.drop k = c :: bs.drop (k + 1) := by rw [hc]; exact List.drop_eq_getElem_cons hkl
      have HD := Lib.hid hd
      clear hd hc
      have hc256 : c.toNat < 256 := c.toNat_lt
      have hor := or_join (c := c.toNat) (show k ≤ 9 by omega) HA.out
      have hpt := pt_lt k c.toNat
      have hacc' := HA.out
      by_cases he : endsB k c.toNat = true
      · have HS := Lib.hid (ends_step (acc := acc) (cs := bs.drop (k + 1)) (show k ≤ 9 by omega) he)
        clear hacc'
        go_wp2_with (first
          | (go_at_call 135; refine (part_any _ _ _ (by omega) hc256).mono ?_; rintro e w' ⟨rfl, rfl⟩)
          | (go_at_call 136; refine (ends_any _ _ _).mono ?_; rintro e w' ⟨rfl, rfl⟩))
        go_ret2
        exact ⟨by rw [HG.out, HD.out, HS.out]; simp, rfl⟩
      · have he' : endsB k c.toNat = false := by simpa using he
        clear he
        have HS := Lib.hid (more_step (cs := bs.drop (k + 1)) (show k ≤ 9 by omega) hacc' he')
        clear hacc'
        go_wp2_with (first
          | (go_at_call 135; refine (part_any _ _ _ (by omega) hc256).mono ?_; rintro e w' ⟨rfl, rfl⟩)
          | (go_at_call 136; refine (ends_any _ _ _).mono ?_; rintro e w' ⟨rfl, rfl⟩))
        go_round
        case rel => exact ⟨k + 1, acc + pt k c.toNat, by omega, HS.out.2, by go_num, by go_num, by rw [HG.out, HD.out, HS.out.1]⟩
        case measure => simp [intOf]; omega
    · have HE : Hid (getFrom 0 0 bs = (0, 0)) := by
        show _ = _
        rw [HG.out]
        by_cases h10 : 10 ≤ k
        · exact getFrom_ten _ _ _ h10
        · have := HN.out; have := HM.out
          rw [List.drop_eq_nil_of_le (by omega)]; rfl
      go_wp2
      go_ret2
      exact ⟨by rw [HE.out]; simp, rfl⟩


theorem get_n (A : Option Addr) (n cap : Nat) (bs : List UInt8) (w : World) (hn : n = bs.length) (hb : Bs w A cap bs) :
    Calls Tryz.prog 104 #[.slice A n cap] w fun e w' => e = .returned (.tuple #[.int .u64 ((getFrom 0 0 bs).1 : Int), .int .i64 ((getFrom 0 0 bs).2 : Int)]) ∧ w = w' := by
  subst hn; exact get_any A cap bs w hb
end Go.Proofs.YtpfdnggacpehdaaGreatDoor
