/- Several texts in one: Len64. What each proves, and its conditions, stands at its own head. -/
import Derived.Test.YtloheacncefkgaaGreatDoorChecked
import Derived.Lib.Strings
import Derived.Lib.Slices
import Derived.Lib.Small
import Derived.Lib.Walk
import Derived.Lib.BitFns
/- math/bits.Len64 returns the number of bits of every uint64; the world is as it was. -/
namespace Go.Proofs.YtloheacncefkgaaGreatDoor

theorem wraps_away {k L B q : Int} (hL : L = q) (hk0 : 0 ≤ k) (hk : k ≤ 56) (hq0 : 0 ≤ q) (hq : q ≤ 8) (hB : B = k + q) :
 (k + ((L + 9223372036854775808) % 18446744073709551616 - 9223372036854775808) + 9223372036854775808) % 18446744073709551616 - 9223372036854775808 = B := by
 subst hL hB; omega
theorem bits_high {n k P q : Nat} (h : n < 18446744073709551616) (hP : P = 2 ^ k) (hq : n / P = q) (hlo : P ≤ n) : Lib.bitLen n = k + Lib.bitLen q := by
 subst hP hq
 exact Lib.bitLen_shift k n hlo h
/-- One way through the tests ends so: k bits are shifted out (P is 2 to the k), the table tells the rest. -/
theorem len_way {n k q : Nat} {y : Int} (hk : k ≤ 56) (hB : Lib.bitLen n = k + Lib.bitLen q) (hy : y = (q : Int)) (hhi : q < 256) :
 ((k : Int) + ((Lib.len8 (y % 256) + 9223372036854775808) % 18446744073709551616 - 9223372036854775808) + 9223372036854775808) % 18446744073709551616 - 9223372036854775808 = (Lib.bitLen n : Int) := by
 have e0 : y % 256 = (q : Int) := by omega
 rw [e0]
 have e1 := Lib.len8_of (q : Int) (by omega) (by omega)
 have e3 := Lib.bitLen_le8' (q : Int) (by omega) (by omega)
 rw [Int.toNat_natCast] at e1 e3
 exact wraps_away e1 (by omega) (by omega) (by omega) (by omega) (by rw [hB]; simp)
theorem ret_i64 {a b : Int} (h : a = b) : Ending.returned (.int .i64 a) = .returned (.int .i64 b) := by rw [h]

set_option maxHeartbeats 1000000 in
set_option maxRecDepth 100000 in
theorem len64_any (n : Nat) (w : World) (h : n < 18446744073709551616) :
 Calls Tryz.prog 151 #[.int .u64 (n : Int)] w fun e w' => e = .returned (.int .i64 (Lib.bitLen n : Int)) ∧ w = w' := by
 go_enter Tryz.func151, Tryz.ntmps151
 go_wp2
 all_goals (go_ret; refine ⟨ret_i64 ?_, rfl⟩)
 ·exact len_way (n := n) (k := 56) (q := n / 72057594037927936) (y := (n : Int) / 4294967296 / 65536 / 256) (by decide) (bits_high (P := 72057594037927936) h (by decide) rfl (by omega)) (by omega) (by omega)
 ·exact len_way (n := n) (k := 48) (q := n / 281474976710656) (y := (n : Int) / 4294967296 / 65536) (by decide) (bits_high (P := 281474976710656) h (by decide) rfl (by omega)) (by omega) (by omega)
 ·exact len_way (n := n) (k := 40) (q := n / 1099511627776) (y := (n : Int) / 4294967296 / 256) (by decide) (bits_high (P := 1099511627776) h (by decide) rfl (by omega)) (by omega) (by omega)
 ·exact len_way (n := n) (k := 32) (q := n / 4294967296) (y := (n : Int) / 4294967296) (by decide) (bits_high (P := 4294967296) h (by decide) rfl (by omega)) (by omega) (by omega)
 ·exact len_way (n := n) (k := 24) (q := n / 16777216) (y := (n : Int) / 65536 / 256) (by decide) (bits_high (P := 16777216) h (by decide) rfl (by omega)) (by omega) (by omega)
 ·exact len_way (n := n) (k := 16) (q := n / 65536) (y := (n : Int) / 65536) (by decide) (bits_high (P := 65536) h (by decide) rfl (by omega)) (by omega) (by omega)
 ·exact len_way (n := n) (k := 8) (q := n / 256) (y := (n : Int) / 256) (by decide) (bits_high (P := 256) h (by decide) rfl (by omega)) (by omega) (by omega)
 ·have e := len_way (n := n) (k := 0) (q := n) (y := (n : Int)) (by decide) (by omega) rfl (by omega)
  rw [Int.natCast_zero, Int.zero_add] at e
  have h0 := Lib.bitLen_le8' ((n : Int) % 256) (by omega) (by omega)
  have h1 := Lib.len8_of ((n : Int) % 256) (by omega) (by omega)
  omega

end Go.Proofs.YtloheacncefkgaaGreatDoor
