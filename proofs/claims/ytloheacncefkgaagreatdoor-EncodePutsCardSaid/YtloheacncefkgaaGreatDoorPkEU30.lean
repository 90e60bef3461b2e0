/- Several texts in one: VarA, VarC. What each proves, and its conditions, stands at its own head. -/
import Derived.Test.YtloheacncefkgaaGreatDoorPkEU10
import Derived.Test.YtloheacncefkgaaGreatDoorPkEU28
import Derived.Test.YtloheacncefkgaaGreatDoorPkEU0
import Derived.WalkKit
import Derived.Lib.Small
import Derived.Lib.Walk
import Derived.RowKitTokens
import Derived.Deep.LoopGhost
import Derived.BigQuiet
import Derived.Deep.QuietTactic
import Derived.OwnWalk
/- varint.Size: what it returns, for every input; the world is as it was. -/
namespace Go.Proofs.YtloheacncefkgaaGreatDoor
open Go.RowKit
open Go.Lib (uvarint bitLen bitLen_le)

theorem size_any (n : Nat) (w : World) (h : n < 18446744073709551616) :
 Calls Tryz.prog 132 #[.int .u64 (n : Int)] w fun e w' => e = .returned (.int .i64 ((uvarint n).length : Int)) ∧ w = w' := by
 have hor := or_one n h
 have hl := uvarint_len n h
 have hb := bitLen_le (n / 2 * 2 + 1) 64 (by decide) (by omega)
 obtain ⟨m, hm⟩ : ∃ m, m = n / 2 * 2 + 1 := ⟨_, rfl⟩
 rw [← hm] at hor hl hb
 have hm64 : m < 18446744073709551616 := by omega
 clear hm
 have HL := Lib.hid hl
 clear hl
 go_enter Tryz.func132, Tryz.ntmps132
 go_wp2_with (go_at_call 151; refine (len64_any _ _ hm64).mono ?_; rintro e w' ⟨rfl, rfl⟩)
 go_ret
 exact ⟨ret_int' (by have := HL.out; omega), rfl⟩

end Go.Proofs.YtloheacncefkgaaGreatDoor

/- The calls that make the bytes of a number (varint.Put and the reference's Put): each returns a slice that reads as the number's bytes, in memory of its own; what was there is as it was. Condition: the number is one of 64 bits. -/
namespace Go.Proofs.YtloheacncefkgaaGreatDoor
open Go.RowKit
open Go.Lib (uvarint)

set_option maxHeartbeats 400000 in
set_option maxRecDepth 100000 in
theorem put_new (n : Nat) (w : World) (h : n < 18446744073709551616) :
 Calls Tryz.prog 94 #[.int .u64 (n : Int)] w (GivesN w (uvarint n)) := by
 obtain ⟨i0, hi, hz0, hz1, hz2⟩ := info_parts info_u8
 have h10 := Lib.uvarint_length64 h
 obtain ⟨L, hL⟩ : ∃ L : Nat, L = (uvarint n).length := ⟨_, rfl⟩
 rw [← hL] at h10
 have HL := Lib.hid hL
 clear hL
 have HS : Hid (∀ w : World, Calls Tryz.prog 132 #[.int .u64 (n : Int)] w fun e w' => e = .returned (.int .i64 (L : Int)) ∧ w = w') := by
  show ∀ w : World, _
  intro w; rw [HL.out]; exact size_any n w h
 go_enter Tryz.func94, Tryz.ntmps94
 go_wp2_with (first
  | (go_at_call 132; refine (HS.out _).mono ?_; rintro e w' ⟨rfl, rfl⟩)
  | (at_make; refine wpList_make_own _ rfl _ _ 34 rfl w.heap.size 5 i0 _ 1 Tryz.underlying34 hi hz0 hz1 .i64 .i64 _ L rfl rfl rfl (by rw [hz2]; omega) (by unfold maxLen; omega) (Nat.le_refl _) ?_; intro w1 hown1 hgrow1))
 have hb1 := Lib.hid (show Below w.heap.size w w1 from (Below.refl _ _).grown hgrow1 (Nat.le_refl _) (by simp))
 clear hgrow1
 go_loopw [0, 3] (fun x v wr => ∃ (m : Nat) (pre : List UInt8), m < 18446744073709551616 ∧ x = .int .u64 m ∧ wr.ownsRow w.heap.size 5 1 v pre.length (cellsOf pre) ∧ Below w.heap.size w wr ∧ Hid (pre ++ uvarint m = uvarint n)) (fun x _ _ => (intOf x).toNat)
 case atStart => exact ⟨n, [], h, rfl, hown1, hb1.out, rfl⟩
 case round =>
  obtain ⟨m, pre, hm, rfl, hown, hbel, HP⟩ := hrel
  have hsz := hbel.size
  have hlen : pre.length + 1 ≤ 10 := by
   have h1 := congrArg List.length HP.out
   have h2 := Lib.uvarint_pos m
   have := HL.out
   rw [List.length_append] at h1
   omega
  by_cases hlt : 128 ≤ m
  ·have HC := Lib.hid (cellsOf_snoc pre (a := m % 128 + 128) (by omega) (x := (m : Int) % 128 + 128) (by omega))
   have HQ : Hid ((pre ++ [(m % 128 + 128).toUInt8]) ++ uvarint (m / 128) = uvarint n) := by
    show _ = _
    rw [← HP.out, Lib.uvarint_big hlt, List.append_assoc]; rfl
   go_wp2_with (at_builtin; refine wpList_append_own _ rfl _ _ 34 rfl w.heap.size 5 i0 (.int .u8 0) 1 1 Tryz.underlying34 hi hz0 hz1 hz2 rfl (by decide) _ _ _ rfl (hown.alloc _) ⟨wr.heap.size, 0, none⟩ 1 1 [.int .u8 ((m : Int) % 128 + 128)] rfl rfl (cell_one_new _ _ _) (one_one _) (by unfold maxLen; omega) (by omega) (by simp; omega) ?_; intro v2 w2 hown2 hgrow2 _)
   have hown3 : w2.ownsRow w.heap.size 5 1 v2 (pre ++ [(m % 128 + 128).toUInt8]).length (cellsOf (pre ++ [(m % 128 + 128).toUInt8])) := by
    rw [← HC.out]; simpa using hown2
   have hb2 : Below w.heap.size w w2 := (hbel.alloc hsz _).grown hgrow2 (by simp; omega) (fun k hk => (hown.lt k hk).1)
   clear hown2 hgrow2 hown hbel
   go_wp2
   go_roundw
   case rel => exact ⟨m / 128, _, by omega, by go_num, hown3, hb2, HQ⟩
   case measure => simp [intOf]; omega
  ·have HC := Lib.hid (cellsOf_snoc pre (a := m) (by omega) (x := (m : Int)) rfl)
   have HQ : Hid (pre ++ [m.toUInt8] = uvarint n) := by
    show _ = _
    rw [← HP.out, Lib.uvarint_small (by omega)]
   go_wp2_with (at_builtin; refine wpList_append_own _ rfl _ _ 34 rfl w.heap.size 5 i0 (.int .u8 0) 1 1 Tryz.underlying34 hi hz0 hz1 hz2 rfl (by decide) _ _ _ rfl (hown.alloc _) ⟨wr.heap.size, 0, none⟩ 1 1 [.int .u8 (m : Int)] rfl rfl (cell_one_new _ _ _) (one_one _) (by unfold maxLen; omega) (by omega) (by simp; omega) ?_; intro v2 w2 hown2 hgrow2 _)
   have hown3 : w2.ownsRow w.heap.size 5 1 v2 (pre.length + 1) (cellsOf (uvarint n)) := by
    rw [← HQ.out, ← HC.out]; exact hown2
   have hb2 : Below w.heap.size w w2 := (hbel.alloc hsz _).grown hgrow2 (by simp; omega) (fun k hk => (hown.lt k hk).1)
   clear hown2 hgrow2 hown hbel
   go_wp2
   go_ret
   exact new_own hown3 hb2
end Go.Proofs.YtloheacncefkgaaGreatDoor
