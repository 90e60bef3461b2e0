/- Several texts in one: VarD. What each proves, and its conditions, stands at its own head. -/
import Derived.Test.YtloheacncefkgaaGreatDoorPkEU28
import Derived.Test.YtloheacncefkgaaGreatDoorPkEU0
import Derived.OwnWalk
import Derived.RowKitTokens
import Derived.WalkKit
/- The reference's Put: the bytes of a number in memory of their own. Conditions: those that each theorem names. -/
namespace Go.Proofs.YtloheacncefkgaaGreatDoor
open Go.RowKit
open Go.Lib (uvarint)

set_option maxHeartbeats 400000 in
set_option maxRecDepth 100000 in
theorem rput_own (n : Nat) (w : World) (h : n < 18446744073709551616) :
 Calls Tryz.prog 44 #[.int .u64 (n : Int)] w (GivesOwn w (uvarint n)) := by
 obtain ⟨i0, hi, hz0, hz1, hz2⟩ := info_parts info_u8
 have h10 := Lib.uvarint_length64 h
 obtain ⟨L, hL⟩ : ∃ L : Nat, L = (uvarint n).length := ⟨_, rfl⟩
 rw [← hL] at h10
 have HL := Lib.hid hL
 clear hL
 go_enter Tryz.func44, Tryz.ntmps44
 go_wp2_with fail
 go_loopw [0, 3] (fun x v wr => ∃ (m : Nat) (pre : List UInt8), m < 18446744073709551616 ∧ x = .int .u64 m ∧ wr.ownsRow w.heap.size 5 1 v pre.length (cellsOf pre) ∧ Below w.heap.size w wr ∧ Hid (pre ++ uvarint m = uvarint n)) (fun x _ _ => (intOf x).toNat)
 case atStart => exact ⟨n, [], h, rfl, World.ownsRow_made (base := w.heap.size) (e := 5) (size := 1) w #[] 0 (Nat.le_refl _) (by decide) rfl, (Below.refl _ _).alloc (Nat.le_refl _) _, rfl⟩
 case round =>
  obtain ⟨m, pre, hm, rfl, hown, hbel, HP⟩ := hrel
  have hsz := hbel.size
  have hlen : pre.length + 1 ≤ 10 := by
   have h1 := congrArg List.length HP.out
   have h2 := Lib.uvarint_pos m
   have := HL.out
   rw [List.length_append] at h1
   omega
  by_cases hlt : 128 ≤ m
  ·have HC := Lib.hid (cellsOf_snoc pre (a := m % 128 + 128) (by omega) (x := (m : Int) % 128 + 128) (by omega))
   have HQ : Hid ((pre ++ [(m % 128 + 128).toUInt8]) ++ uvarint (m / 128) = uvarint n) := by
    show _ = _
    rw [← HP.out, Lib.uvarint_big hlt, List.append_assoc]; rfl
   go_wp2_with (at_builtin; refine wpList_append_own _ rfl _ _ 34 rfl w.heap.size 5 i0 (.int .u8 0) 1 1 Tryz.underlying34 hi hz0 hz1 hz2 rfl (by decide) _ _ _ rfl (hown.alloc _) ⟨wr.heap.size, 0, none⟩ 1 1 [.int .u8 ((m : Int) % 128 + 128)] rfl rfl (cell_one_new _ _ _) (one_one _) (by unfold maxLen; omega) (by omega) (by simp; omega) ?_; intro v2 w2 hown2 hgrow2 _)
   have hown3 : w2.ownsRow w.heap.size 5 1 v2 (pre ++ [(m % 128 + 128).toUInt8]).length (cellsOf (pre ++ [(m % 128 + 128).toUInt8])) := by
    rw [← HC.out]; simpa using hown2
   have hb2 : Below w.heap.size w w2 := (hbel.alloc hsz _).grown hgrow2 (by simp; omega) (fun k hk => (hown.lt k hk).1)
   clear hown2 hgrow2 hown hbel
   go_wp2
   go_roundw
   case rel => exact ⟨m / 128, _, by omega, by go_num, hown3, hb2, HQ⟩
   case measure => simp [intOf]; omega
  ·have HC := Lib.hid (cellsOf_snoc pre (a := m) (by omega) (x := (m : Int)) rfl)
   have HQ : Hid (pre ++ [m.toUInt8] = uvarint n) := by
    show _ = _
    rw [← HP.out, Lib.uvarint_small (by omega)]
   go_wp2_with (at_builtin; refine wpList_append_own _ rfl _ _ 34 rfl w.heap.size 5 i0 (.int .u8 0) 1 1 Tryz.underlying34 hi hz0 hz1 hz2 rfl (by decide) _ _ _ rfl (hown.alloc _) ⟨wr.heap.size, 0, none⟩ 1 1 [.int .u8 (m : Int)] rfl rfl (cell_one_new _ _ _) (one_one _) (by unfold maxLen; omega) (by omega) (by simp; omega) ?_; intro v2 w2 hown2 hgrow2 _)
   have hown3 : w2.ownsRow w.heap.size 5 1 v2 (pre.length + 1) (cellsOf (uvarint n)) := by
    rw [← HQ.out, ← HC.out]; exact hown2
   have hb2 : Below w.heap.size w w2 := (hbel.alloc hsz _).grown hgrow2 (by simp; omega) (fun k hk => (hown.lt k hk).1)
   clear hown2 hgrow2 hown hbel
   go_wp2
   go_ret
   exact ⟨_, _, rfl, hown3, hb2⟩
theorem rput_any (n : Nat) (w : World) (h : n < 18446744073709551616) :
 Calls Tryz.prog 44 #[.int .u64 (n : Int)] w (Gives w (uvarint n)) :=
 (rput_own n w h).mono fun _ _ ⟨_, _, he, ho, hb⟩ => he ▸ gives_own ho hb

end Go.Proofs.YtloheacncefkgaaGreatDoor
