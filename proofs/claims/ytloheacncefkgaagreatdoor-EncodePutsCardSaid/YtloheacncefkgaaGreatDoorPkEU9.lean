/- Several texts in one: FixC. What each proves, and its conditions, stands at its own head. -/
import Derived.Test.YtloheacncefkgaaGreatDoorPkEU1
import Derived.Test.YtloheacncefkgaaGreatDoorPkEU0
import Derived.Lib.Hide
import Derived.Deep.LoopGhost
/- The document's answer that lays a number's bytes (Put): what it returns, for every input; memory that was there is as it was. -/
namespace Go.Proofs.YtloheacncefkgaaGreatDoor
open Go.RowKit
set_option linter.unusedVariables false
set_option maxRecDepth 100000

set_option maxHeartbeats 400000 in
theorem fput_any (n k : Nat) (w : World) (h : n < 18446744073709551616) (hk : k ≤ 8) :
 Calls Tryz.prog 43 #[.int .u64 (n : Int), .int .i64 (k : Int)] w (Gives w (le k n)) := by
 obtain ⟨i0, hi, hz0, hz1, hz2⟩ := info_parts info_u8
 go_enter Tryz.func43, Tryz.ntmps43
 go_wp2
 go_loopw [0, 5, 6] (fun x v c wr => ∃ (j m : Nat) (pre : List UInt8), j ≤ k ∧ m < 18446744073709551616 ∧ x = .int .u64 m ∧ c = .int .i64 (j : Int) ∧ wr.ownsRow w.heap.size 5 1 v pre.length (cellsOf pre) ∧ Below w.heap.size w wr ∧ pre.length = j ∧ Hid (pre ++ le (k - j) m = le k n)) (fun _ _ c _ => 8 - (intOf c).toNat)
 case atStart => exact ⟨0, n, [], by omega, h, rfl, rfl, World.ownsRow_made (base := w.heap.size) (e := 5) (size := 1) w #[] 0 (Nat.le_refl _) (by decide) rfl, (Below.refl _ _).alloc (Nat.le_refl _) _, rfl, rfl⟩
 case round =>
  obtain ⟨j, m, pre, hj, hm, rfl, rfl, hown, hbel, hpl, HP⟩ := hrel
  have hsz := hbel.size
  by_cases hlt : j < k
  ·have g1 : decide ((j : Int) < (k : Int)) = true := decide_eq_true (by omega)
   have HC := Lib.hid (cellsOf_snoc pre (a := m % 256) (by omega) (x := (m : Int) % 256) (by omega))
   have HQ : Hid ((pre ++ [(m % 256).toUInt8]) ++ le (k - (j + 1)) (m / 256) = le k n) := by
    show _ = _
    rw [← HP.out, show k - j = (k - (j + 1)) + 1 by omega, le, List.append_assoc]; rfl
   go_wp2_with (at_builtin; refine wpList_append_own _ rfl _ _ 34 rfl w.heap.size 5 i0 (.int .u8 0) 1 1 Tryz.underlying34 hi hz0 hz1 hz2 rfl (by decide) _ _ _ rfl (hown.alloc _) ⟨wr.heap.size, 0, none⟩ 1 1 [.int .u8 ((m : Int) % 256)] rfl rfl (cell_one_new _ _ _) (one_one _) (by unfold maxLen; omega) (by omega) (by simp; omega) ?_; intro v2 w2 hown2 hgrow2 _)
   have hown3 : w2.ownsRow w.heap.size 5 1 v2 (pre ++ [(m % 256).toUInt8]).length (cellsOf (pre ++ [(m % 256).toUInt8])) := by
    rw [← HC.out]; simpa using hown2
   have hb2 : Below w.heap.size w w2 := (hbel.alloc hsz _).grown hgrow2 (by simp; omega) (fun k hk => (hown.lt k hk).1)
   clear hown2 hgrow2 hown hbel
   go_wp2
   go_roundw
   case rel => exact ⟨j + 1, m / 256, _, by omega, by omega, by go_num, by go_num, hown3, hb2, by simp [hpl], HQ⟩
   case measure => simp [intOf]; omega
  ·have g1 : decide ((j : Int) < (k : Int)) = false := decide_eq_false (by omega)
   have HE : Hid (pre = le k n) := by
    show _ = _
    have h1 := HP.out
    rw [show k - j = 0 by omega] at h1
    simpa [le] using h1
   go_wp2
   go_ret
   rw [HE.out] at hown
   exact gives_own hown hbel

end Go.Proofs.YtloheacncefkgaaGreatDoor
