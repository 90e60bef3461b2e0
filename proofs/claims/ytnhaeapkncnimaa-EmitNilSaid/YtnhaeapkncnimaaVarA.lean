/- varint.Size: what it returns, for every input; the world is as it was. -/
import Derived.Test.YtnhaeapkncnimaaLen64
import Derived.Test.YtnhaeapkncnimaaVarMath
import Derived.Test.YtnhaeapkncnimaaBytes
import Derived.Test.YtnhaeapkncnimaaInts
import Derived.WalkKit
import Derived.Lib.Small
import Derived.Lib.Walk
import Derived.RowKitTokens
import Derived.Deep.LoopGhost
import Derived.BigQuiet
import Derived.Deep.QuietTactic
namespace Go.Proofs.Ytnhaeapkncnimaa
open Go.RowKit
open Go.Lib (uvarint bitLen bitLen_le)

theorem size_any (n : Nat) (w : World) (h : n < 18446744073709551616) :
    Calls Try.prog 49 #[.int .u64 (n : Int)] w fun e w' => e = .returned (.int .i64 ((uvarint n).length : Int)) ∧ w = w' := by
  have hor := or_one n h
  have hl := uvarint_len n h
  have hb := bitLen_le (n / 2 * 2 + 1) 64 (by decide) (by omega)
  obtain ⟨m, hm⟩ : ∃ m, m = n / 2 * 2 + 1 := ⟨_, rfl⟩
  rw [← hm] at hor hl hb
  have hm64 : m < 18446744073709551616 := by omega
  clear hm
  have HL := Lib.hid hl
  clear hl
  go_enter Try.func49, Try.ntmps49
  go_wp2_with (go_at_call 60; refine (len64_any _ _ hm64).mono ?_; rintro e w' ⟨rfl, rfl⟩)
  go_ret
  exact ⟨ret_int' (by have := HL.out; omega), rfl⟩

end Go.Proofs.Ytnhaeapkncnimaa
