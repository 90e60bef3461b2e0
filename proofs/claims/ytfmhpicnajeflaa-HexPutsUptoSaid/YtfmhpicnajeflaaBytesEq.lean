/- The reference's Bytes: whether two slices read as the same bytes, for all bytes; the world is as it was. -/
import Derived.Test.YtfmhpicnajeflaaGives
namespace Go.Proofs.Ytfmhpicnajeflaa
open Go.RowKit

set_option maxRecDepth 100000 in
theorem bytes_any (A A' : Option Addr) (cap cap' : Nat) (bs bs' : List UInt8) (w : World) (h : Bs w A cap bs) (h' : Bs w A' cap' bs') :
    Calls Try.prog 9 #[.slice A bs.length cap, .slice A' bs'.length cap'] w fun e w' => e = .returned (.bool (decide (bs = bs'))) ∧ w = w' := by
  have g1 := run_string_bytes (P := Try.prog) h Try.underlying22 Try.underlying5 Try.underlying9
  have g2 := run_string_bytes (P := Try.prog) h' Try.underlying22 Try.underlying5 Try.underlying9
  go_enter Try.func9, Try.ntmps9
  go_wp2
  go_ret
  exact ⟨congrArg (fun b => Ending.returned (.bool b)) (strOf_beq bs bs'), rfl⟩
theorem bytes_n (A A' : Option Addr) (n n' cap cap' : Nat) (bs bs' : List UInt8) (w : World) (hn : n = bs.length) (hn' : n' = bs'.length) (h : Bs w A cap bs) (h' : Bs w A' cap' bs') :
    Calls Try.prog 9 #[.slice A n cap, .slice A' n' cap'] w fun e w' => e = .returned (.bool (decide (bs = bs'))) ∧ w = w' := by
  subst hn hn'; exact bytes_any A A' cap cap' bs bs' w h h'
end Go.Proofs.Ytfmhpicnajeflaa
