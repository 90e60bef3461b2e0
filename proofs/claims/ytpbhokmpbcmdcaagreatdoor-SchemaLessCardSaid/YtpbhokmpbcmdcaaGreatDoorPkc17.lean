/- Several texts in one: LwD. What each proves, and its conditions, stands at its own head. -/
import Derived.Test.YtpbhokmpbcmdcaaGreatDoorPkc3
import Derived.Test.YtpbhokmpbcmdcaaGreatDoorPkc9
import Derived.Test.YtpbhokmpbcmdcaaGreatDoorPkc16
import Derived.Test.YtpbhokmpbcmdcaaGreatDoorPkc13
import Derived.Lib.AppendIntMem
import Derived.Lib.SmallJoins
/- The library's table of tens as a law's row lays it (`DecEnv`); FormatUint; the program's Digits. Conditions: DecEnv; those that each theorem names. -/
namespace Go.Proofs.YtpbhokmpbcmdcaaGreatDoor
open Go.RowKit Go.Sort
set_option linter.unusedVariables false
set_option maxRecDepth 100000

structure DecEnv (w : World) : Prop where
  tab : Lib.TabIs Tryz.prog w "internal/strconv.uint64pow10" .u64 Lib.pow10Tab
def byteV (b : UInt8) : Value := .int .u8 (b.toNat : Int)
end Go.Proofs.YtpbhokmpbcmdcaaGreatDoor
