/- Eight and four bytes as cells of an array (no program here). -/
import Derived.Test.YtnhaeapkncnimaaChecked
import Derived.Test.YtnhaeapkncnimaaFixMath
import Derived.Test.YtnhaeapkncnimaaInts
import Derived.Test.YtnhaeapkncnimaaGives
import Derived.WalkKit
import Derived.RowKitTokens
import Derived.Lib.Hide
import Derived.Laws.Rows
import Derived.Laws.Cover3
import Derived.Deep.LoopGhost
namespace Go.Proofs.Ytnhaeapkncnimaa
open Go.RowKit
set_option linter.unusedVariables false
set_option maxRecDepth 100000

/-- The eight cells of eight bytes. -/
def eightOf (b0 b1 b2 b3 b4 b5 b6 b7 : UInt8) : Array Value := #[.int .u8 (b0.toNat : Int), .int .u8 (b1.toNat : Int), .int .u8 (b2.toNat : Int), .int .u8 (b3.toNat : Int), .int .u8 (b4.toNat : Int), .int .u8 (b5.toNat : Int), .int .u8 (b6.toNat : Int), .int .u8 (b7.toNat : Int)]
theorem eight_bytes {bs : List UInt8} (h : bs.length = 8) : ∃ b0 b1 b2 b3 b4 b5 b6 b7 : UInt8, bs = [b0, b1, b2, b3, b4, b5, b6, b7] := by
  match bs, h with
  | [b0, b1, b2, b3, b4, b5, b6, b7], _ => exact ⟨_, _, _, _, _, _, _, _, rfl⟩
theorem four_bytes {bs : List UInt8} (h : bs.length = 4) : ∃ b0 b1 b2 b3 : UInt8, bs = [b0, b1, b2, b3] := by
  match bs, h with
  | [b0, b1, b2, b3], _ => exact ⟨_, _, _, _, rfl⟩

def fourOf (b0 b1 b2 b3 : UInt8) : Array Value := #[.int .u8 (b0.toNat : Int), .int .u8 (b1.toNat : Int), .int .u8 (b2.toNat : Int), .int .u8 (b3.toNat : Int)]
end Go.Proofs.Ytnhaeapkncnimaa
