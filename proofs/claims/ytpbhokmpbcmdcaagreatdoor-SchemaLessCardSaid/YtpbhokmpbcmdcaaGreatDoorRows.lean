/-
  NARROWER THAN 'FOR EVERY INPUT', by the rows' own cells (each row's printed sentence says how): SchemaChecks: laid · SchemaSame: laid · SchemaLess: laid.
  DERIVED. THE GIVEN ROWS OF THIS SEAT. 3 by the template 'for every input the law returns true; each argument reads behind the call as it read before'; 0 by the template 'total and deterministic' (their statements: YtpbhokmpbcmdcaaGreatDoorTotals.lean).
  GIVEN WITH THE SEED: the statements are not yours to turn. If you find one false, say at which input.
  Laid BY PROGRAM, IN A SANDBOX (cutbox-rows.mjs): the forced cells as the released guide's own fill.sh prints them over the translation ea41f832f2b22743… (all of the seat's roots in one cut). By AI agents, Wed Nov 11 2026. No macro, syntax, notation, axiom, sorry.
-/
import Derived.Test.YtpbhokmpbcmdcaaGreatDoorChecked
import GoSem.Claim
import GoSem.ClaimJoined
import GoSem.ClaimMapViews
import Derived.JoinedTies
import Derived.KernelRfl
namespace Go.Proofs.YtpbhokmpbcmdcaaGreatDoor
/- THE CELL 'sum', in the pinned program and in every row, IS THE sha256 OF THE DUMP (.gsa) THAT YtpbhokmpbcmdcaaGreatDoorProg.lean LOADS. Nothing in Lean hashes anything: it is a label: what it is worth is what the hold of that sum in a sandbox is worth. -/
noncomputable def Tryz.pinned : Pinned := { name := "ytpbhokmpbcmdcaagreatdoor", sum := "ea41f832f2b2274351f5f3af0ef74598f7418d906f63fa25919b7ba95aa39ab2", checked := Tryz.checked }
namespace Rows
def none {H : Type} : Left H := { results := [], args := [] }

/- WHAT THE LISTED PACKAGE-LEVEL VARIABLES READ AS WHEN THE CALL BEGINS. Each datum BY PROGRAM (the guide's laid-datum.mjs) off the statement by which the dump's own 'gosem.cut.vars' lays the variable. In a bare row this is a premise. The card (YtpbhokmpbcmdcaaGreatDoorCards.lean) ties it to the program's text. -/
def laid_ecdysis_scalar_rows {H : Type} : DataW H := .agg [.agg [.lit (.string []), .lit (.int .i64 0), .lit (.int .i64 0), .lit (.int .u64 0)], .agg [.lit (.string [105, 110, 116, 51, 50]), .lit (.int .i64 0), .lit (.int .i64 7), .lit (.int .u64 0)], .agg [.lit (.string [105, 110, 116, 54, 52]), .lit (.int .i64 0), .lit (.int .i64 15), .lit (.int .u64 0)], .agg [.lit (.string [117, 105, 110, 116, 51, 50]), .lit (.int .i64 0), .lit (.int .i64 3), .lit (.int .u64 4294967295)], .agg [.lit (.string [117, 105, 110, 116, 54, 52]), .lit (.int .i64 0), .lit (.int .i64 11), .lit (.int .u64 0)], .agg [.lit (.string [115, 105, 110, 116, 51, 50]), .lit (.int .i64 0), .lit (.int .i64 7), .lit (.int .u64 0)], .agg [.lit (.string [115, 105, 110, 116, 54, 52]), .lit (.int .i64 0), .lit (.int .i64 15), .lit (.int .u64 0)], .agg [.lit (.string [98, 111, 111, 108]), .lit (.int .i64 0), .lit (.int .i64 1), .lit (.int .u64 1)], .agg [.lit (.string [102, 105, 120, 101, 100, 51, 50]), .lit (.int .i64 5), .lit (.int .i64 3), .lit (.int .u64 4294967295)], .agg [.lit (.string [102, 105, 120, 101, 100, 54, 52]), .lit (.int .i64 1), .lit (.int .i64 11), .lit (.int .u64 0)], .agg [.lit (.string [115, 102, 105, 120, 101, 100, 51, 50]), .lit (.int .i64 5), .lit (.int .i64 7), .lit (.int .u64 0)], .agg [.lit (.string [115, 102, 105, 120, 101, 100, 54, 52]), .lit (.int .i64 1), .lit (.int .i64 15), .lit (.int .u64 0)], .agg [.lit (.string [115, 116, 114, 105, 110, 103]), .lit (.int .i64 2), .lit (.int .i64 0), .lit (.int .u64 0)], .agg [.lit (.string [98, 121, 116, 101, 115]), .lit (.int .i64 2), .lit (.int .i64 0), .lit (.int .u64 0)], .agg [.lit (.string []), .lit (.int .i64 0), .lit (.int .i64 5), .lit (.int .u64 0)], .agg [.lit (.string []), .lit (.int .i64 2), .lit (.int .i64 0), .lit (.int .u64 0)]]

/-- 'ecdysislaw15.SchemaChecks': WHATEVER THE INPUT: true; the input reads as it did. -/
def schemaChecksSpec : ChangeSpec := { name := "schemaChecks", fn := fun _ => fun
  | [d] => { results := [.lit (.bool true)], args := [d] }
  | _ => none }
def schemaChecksRow : OpenClaim := { program := "ytpbhokmpbcmdcaagreatdoor", sum := "ea41f832f2b2274351f5f3af0ef74598f7418d906f63fa25919b7ba95aa39ab2", func := "ecdysis/ecdysislaw15.SchemaChecks", spec := "schemaChecks", unfollowed := true, recurses := true, named := ["ecdysis/scalar.rows"], apart := false, laid := [("ecdysis/scalar.rows", laid_ecdysis_scalar_rows)] }
def SchemaChecksSaid : Prop := schemaChecksRow.holds Tryz.pinned (OpenSpec.ofChange schemaChecksSpec)

/-- ITS FALSE NEIGHBOUR: 'it returns false'. Refute it at one input. -/
def schemaChecksWrong : ChangeSpec := { name := "schemaChecks", fn := fun _ => fun
  | [d] => { results := [.lit (.bool false)], args := [d] }
  | _ => none }
def SchemaChecksWrongFalsely : Prop := schemaChecksRow.holds Tryz.pinned (OpenSpec.ofChange schemaChecksWrong)

/-- 'ecdysislaw15.SchemaSame': WHATEVER THE INPUT: true; the input reads as it did. -/
def schemaSameSpec : ChangeSpec := { name := "schemaSame", fn := fun _ => fun
  | [d1, d2] => { results := [.lit (.bool true)], args := [d1, d2] }
  | _ => none }
def schemaSameRow : OpenClaim := { program := "ytpbhokmpbcmdcaagreatdoor", sum := "ea41f832f2b2274351f5f3af0ef74598f7418d906f63fa25919b7ba95aa39ab2", func := "ecdysis/ecdysislaw15.SchemaSame", spec := "schemaSame", unfollowed := true, recurses := true, named := ["ecdysis/scalar.rows"], apart := false, laid := [("ecdysis/scalar.rows", laid_ecdysis_scalar_rows)] }
def SchemaSameSaid : Prop := schemaSameRow.holds Tryz.pinned (OpenSpec.ofChange schemaSameSpec)

/-- ITS FALSE NEIGHBOUR: 'it returns false'. Refute it at one input. -/
def schemaSameWrong : ChangeSpec := { name := "schemaSame", fn := fun _ => fun
  | [d1, d2] => { results := [.lit (.bool false)], args := [d1, d2] }
  | _ => none }
def SchemaSameWrongFalsely : Prop := schemaSameRow.holds Tryz.pinned (OpenSpec.ofChange schemaSameWrong)

/-- 'ecdysislaw15.SchemaLess': WHATEVER THE INPUT: true; the input reads as it did. -/
def schemaLessSpec : ChangeSpec := { name := "schemaLess", fn := fun _ => fun
  | [d1, d2] => { results := [.lit (.bool true)], args := [d1, d2] }
  | _ => none }
def schemaLessRow : OpenClaim := { program := "ytpbhokmpbcmdcaagreatdoor", sum := "ea41f832f2b2274351f5f3af0ef74598f7418d906f63fa25919b7ba95aa39ab2", func := "ecdysis/ecdysislaw15.SchemaLess", spec := "schemaLess", unfollowed := true, recurses := true, named := ["ecdysis/scalar.rows"], apart := false, laid := [("ecdysis/scalar.rows", laid_ecdysis_scalar_rows)] }
def SchemaLessSaid : Prop := schemaLessRow.holds Tryz.pinned (OpenSpec.ofChange schemaLessSpec)

/-- ITS FALSE NEIGHBOUR: 'it returns false'. Refute it at one input. -/
def schemaLessWrong : ChangeSpec := { name := "schemaLess", fn := fun _ => fun
  | [d1, d2] => { results := [.lit (.bool false)], args := [d1, d2] }
  | _ => none }
def SchemaLessWrongFalsely : Prop := schemaLessRow.holds Tryz.pinned (OpenSpec.ofChange schemaLessWrong)

/- THE SECOND FORM. 'bulk': how many values and letters a reading holds, each counted each time it is reached (what is shared counts as often as it is met; a slice's spare places count too). A statement '..UptoSaid' is the law's where the arguments, and the package variables that the reading takes, are together of bulk at most 1048576: NARROWER than '..Said'. Prove '..Said' where nothing that the law and all that it calls make is longer than what came in: it says more and counts as full. Else prove '..UptoSaid'. A law counts once. -/
mutual
def uptoBulk {H : Type} : DataW H → Nat
  | .lit (.string bytes) => bytes.length + 1
  | .lit _ => 1
  | .nil => 1
  | .ptr d => uptoBulk d + 1
  | .slice elems spare => uptoBulkAll elems + uptoBulkAll spare + 1
  | .agg parts => uptoBulkAll parts + 1
  | .iface _ d => uptoBulk d + 1
  | .map entries => uptoBulkEntries entries + 1
  | .held _ => 1
def uptoBulkAll {H : Type} : List (DataW H) → Nat
  | [] => 0
  | d :: r => uptoBulk d + uptoBulkAll r
def uptoBulkEntries {H : Type} : List (Lit × DataW H) → Nat
  | [] => 0
  | x :: r => uptoBulkEntry x + uptoBulkEntries r
def uptoBulkEntry {H : Type} : Lit × DataW H → Nat
  | (.string bytes, d) => bytes.length + uptoBulk d + 1
  | (_, d) => uptoBulk d + 1
 end
def uptoSmall : (H : Type) → List (DataW H) → Bool := fun _ ds => decide (uptoBulkAll ds ≤ 1048576)
def OpenSpec.upto (s : _root_.Go.ChangeSpec) : _root_.Go.OpenSpec := { _root_.Go.OpenSpec.ofChange s with cond := some uptoSmall }

/-- 'ecdysislaw15.SchemaChecks', WHERE WHAT IT READS IS OF BULK AT MOST 1048576: true; the input reads as it did. -/
def schemaChecksUptoRow : OpenClaim := { program := "ytpbhokmpbcmdcaagreatdoor", sum := "ea41f832f2b2274351f5f3af0ef74598f7418d906f63fa25919b7ba95aa39ab2", func := "ecdysis/ecdysislaw15.SchemaChecks", spec := "schemaChecks", unfollowed := true, recurses := true, named := ["ecdysis/scalar.rows"], apart := false, laid := [("ecdysis/scalar.rows", laid_ecdysis_scalar_rows)], narrowed := true }
def SchemaChecksUptoSaid : Prop := schemaChecksUptoRow.holds Tryz.pinned (OpenSpec.upto schemaChecksSpec)

/-- 'ecdysislaw15.SchemaSame', WHERE WHAT IT READS IS OF BULK AT MOST 1048576: true; the input reads as it did. -/
def schemaSameUptoRow : OpenClaim := { program := "ytpbhokmpbcmdcaagreatdoor", sum := "ea41f832f2b2274351f5f3af0ef74598f7418d906f63fa25919b7ba95aa39ab2", func := "ecdysis/ecdysislaw15.SchemaSame", spec := "schemaSame", unfollowed := true, recurses := true, named := ["ecdysis/scalar.rows"], apart := false, laid := [("ecdysis/scalar.rows", laid_ecdysis_scalar_rows)], narrowed := true }
def SchemaSameUptoSaid : Prop := schemaSameUptoRow.holds Tryz.pinned (OpenSpec.upto schemaSameSpec)

/-- 'ecdysislaw15.SchemaLess', WHERE WHAT IT READS IS OF BULK AT MOST 1048576: true; the input reads as it did. -/
def schemaLessUptoRow : OpenClaim := { program := "ytpbhokmpbcmdcaagreatdoor", sum := "ea41f832f2b2274351f5f3af0ef74598f7418d906f63fa25919b7ba95aa39ab2", func := "ecdysis/ecdysislaw15.SchemaLess", spec := "schemaLess", unfollowed := true, recurses := true, named := ["ecdysis/scalar.rows"], apart := false, laid := [("ecdysis/scalar.rows", laid_ecdysis_scalar_rows)], narrowed := true }
def SchemaLessUptoSaid : Prop := schemaLessUptoRow.holds Tryz.pinned (OpenSpec.upto schemaLessSpec)

end Rows
end Go.Proofs.YtpbhokmpbcmdcaaGreatDoor
