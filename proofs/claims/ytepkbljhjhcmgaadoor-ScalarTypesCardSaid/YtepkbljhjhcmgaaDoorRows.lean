/-
  NARROWER THAN 'FOR EVERY INPUT', by the rows' own cells (each row's printed sentence says how): ScalarTypes: laid · ScalarWords: laid · ScalarAll: laid.
  DERIVED. THE GIVEN ROWS OF THIS SEAT. 3 by the template 'for every input the law returns true; each argument reads behind the call as it read before'; 0 by the template 'total and deterministic' (their statements: YtepkbljhjhcmgaaDoorTotals.lean).
  GIVEN WITH THE SEED: the statements are not yours to turn. If you find one false, say at which input.
  Laid BY PROGRAM, IN A SANDBOX (cutbox-rows.mjs): the forced cells as the released guide's own fill.sh prints them over the translation bc4d6887ccf1b318… (all of the seat's roots in one cut). By AI agents, Wed Nov 11 2026. No macro, syntax, notation, axiom, sorry.
-/
import Derived.Test.YtepkbljhjhcmgaaDoorChecked
import GoSem.Claim
import GoSem.ClaimJoined
import GoSem.ClaimMapViews
import Derived.JoinedTies
import Derived.KernelRfl
namespace Go.Proofs.YtepkbljhjhcmgaaDoor
/- THE CELL 'sum', in the pinned program and in every row, IS THE sha256 OF THE DUMP (.gsa) THAT YtepkbljhjhcmgaaDoorProg.lean LOADS. Nothing in Lean hashes anything: it is a label: what it is worth is what the hold of that sum in a sandbox is worth. -/
noncomputable def Tryd.pinned : Pinned := { name := "ytepkbljhjhcmgaadoor", sum := "bc4d6887ccf1b31807408afe7af53aa799d8cce4fb7eb307d4eab1a89e87cc56", checked := Tryd.checked }
namespace Rows
def none {H : Type} : Left H := { results := [], args := [] }

/- WHAT THE LISTED PACKAGE-LEVEL VARIABLES READ AS WHEN THE CALL BEGINS. Each datum BY PROGRAM (the guide's laid-datum.mjs) off the statement by which the dump's own 'gosem.cut.vars' lays the variable. In a bare row this is a premise. The card (YtepkbljhjhcmgaaDoorCards.lean) ties it to the program's text. -/
def laid_ecdysis_scalar_rows {H : Type} : DataW H := .agg [.agg [.lit (.string []), .lit (.int .i64 0), .lit (.int .i64 0), .lit (.int .u64 0)], .agg [.lit (.string [105, 110, 116, 51, 50]), .lit (.int .i64 0), .lit (.int .i64 7), .lit (.int .u64 0)], .agg [.lit (.string [105, 110, 116, 54, 52]), .lit (.int .i64 0), .lit (.int .i64 15), .lit (.int .u64 0)], .agg [.lit (.string [117, 105, 110, 116, 51, 50]), .lit (.int .i64 0), .lit (.int .i64 3), .lit (.int .u64 4294967295)], .agg [.lit (.string [117, 105, 110, 116, 54, 52]), .lit (.int .i64 0), .lit (.int .i64 11), .lit (.int .u64 0)], .agg [.lit (.string [115, 105, 110, 116, 51, 50]), .lit (.int .i64 0), .lit (.int .i64 7), .lit (.int .u64 0)], .agg [.lit (.string [115, 105, 110, 116, 54, 52]), .lit (.int .i64 0), .lit (.int .i64 15), .lit (.int .u64 0)], .agg [.lit (.string [98, 111, 111, 108]), .lit (.int .i64 0), .lit (.int .i64 1), .lit (.int .u64 1)], .agg [.lit (.string [102, 105, 120, 101, 100, 51, 50]), .lit (.int .i64 5), .lit (.int .i64 3), .lit (.int .u64 4294967295)], .agg [.lit (.string [102, 105, 120, 101, 100, 54, 52]), .lit (.int .i64 1), .lit (.int .i64 11), .lit (.int .u64 0)], .agg [.lit (.string [115, 102, 105, 120, 101, 100, 51, 50]), .lit (.int .i64 5), .lit (.int .i64 7), .lit (.int .u64 0)], .agg [.lit (.string [115, 102, 105, 120, 101, 100, 54, 52]), .lit (.int .i64 1), .lit (.int .i64 15), .lit (.int .u64 0)], .agg [.lit (.string [115, 116, 114, 105, 110, 103]), .lit (.int .i64 2), .lit (.int .i64 0), .lit (.int .u64 0)], .agg [.lit (.string [98, 121, 116, 101, 115]), .lit (.int .i64 2), .lit (.int .i64 0), .lit (.int .u64 0)], .agg [.lit (.string []), .lit (.int .i64 0), .lit (.int .i64 5), .lit (.int .u64 0)], .agg [.lit (.string []), .lit (.int .i64 2), .lit (.int .i64 0), .lit (.int .u64 0)]]

/-- 'ecdysislaw11.ScalarTypes': WHATEVER THE INPUT: true; the input reads as it did. -/
def scalarTypesSpec : ChangeSpec := { name := "scalarTypes", fn := fun _ => fun
  | [d1, d2] => { results := [.lit (.bool true)], args := [d1, d2] }
  | _ => none }
def scalarTypesRow : OpenClaim := { program := "ytepkbljhjhcmgaadoor", sum := "bc4d6887ccf1b31807408afe7af53aa799d8cce4fb7eb307d4eab1a89e87cc56", func := "ecdysis/ecdysislaw11.ScalarTypes", spec := "scalarTypes", named := ["ecdysis/scalar.rows"], apart := false, laid := [("ecdysis/scalar.rows", laid_ecdysis_scalar_rows)] }
def ScalarTypesSaid : Prop := scalarTypesRow.holds Tryd.pinned (OpenSpec.ofChange scalarTypesSpec)

/-- ITS FALSE NEIGHBOUR: 'it returns false'. Refute it at one input. -/
def scalarTypesWrong : ChangeSpec := { name := "scalarTypes", fn := fun _ => fun
  | [d1, d2] => { results := [.lit (.bool false)], args := [d1, d2] }
  | _ => none }
def ScalarTypesWrongFalsely : Prop := scalarTypesRow.holds Tryd.pinned (OpenSpec.ofChange scalarTypesWrong)

/-- 'ecdysislaw11.ScalarWords': WHATEVER THE INPUT: true; the input reads as it did. -/
def scalarWordsSpec : ChangeSpec := { name := "scalarWords", fn := fun _ => fun
  | [d] => { results := [.lit (.bool true)], args := [d] }
  | _ => none }
def scalarWordsRow : OpenClaim := { program := "ytepkbljhjhcmgaadoor", sum := "bc4d6887ccf1b31807408afe7af53aa799d8cce4fb7eb307d4eab1a89e87cc56", func := "ecdysis/ecdysislaw11.ScalarWords", spec := "scalarWords", named := ["ecdysis/scalar.rows"], apart := false, laid := [("ecdysis/scalar.rows", laid_ecdysis_scalar_rows)] }
def ScalarWordsSaid : Prop := scalarWordsRow.holds Tryd.pinned (OpenSpec.ofChange scalarWordsSpec)

/-- ITS FALSE NEIGHBOUR: 'it returns false'. Refute it at one input. -/
def scalarWordsWrong : ChangeSpec := { name := "scalarWords", fn := fun _ => fun
  | [d] => { results := [.lit (.bool false)], args := [d] }
  | _ => none }
def ScalarWordsWrongFalsely : Prop := scalarWordsRow.holds Tryd.pinned (OpenSpec.ofChange scalarWordsWrong)

/-- 'ecdysislaw11.ScalarAll': WHATEVER THE INPUT: true; the input reads as it did. -/
def scalarAllSpec : ChangeSpec := { name := "scalarAll", fn := fun _ => fun
  | [d] => { results := [.lit (.bool true)], args := [d] }
  | _ => none }
def scalarAllRow : OpenClaim := { program := "ytepkbljhjhcmgaadoor", sum := "bc4d6887ccf1b31807408afe7af53aa799d8cce4fb7eb307d4eab1a89e87cc56", func := "ecdysis/ecdysislaw11.ScalarAll", spec := "scalarAll", named := ["ecdysis/scalar.rows"], apart := false, laid := [("ecdysis/scalar.rows", laid_ecdysis_scalar_rows)] }
def ScalarAllSaid : Prop := scalarAllRow.holds Tryd.pinned (OpenSpec.ofChange scalarAllSpec)

/-- ITS FALSE NEIGHBOUR: 'it returns false'. Refute it at one input. -/
def scalarAllWrong : ChangeSpec := { name := "scalarAll", fn := fun _ => fun
  | [d] => { results := [.lit (.bool false)], args := [d] }
  | _ => none }
def ScalarAllWrongFalsely : Prop := scalarAllRow.holds Tryd.pinned (OpenSpec.ofChange scalarAllWrong)

/- THE SECOND FORM. 'bulk': how many values and letters a reading holds, each counted each time it is reached (what is shared counts as often as it is met; a slice's spare places count too). A statement '..UptoSaid' is the law's where the arguments, and the package variables that the reading takes, are together of bulk at most 1048576: NARROWER than '..Said'. Prove '..Said' where nothing that the law and all that it calls make is longer than what came in: it says more and counts as full. Else prove '..UptoSaid'. A law counts once. -/
mutual
def uptoBulk {H : Type} : DataW H → Nat
  | .lit (.string bytes) => bytes.length + 1
  | .lit _ => 1
  | .nil => 1
  | .ptr d => uptoBulk d + 1
  | .slice elems spare => uptoBulkAll elems + uptoBulkAll spare + 1
  | .agg parts => uptoBulkAll parts + 1
  | .iface _ d => uptoBulk d + 1
  | .map entries => uptoBulkEntries entries + 1
  | .held _ => 1
def uptoBulkAll {H : Type} : List (DataW H) → Nat
  | [] => 0
  | d :: r => uptoBulk d + uptoBulkAll r
def uptoBulkEntries {H : Type} : List (Lit × DataW H) → Nat
  | [] => 0
  | x :: r => uptoBulkEntry x + uptoBulkEntries r
def uptoBulkEntry {H : Type} : Lit × DataW H → Nat
  | (.string bytes, d) => bytes.length + uptoBulk d + 1
  | (_, d) => uptoBulk d + 1
 end
def uptoSmall : (H : Type) → List (DataW H) → Bool := fun _ ds => decide (uptoBulkAll ds ≤ 1048576)
def OpenSpec.upto (s : _root_.Go.ChangeSpec) : _root_.Go.OpenSpec := { _root_.Go.OpenSpec.ofChange s with cond := some uptoSmall }

/-- 'ecdysislaw11.ScalarTypes', WHERE WHAT IT READS IS OF BULK AT MOST 1048576: true; the input reads as it did. -/
def scalarTypesUptoRow : OpenClaim := { program := "ytepkbljhjhcmgaadoor", sum := "bc4d6887ccf1b31807408afe7af53aa799d8cce4fb7eb307d4eab1a89e87cc56", func := "ecdysis/ecdysislaw11.ScalarTypes", spec := "scalarTypes", named := ["ecdysis/scalar.rows"], apart := false, laid := [("ecdysis/scalar.rows", laid_ecdysis_scalar_rows)], narrowed := true }
def ScalarTypesUptoSaid : Prop := scalarTypesUptoRow.holds Tryd.pinned (OpenSpec.upto scalarTypesSpec)

/-- 'ecdysislaw11.ScalarWords', WHERE WHAT IT READS IS OF BULK AT MOST 1048576: true; the input reads as it did. -/
def scalarWordsUptoRow : OpenClaim := { program := "ytepkbljhjhcmgaadoor", sum := "bc4d6887ccf1b31807408afe7af53aa799d8cce4fb7eb307d4eab1a89e87cc56", func := "ecdysis/ecdysislaw11.ScalarWords", spec := "scalarWords", named := ["ecdysis/scalar.rows"], apart := false, laid := [("ecdysis/scalar.rows", laid_ecdysis_scalar_rows)], narrowed := true }
def ScalarWordsUptoSaid : Prop := scalarWordsUptoRow.holds Tryd.pinned (OpenSpec.upto scalarWordsSpec)

/-- 'ecdysislaw11.ScalarAll', WHERE WHAT IT READS IS OF BULK AT MOST 1048576: true; the input reads as it did. -/
def scalarAllUptoRow : OpenClaim := { program := "ytepkbljhjhcmgaadoor", sum := "bc4d6887ccf1b31807408afe7af53aa799d8cce4fb7eb307d4eab1a89e87cc56", func := "ecdysis/ecdysislaw11.ScalarAll", spec := "scalarAll", named := ["ecdysis/scalar.rows"], apart := false, laid := [("ecdysis/scalar.rows", laid_ecdysis_scalar_rows)], narrowed := true }
def ScalarAllUptoSaid : Prop := scalarAllUptoRow.holds Tryd.pinned (OpenSpec.upto scalarAllSpec)

end Rows
end Go.Proofs.YtepkbljhjhcmgaaDoor
