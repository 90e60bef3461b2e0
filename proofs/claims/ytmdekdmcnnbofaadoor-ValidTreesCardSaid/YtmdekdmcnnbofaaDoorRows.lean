/-
  NARROWER THAN 'FOR EVERY INPUT', by the rows' own cells (each row's printed sentence says how): ValidTrees: loops, laid · ValidVals: loops, laid · ValidLess: loops, laid.
  DERIVED. THE GIVEN ROWS OF THIS SEAT. 3 by the template 'for every input the law returns true; each argument reads behind the call as it read before'; 0 by the template 'total and deterministic' (their statements: YtmdekdmcnnbofaaDoorTotals.lean).
  GIVEN WITH THE SEED: the statements are not yours to turn. If you find one false, say at which input.
  Laid BY PROGRAM, IN A SANDBOX (cutbox-rows.mjs): the forced cells as the released guide's own fill.sh prints them over the translation 141b770989ddd3f0… (all of the seat's roots in one cut). By AI agents, Wed Nov 11 2026. No macro, syntax, notation, axiom, sorry.
-/
import Derived.Test.YtmdekdmcnnbofaaDoorChecked
import GoSem.PinnedTables
import GoSem.Claim
import GoSem.ClaimJoined
import GoSem.ClaimMapViews
import Derived.JoinedTies
import Derived.KernelRfl
namespace Go.Proofs.YtmdekdmcnnbofaaDoor
/- THE CELL 'sum', in the pinned program and in every row, IS THE sha256 OF THE DUMP (.gsa) THAT YtmdekdmcnnbofaaDoorProg.lean LOADS. Nothing in Lean hashes anything: it is a label: what it is worth is what the hold of that sum in a sandbox is worth. -/
noncomputable def Tryd.pinned : Pinned := { name := "ytmdekdmcnnbofaadoor", sum := "141b770989ddd3f072bd59ceea2b8fc5d746d20b3c19974a0164f1372c9097c0", checked := Tryd.checked }
namespace Rows
def none {H : Type} : Left H := { results := [], args := [] }

/- WHAT THE LISTED PACKAGE-LEVEL VARIABLES READ AS WHEN THE CALL BEGINS. Each datum BY PROGRAM (the guide's laid-datum.mjs) off the statement by which the dump's own 'gosem.cut.vars' lays the variable. In a bare row this is a premise. The card (YtmdekdmcnnbofaaDoorCards.lean) ties it to the program's text. -/
def laid_ecdysis_scalar_rows {H : Type} : DataW H := .agg [.agg [.lit (.string []), .lit (.int .i64 0), .lit (.int .i64 0), .lit (.int .u64 0)], .agg [.lit (.string [105, 110, 116, 51, 50]), .lit (.int .i64 0), .lit (.int .i64 7), .lit (.int .u64 0)], .agg [.lit (.string [105, 110, 116, 54, 52]), .lit (.int .i64 0), .lit (.int .i64 15), .lit (.int .u64 0)], .agg [.lit (.string [117, 105, 110, 116, 51, 50]), .lit (.int .i64 0), .lit (.int .i64 3), .lit (.int .u64 4294967295)], .agg [.lit (.string [117, 105, 110, 116, 54, 52]), .lit (.int .i64 0), .lit (.int .i64 11), .lit (.int .u64 0)], .agg [.lit (.string [115, 105, 110, 116, 51, 50]), .lit (.int .i64 0), .lit (.int .i64 7), .lit (.int .u64 0)], .agg [.lit (.string [115, 105, 110, 116, 54, 52]), .lit (.int .i64 0), .lit (.int .i64 15), .lit (.int .u64 0)], .agg [.lit (.string [98, 111, 111, 108]), .lit (.int .i64 0), .lit (.int .i64 1), .lit (.int .u64 1)], .agg [.lit (.string [102, 105, 120, 101, 100, 51, 50]), .lit (.int .i64 5), .lit (.int .i64 3), .lit (.int .u64 4294967295)], .agg [.lit (.string [102, 105, 120, 101, 100, 54, 52]), .lit (.int .i64 1), .lit (.int .i64 11), .lit (.int .u64 0)], .agg [.lit (.string [115, 102, 105, 120, 101, 100, 51, 50]), .lit (.int .i64 5), .lit (.int .i64 7), .lit (.int .u64 0)], .agg [.lit (.string [115, 102, 105, 120, 101, 100, 54, 52]), .lit (.int .i64 1), .lit (.int .i64 15), .lit (.int .u64 0)], .agg [.lit (.string [115, 116, 114, 105, 110, 103]), .lit (.int .i64 2), .lit (.int .i64 0), .lit (.int .u64 0)], .agg [.lit (.string [98, 121, 116, 101, 115]), .lit (.int .i64 2), .lit (.int .i64 0), .lit (.int .u64 0)], .agg [.lit (.string []), .lit (.int .i64 0), .lit (.int .i64 5), .lit (.int .u64 0)], .agg [.lit (.string []), .lit (.int .i64 2), .lit (.int .i64 0), .lit (.int .u64 0)]]
def laid_unicode_utf8_acceptRanges {H : Type} : DataW H := .agg [.agg [.lit (.int .u8 128), .lit (.int .u8 191)], .agg [.lit (.int .u8 160), .lit (.int .u8 191)], .agg [.lit (.int .u8 128), .lit (.int .u8 159)], .agg [.lit (.int .u8 144), .lit (.int .u8 191)], .agg [.lit (.int .u8 128), .lit (.int .u8 143)], .agg [.lit (.int .u8 0), .lit (.int .u8 0)], .agg [.lit (.int .u8 0), .lit (.int .u8 0)], .agg [.lit (.int .u8 0), .lit (.int .u8 0)], .agg [.lit (.int .u8 0), .lit (.int .u8 0)], .agg [.lit (.int .u8 0), .lit (.int .u8 0)], .agg [.lit (.int .u8 0), .lit (.int .u8 0)], .agg [.lit (.int .u8 0), .lit (.int .u8 0)], .agg [.lit (.int .u8 0), .lit (.int .u8 0)], .agg [.lit (.int .u8 0), .lit (.int .u8 0)], .agg [.lit (.int .u8 0), .lit (.int .u8 0)], .agg [.lit (.int .u8 0), .lit (.int .u8 0)]]
/-- One of Go's own tables, pinned by name: the form's constant. -/
def laid_unicode_utf8_first : DataW Unit := Go.Pinned.utf8First

/-- 'ecdysislaw20.ValidTrees': WHATEVER THE INPUT: true; the input reads as it did. -/
def validTreesSpec : ChangeSpec := { name := "validTrees", fn := fun _ => fun
  | [d1, d2, d3] => { results := [.lit (.bool true)], args := [d1, d2, d3] }
  | _ => none }
def validTreesRow : OpenClaim := { program := "ytmdekdmcnnbofaadoor", sum := "141b770989ddd3f072bd59ceea2b8fc5d746d20b3c19974a0164f1372c9097c0", func := "ecdysis/ecdysislaw20.ValidTrees", spec := "validTrees", unfollowed := true, recurses := true, named := ["ecdysis/scalar.rows", "unicode/utf8.first", "unicode/utf8.acceptRanges"], loops := true, apart := false, laid := [("ecdysis/scalar.rows", laid_ecdysis_scalar_rows), ("unicode/utf8.acceptRanges", laid_unicode_utf8_acceptRanges), ("unicode/utf8.first", laid_unicode_utf8_first)] }
def ValidTreesSaid : Prop := validTreesRow.holds Tryd.pinned (OpenSpec.ofChange validTreesSpec)

/-- ITS FALSE NEIGHBOUR: 'it returns false'. Refute it at one input. -/
def validTreesWrong : ChangeSpec := { name := "validTrees", fn := fun _ => fun
  | [d1, d2, d3] => { results := [.lit (.bool false)], args := [d1, d2, d3] }
  | _ => none }
def ValidTreesWrongFalsely : Prop := validTreesRow.holds Tryd.pinned (OpenSpec.ofChange validTreesWrong)

/-- 'ecdysislaw20.ValidVals': WHATEVER THE INPUT: true; the input reads as it did. -/
def validValsSpec : ChangeSpec := { name := "validVals", fn := fun _ => fun
  | [d1, d2, d3] => { results := [.lit (.bool true)], args := [d1, d2, d3] }
  | _ => none }
def validValsRow : OpenClaim := { program := "ytmdekdmcnnbofaadoor", sum := "141b770989ddd3f072bd59ceea2b8fc5d746d20b3c19974a0164f1372c9097c0", func := "ecdysis/ecdysislaw20.ValidVals", spec := "validVals", unfollowed := true, recurses := true, named := ["ecdysis/scalar.rows", "unicode/utf8.first", "unicode/utf8.acceptRanges"], loops := true, apart := false, laid := [("ecdysis/scalar.rows", laid_ecdysis_scalar_rows), ("unicode/utf8.acceptRanges", laid_unicode_utf8_acceptRanges), ("unicode/utf8.first", laid_unicode_utf8_first)] }
def ValidValsSaid : Prop := validValsRow.holds Tryd.pinned (OpenSpec.ofChange validValsSpec)

/-- ITS FALSE NEIGHBOUR: 'it returns false'. Refute it at one input. -/
def validValsWrong : ChangeSpec := { name := "validVals", fn := fun _ => fun
  | [d1, d2, d3] => { results := [.lit (.bool false)], args := [d1, d2, d3] }
  | _ => none }
def ValidValsWrongFalsely : Prop := validValsRow.holds Tryd.pinned (OpenSpec.ofChange validValsWrong)

/-- 'ecdysislaw20.ValidLess': WHATEVER THE INPUT: true; the input reads as it did. -/
def validLessSpec : ChangeSpec := { name := "validLess", fn := fun _ => fun
  | [d1, d2, d3] => { results := [.lit (.bool true)], args := [d1, d2, d3] }
  | _ => none }
def validLessRow : OpenClaim := { program := "ytmdekdmcnnbofaadoor", sum := "141b770989ddd3f072bd59ceea2b8fc5d746d20b3c19974a0164f1372c9097c0", func := "ecdysis/ecdysislaw20.ValidLess", spec := "validLess", unfollowed := true, recurses := true, named := ["ecdysis/scalar.rows", "unicode/utf8.first", "unicode/utf8.acceptRanges"], loops := true, apart := false, laid := [("ecdysis/scalar.rows", laid_ecdysis_scalar_rows), ("unicode/utf8.acceptRanges", laid_unicode_utf8_acceptRanges), ("unicode/utf8.first", laid_unicode_utf8_first)] }
def ValidLessSaid : Prop := validLessRow.holds Tryd.pinned (OpenSpec.ofChange validLessSpec)

/-- ITS FALSE NEIGHBOUR: 'it returns false'. Refute it at one input. -/
def validLessWrong : ChangeSpec := { name := "validLess", fn := fun _ => fun
  | [d1, d2, d3] => { results := [.lit (.bool false)], args := [d1, d2, d3] }
  | _ => none }
def ValidLessWrongFalsely : Prop := validLessRow.holds Tryd.pinned (OpenSpec.ofChange validLessWrong)

/- THE SECOND FORM. 'bulk': how many values and letters a reading holds, each counted each time it is reached (what is shared counts as often as it is met; a slice's spare places count too). A statement '..UptoSaid' is the law's where the arguments, and the package variables that the reading takes, are together of bulk at most 1048576: NARROWER than '..Said'. Prove '..Said' where nothing that the law and all that it calls make is longer than what came in: it says more and counts as full. Else prove '..UptoSaid'. A law counts once. -/
mutual
def uptoBulk {H : Type} : DataW H → Nat
  | .lit (.string bytes) => bytes.length + 1
  | .lit _ => 1
  | .nil => 1
  | .ptr d => uptoBulk d + 1
  | .slice elems spare => uptoBulkAll elems + uptoBulkAll spare + 1
  | .agg parts => uptoBulkAll parts + 1
  | .iface _ d => uptoBulk d + 1
  | .map entries => uptoBulkEntries entries + 1
  | .held _ => 1
def uptoBulkAll {H : Type} : List (DataW H) → Nat
  | [] => 0
  | d :: r => uptoBulk d + uptoBulkAll r
def uptoBulkEntries {H : Type} : List (Lit × DataW H) → Nat
  | [] => 0
  | x :: r => uptoBulkEntry x + uptoBulkEntries r
def uptoBulkEntry {H : Type} : Lit × DataW H → Nat
  | (.string bytes, d) => bytes.length + uptoBulk d + 1
  | (_, d) => uptoBulk d + 1
 end
def uptoSmall : (H : Type) → List (DataW H) → Bool := fun _ ds => decide (uptoBulkAll ds ≤ 1048576)
def OpenSpec.upto (s : _root_.Go.ChangeSpec) : _root_.Go.OpenSpec := { _root_.Go.OpenSpec.ofChange s with cond := some uptoSmall }

/-- 'ecdysislaw20.ValidTrees', WHERE WHAT IT READS IS OF BULK AT MOST 1048576: true; the input reads as it did. -/
def validTreesUptoRow : OpenClaim := { program := "ytmdekdmcnnbofaadoor", sum := "141b770989ddd3f072bd59ceea2b8fc5d746d20b3c19974a0164f1372c9097c0", func := "ecdysis/ecdysislaw20.ValidTrees", spec := "validTrees", unfollowed := true, recurses := true, named := ["ecdysis/scalar.rows", "unicode/utf8.first", "unicode/utf8.acceptRanges"], loops := true, apart := false, laid := [("ecdysis/scalar.rows", laid_ecdysis_scalar_rows), ("unicode/utf8.acceptRanges", laid_unicode_utf8_acceptRanges), ("unicode/utf8.first", laid_unicode_utf8_first)], narrowed := true }
def ValidTreesUptoSaid : Prop := validTreesUptoRow.holds Tryd.pinned (OpenSpec.upto validTreesSpec)

/-- 'ecdysislaw20.ValidVals', WHERE WHAT IT READS IS OF BULK AT MOST 1048576: true; the input reads as it did. -/
def validValsUptoRow : OpenClaim := { program := "ytmdekdmcnnbofaadoor", sum := "141b770989ddd3f072bd59ceea2b8fc5d746d20b3c19974a0164f1372c9097c0", func := "ecdysis/ecdysislaw20.ValidVals", spec := "validVals", unfollowed := true, recurses := true, named := ["ecdysis/scalar.rows", "unicode/utf8.first", "unicode/utf8.acceptRanges"], loops := true, apart := false, laid := [("ecdysis/scalar.rows", laid_ecdysis_scalar_rows), ("unicode/utf8.acceptRanges", laid_unicode_utf8_acceptRanges), ("unicode/utf8.first", laid_unicode_utf8_first)], narrowed := true }
def ValidValsUptoSaid : Prop := validValsUptoRow.holds Tryd.pinned (OpenSpec.upto validValsSpec)

/-- 'ecdysislaw20.ValidLess', WHERE WHAT IT READS IS OF BULK AT MOST 1048576: true; the input reads as it did. -/
def validLessUptoRow : OpenClaim := { program := "ytmdekdmcnnbofaadoor", sum := "141b770989ddd3f072bd59ceea2b8fc5d746d20b3c19974a0164f1372c9097c0", func := "ecdysis/ecdysislaw20.ValidLess", spec := "validLess", unfollowed := true, recurses := true, named := ["ecdysis/scalar.rows", "unicode/utf8.first", "unicode/utf8.acceptRanges"], loops := true, apart := false, laid := [("ecdysis/scalar.rows", laid_ecdysis_scalar_rows), ("unicode/utf8.acceptRanges", laid_unicode_utf8_acceptRanges), ("unicode/utf8.first", laid_unicode_utf8_first)], narrowed := true }
def ValidLessUptoSaid : Prop := validLessUptoRow.holds Tryd.pinned (OpenSpec.upto validLessSpec)

end Rows
end Go.Proofs.YtmdekdmcnnbofaaDoor
