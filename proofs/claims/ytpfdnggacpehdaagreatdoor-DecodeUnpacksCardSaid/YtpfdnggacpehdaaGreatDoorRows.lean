/-
  NARROWER THAN 'FOR EVERY INPUT', by the rows' own cells (each row's printed sentence says how): DecodeGets: laid · DecodeUnpacks: laid · DecodeBack: loops, laid · DecodeValues: laid.
  DERIVED. THE GIVEN ROWS OF THIS SEAT. 4 by the template 'for every input the law returns true; each argument reads behind the call as it read before'; 0 by the template 'total and deterministic' (their statements: YtpfdnggacpehdaaGreatDoorTotals.lean).
  GIVEN WITH THE SEED: the statements are not yours to turn. If you find one false, say at which input.
  Laid BY PROGRAM, IN A SANDBOX (cutbox-rows.mjs): the forced cells as the released guide's own fill.sh prints them over the translation 1cd3339e85936c2d… (all of the seat's roots in one cut). By AI agents, Wed Nov 11 2026. No macro, syntax, notation, axiom, sorry.
-/
import Derived.Test.YtpfdnggacpehdaaGreatDoorChecked
import GoSem.PinnedTables
import GoSem.Claim
import GoSem.ClaimJoined
import GoSem.ClaimMapViews
import Derived.JoinedTies
import Derived.KernelRfl
namespace Go.Proofs.YtpfdnggacpehdaaGreatDoor
/- THE CELL 'sum', in the pinned program and in every row, IS THE sha256 OF THE DUMP (.gsa) THAT YtpfdnggacpehdaaGreatDoorProg.lean LOADS. Nothing in Lean hashes anything: it is a label: what it is worth is what the hold of that sum in a sandbox is worth. -/
noncomputable def Tryz.pinned : Pinned := { name := "ytpfdnggacpehdaagreatdoor", sum := "1cd3339e85936c2db51af08040249f5acd383cd48ca81d93876ca6f1bc8293fe", checked := Tryz.checked }
namespace Rows
def none {H : Type} : Left H := { results := [], args := [] }

/- WHAT THE LISTED PACKAGE-LEVEL VARIABLES READ AS WHEN THE CALL BEGINS. Each datum BY PROGRAM (the guide's laid-datum.mjs) off the statement by which the dump's own 'gosem.cut.vars' lays the variable. In a bare row this is a premise. The card (YtpfdnggacpehdaaGreatDoorCards.lean) ties it to the program's text. -/
def laid_ecdysis_scalar_rows {H : Type} : DataW H := .agg [.agg [.lit (.string []), .lit (.int .i64 0), .lit (.int .i64 0), .lit (.int .u64 0)], .agg [.lit (.string [105, 110, 116, 51, 50]), .lit (.int .i64 0), .lit (.int .i64 7), .lit (.int .u64 0)], .agg [.lit (.string [105, 110, 116, 54, 52]), .lit (.int .i64 0), .lit (.int .i64 15), .lit (.int .u64 0)], .agg [.lit (.string [117, 105, 110, 116, 51, 50]), .lit (.int .i64 0), .lit (.int .i64 3), .lit (.int .u64 4294967295)], .agg [.lit (.string [117, 105, 110, 116, 54, 52]), .lit (.int .i64 0), .lit (.int .i64 11), .lit (.int .u64 0)], .agg [.lit (.string [115, 105, 110, 116, 51, 50]), .lit (.int .i64 0), .lit (.int .i64 7), .lit (.int .u64 0)], .agg [.lit (.string [115, 105, 110, 116, 54, 52]), .lit (.int .i64 0), .lit (.int .i64 15), .lit (.int .u64 0)], .agg [.lit (.string [98, 111, 111, 108]), .lit (.int .i64 0), .lit (.int .i64 1), .lit (.int .u64 1)], .agg [.lit (.string [102, 105, 120, 101, 100, 51, 50]), .lit (.int .i64 5), .lit (.int .i64 3), .lit (.int .u64 4294967295)], .agg [.lit (.string [102, 105, 120, 101, 100, 54, 52]), .lit (.int .i64 1), .lit (.int .i64 11), .lit (.int .u64 0)], .agg [.lit (.string [115, 102, 105, 120, 101, 100, 51, 50]), .lit (.int .i64 5), .lit (.int .i64 7), .lit (.int .u64 0)], .agg [.lit (.string [115, 102, 105, 120, 101, 100, 54, 52]), .lit (.int .i64 1), .lit (.int .i64 15), .lit (.int .u64 0)], .agg [.lit (.string [115, 116, 114, 105, 110, 103]), .lit (.int .i64 2), .lit (.int .i64 0), .lit (.int .u64 0)], .agg [.lit (.string [98, 121, 116, 101, 115]), .lit (.int .i64 2), .lit (.int .i64 0), .lit (.int .u64 0)], .agg [.lit (.string []), .lit (.int .i64 0), .lit (.int .i64 5), .lit (.int .u64 0)], .agg [.lit (.string []), .lit (.int .i64 2), .lit (.int .i64 0), .lit (.int .u64 0)]]
def laid_unicode_utf8_acceptRanges {H : Type} : DataW H := .agg [.agg [.lit (.int .u8 128), .lit (.int .u8 191)], .agg [.lit (.int .u8 160), .lit (.int .u8 191)], .agg [.lit (.int .u8 128), .lit (.int .u8 159)], .agg [.lit (.int .u8 144), .lit (.int .u8 191)], .agg [.lit (.int .u8 128), .lit (.int .u8 143)], .agg [.lit (.int .u8 0), .lit (.int .u8 0)], .agg [.lit (.int .u8 0), .lit (.int .u8 0)], .agg [.lit (.int .u8 0), .lit (.int .u8 0)], .agg [.lit (.int .u8 0), .lit (.int .u8 0)], .agg [.lit (.int .u8 0), .lit (.int .u8 0)], .agg [.lit (.int .u8 0), .lit (.int .u8 0)], .agg [.lit (.int .u8 0), .lit (.int .u8 0)], .agg [.lit (.int .u8 0), .lit (.int .u8 0)], .agg [.lit (.int .u8 0), .lit (.int .u8 0)], .agg [.lit (.int .u8 0), .lit (.int .u8 0)], .agg [.lit (.int .u8 0), .lit (.int .u8 0)]]
/-- One of Go's own tables, pinned by name: the form's constant. -/
def laid_unicode_utf8_first : DataW Unit := Go.Pinned.utf8First

/-- 'ecdysislaw22.DecodeGets': WHATEVER THE INPUT: true; the input reads as it did. -/
def decodeGetsSpec : ChangeSpec := { name := "decodeGets", fn := fun _ => fun
  | [d1, d2, d3] => { results := [.lit (.bool true)], args := [d1, d2, d3] }
  | _ => none }
def decodeGetsRow : OpenClaim := { program := "ytpfdnggacpehdaagreatdoor", sum := "1cd3339e85936c2db51af08040249f5acd383cd48ca81d93876ca6f1bc8293fe", func := "ecdysis/ecdysislaw22.DecodeGets", spec := "decodeGets", inPlace := ["slices.overlaps[ecdysis/api.Slot]"], unfollowed := true, recurses := true, named := ["ecdysis/scalar.rows", "unicode/utf8.first", "unicode/utf8.acceptRanges"], apart := false, laid := [("ecdysis/scalar.rows", laid_ecdysis_scalar_rows), ("unicode/utf8.acceptRanges", laid_unicode_utf8_acceptRanges), ("unicode/utf8.first", laid_unicode_utf8_first)] }
def DecodeGetsSaid : Prop := decodeGetsRow.holds Tryz.pinned (OpenSpec.ofChange decodeGetsSpec)

/-- ITS FALSE NEIGHBOUR: 'it returns false'. Refute it at one input. -/
def decodeGetsWrong : ChangeSpec := { name := "decodeGets", fn := fun _ => fun
  | [d1, d2, d3] => { results := [.lit (.bool false)], args := [d1, d2, d3] }
  | _ => none }
def DecodeGetsWrongFalsely : Prop := decodeGetsRow.holds Tryz.pinned (OpenSpec.ofChange decodeGetsWrong)

/-- 'ecdysislaw22.DecodeUnpacks': WHATEVER THE INPUT: true; the input reads as it did. -/
def decodeUnpacksSpec : ChangeSpec := { name := "decodeUnpacks", fn := fun _ => fun
  | [d1, d2] => { results := [.lit (.bool true)], args := [d1, d2] }
  | _ => none }
def decodeUnpacksRow : OpenClaim := { program := "ytpfdnggacpehdaagreatdoor", sum := "1cd3339e85936c2db51af08040249f5acd383cd48ca81d93876ca6f1bc8293fe", func := "ecdysis/ecdysislaw22.DecodeUnpacks", spec := "decodeUnpacks", inPlace := ["slices.overlaps[ecdysis/api.Slot]"], unfollowed := true, recurses := true, named := ["ecdysis/scalar.rows", "unicode/utf8.first", "unicode/utf8.acceptRanges"], apart := false, laid := [("ecdysis/scalar.rows", laid_ecdysis_scalar_rows), ("unicode/utf8.acceptRanges", laid_unicode_utf8_acceptRanges), ("unicode/utf8.first", laid_unicode_utf8_first)] }
def DecodeUnpacksSaid : Prop := decodeUnpacksRow.holds Tryz.pinned (OpenSpec.ofChange decodeUnpacksSpec)

/-- ITS FALSE NEIGHBOUR: 'it returns false'. Refute it at one input. -/
def decodeUnpacksWrong : ChangeSpec := { name := "decodeUnpacks", fn := fun _ => fun
  | [d1, d2] => { results := [.lit (.bool false)], args := [d1, d2] }
  | _ => none }
def DecodeUnpacksWrongFalsely : Prop := decodeUnpacksRow.holds Tryz.pinned (OpenSpec.ofChange decodeUnpacksWrong)

/-- 'ecdysislaw22.DecodeBack': WHATEVER THE INPUT: true; the input reads as it did. -/
def decodeBackSpec : ChangeSpec := { name := "decodeBack", fn := fun _ => fun
  | [d1, d2, d3] => { results := [.lit (.bool true)], args := [d1, d2, d3] }
  | _ => none }
def decodeBackRow : OpenClaim := { program := "ytpfdnggacpehdaagreatdoor", sum := "1cd3339e85936c2db51af08040249f5acd383cd48ca81d93876ca6f1bc8293fe", func := "ecdysis/ecdysislaw22.DecodeBack", spec := "decodeBack", inPlace := ["slices.overlaps[ecdysis/api.Slot]"], unfollowed := true, recurses := true, named := ["ecdysis/scalar.rows", "unicode/utf8.first", "unicode/utf8.acceptRanges"], loops := true, apart := false, laid := [("ecdysis/scalar.rows", laid_ecdysis_scalar_rows), ("unicode/utf8.acceptRanges", laid_unicode_utf8_acceptRanges), ("unicode/utf8.first", laid_unicode_utf8_first)] }
def DecodeBackSaid : Prop := decodeBackRow.holds Tryz.pinned (OpenSpec.ofChange decodeBackSpec)

/-- ITS FALSE NEIGHBOUR: 'it returns false'. Refute it at one input. -/
def decodeBackWrong : ChangeSpec := { name := "decodeBack", fn := fun _ => fun
  | [d1, d2, d3] => { results := [.lit (.bool false)], args := [d1, d2, d3] }
  | _ => none }
def DecodeBackWrongFalsely : Prop := decodeBackRow.holds Tryz.pinned (OpenSpec.ofChange decodeBackWrong)

/-- 'ecdysislaw22.DecodeValues': WHATEVER THE INPUT: true; the input reads as it did. -/
def decodeValuesSpec : ChangeSpec := { name := "decodeValues", fn := fun _ => fun
  | [d1, d2, d3] => { results := [.lit (.bool true)], args := [d1, d2, d3] }
  | _ => none }
def decodeValuesRow : OpenClaim := { program := "ytpfdnggacpehdaagreatdoor", sum := "1cd3339e85936c2db51af08040249f5acd383cd48ca81d93876ca6f1bc8293fe", func := "ecdysis/ecdysislaw22.DecodeValues", spec := "decodeValues", inPlace := ["slices.overlaps[ecdysis/api.Slot]"], unfollowed := true, recurses := true, named := ["ecdysis/scalar.rows", "unicode/utf8.first", "unicode/utf8.acceptRanges"], apart := false, laid := [("ecdysis/scalar.rows", laid_ecdysis_scalar_rows), ("unicode/utf8.acceptRanges", laid_unicode_utf8_acceptRanges), ("unicode/utf8.first", laid_unicode_utf8_first)] }
def DecodeValuesSaid : Prop := decodeValuesRow.holds Tryz.pinned (OpenSpec.ofChange decodeValuesSpec)

/-- ITS FALSE NEIGHBOUR: 'it returns false'. Refute it at one input. -/
def decodeValuesWrong : ChangeSpec := { name := "decodeValues", fn := fun _ => fun
  | [d1, d2, d3] => { results := [.lit (.bool false)], args := [d1, d2, d3] }
  | _ => none }
def DecodeValuesWrongFalsely : Prop := decodeValuesRow.holds Tryz.pinned (OpenSpec.ofChange decodeValuesWrong)

/- THE SECOND FORM. 'bulk': how many values and letters a reading holds, each counted each time it is reached (what is shared counts as often as it is met; a slice's spare places count too). A statement '..UptoSaid' is the law's where the arguments, and the package variables that the reading takes, are together of bulk at most 1048576: NARROWER than '..Said'. Prove '..Said' where nothing that the law and all that it calls make is longer than what came in: it says more and counts as full. Else prove '..UptoSaid'. A law counts once. -/
mutual
def uptoBulk {H : Type} : DataW H → Nat
  | .lit (.string bytes) => bytes.length + 1
  | .lit _ => 1
  | .nil => 1
  | .ptr d => uptoBulk d + 1
  | .slice elems spare => uptoBulkAll elems + uptoBulkAll spare + 1
  | .agg parts => uptoBulkAll parts + 1
  | .iface _ d => uptoBulk d + 1
  | .map entries => uptoBulkEntries entries + 1
  | .held _ => 1
def uptoBulkAll {H : Type} : List (DataW H) → Nat
  | [] => 0
  | d :: r => uptoBulk d + uptoBulkAll r
def uptoBulkEntries {H : Type} : List (Lit × DataW H) → Nat
  | [] => 0
  | x :: r => uptoBulkEntry x + uptoBulkEntries r
def uptoBulkEntry {H : Type} : Lit × DataW H → Nat
  | (.string bytes, d) => bytes.length + uptoBulk d + 1
  | (_, d) => uptoBulk d + 1
 end
def uptoSmall : (H : Type) → List (DataW H) → Bool := fun _ ds => decide (uptoBulkAll ds ≤ 1048576)
def OpenSpec.upto (s : _root_.Go.ChangeSpec) : _root_.Go.OpenSpec := { _root_.Go.OpenSpec.ofChange s with cond := some uptoSmall }

/-- 'ecdysislaw22.DecodeGets', WHERE WHAT IT READS IS OF BULK AT MOST 1048576: true; the input reads as it did. -/
def decodeGetsUptoRow : OpenClaim := { program := "ytpfdnggacpehdaagreatdoor", sum := "1cd3339e85936c2db51af08040249f5acd383cd48ca81d93876ca6f1bc8293fe", func := "ecdysis/ecdysislaw22.DecodeGets", spec := "decodeGets", inPlace := ["slices.overlaps[ecdysis/api.Slot]"], unfollowed := true, recurses := true, named := ["ecdysis/scalar.rows", "unicode/utf8.first", "unicode/utf8.acceptRanges"], apart := false, laid := [("ecdysis/scalar.rows", laid_ecdysis_scalar_rows), ("unicode/utf8.acceptRanges", laid_unicode_utf8_acceptRanges), ("unicode/utf8.first", laid_unicode_utf8_first)], narrowed := true }
def DecodeGetsUptoSaid : Prop := decodeGetsUptoRow.holds Tryz.pinned (OpenSpec.upto decodeGetsSpec)

/-- 'ecdysislaw22.DecodeUnpacks', WHERE WHAT IT READS IS OF BULK AT MOST 1048576: true; the input reads as it did. -/
def decodeUnpacksUptoRow : OpenClaim := { program := "ytpfdnggacpehdaagreatdoor", sum := "1cd3339e85936c2db51af08040249f5acd383cd48ca81d93876ca6f1bc8293fe", func := "ecdysis/ecdysislaw22.DecodeUnpacks", spec := "decodeUnpacks", inPlace := ["slices.overlaps[ecdysis/api.Slot]"], unfollowed := true, recurses := true, named := ["ecdysis/scalar.rows", "unicode/utf8.first", "unicode/utf8.acceptRanges"], apart := false, laid := [("ecdysis/scalar.rows", laid_ecdysis_scalar_rows), ("unicode/utf8.acceptRanges", laid_unicode_utf8_acceptRanges), ("unicode/utf8.first", laid_unicode_utf8_first)], narrowed := true }
def DecodeUnpacksUptoSaid : Prop := decodeUnpacksUptoRow.holds Tryz.pinned (OpenSpec.upto decodeUnpacksSpec)

/-- 'ecdysislaw22.DecodeBack', WHERE WHAT IT READS IS OF BULK AT MOST 1048576: true; the input reads as it did. -/
def decodeBackUptoRow : OpenClaim := { program := "ytpfdnggacpehdaagreatdoor", sum := "1cd3339e85936c2db51af08040249f5acd383cd48ca81d93876ca6f1bc8293fe", func := "ecdysis/ecdysislaw22.DecodeBack", spec := "decodeBack", inPlace := ["slices.overlaps[ecdysis/api.Slot]"], unfollowed := true, recurses := true, named := ["ecdysis/scalar.rows", "unicode/utf8.first", "unicode/utf8.acceptRanges"], loops := true, apart := false, laid := [("ecdysis/scalar.rows", laid_ecdysis_scalar_rows), ("unicode/utf8.acceptRanges", laid_unicode_utf8_acceptRanges), ("unicode/utf8.first", laid_unicode_utf8_first)], narrowed := true }
def DecodeBackUptoSaid : Prop := decodeBackUptoRow.holds Tryz.pinned (OpenSpec.upto decodeBackSpec)

/-- 'ecdysislaw22.DecodeValues', WHERE WHAT IT READS IS OF BULK AT MOST 1048576: true; the input reads as it did. -/
def decodeValuesUptoRow : OpenClaim := { program := "ytpfdnggacpehdaagreatdoor", sum := "1cd3339e85936c2db51af08040249f5acd383cd48ca81d93876ca6f1bc8293fe", func := "ecdysis/ecdysislaw22.DecodeValues", spec := "decodeValues", inPlace := ["slices.overlaps[ecdysis/api.Slot]"], unfollowed := true, recurses := true, named := ["ecdysis/scalar.rows", "unicode/utf8.first", "unicode/utf8.acceptRanges"], apart := false, laid := [("ecdysis/scalar.rows", laid_ecdysis_scalar_rows), ("unicode/utf8.acceptRanges", laid_unicode_utf8_acceptRanges), ("unicode/utf8.first", laid_unicode_utf8_first)], narrowed := true }
def DecodeValuesUptoSaid : Prop := decodeValuesUptoRow.holds Tryz.pinned (OpenSpec.upto decodeValuesSpec)

end Rows
end Go.Proofs.YtpfdnggacpehdaaGreatDoor
