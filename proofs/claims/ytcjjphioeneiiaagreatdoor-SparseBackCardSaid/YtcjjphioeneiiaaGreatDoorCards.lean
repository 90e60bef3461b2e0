/-
  DERIVED. GIVEN WITH THE SEED: THE CARDS: each row of YtcjjphioeneiiaaGreatDoorRows.lean that lists a variable, with what it lists TIED to the program's text (the seventh form; the later family's looks); each row that meets fmt, with fmt's text TOLD by the authors' own Lean function (tested against real Go, not proved from fmt's source: count such statements apart). THE CARD IS WHAT COUNTS. Prove the row's statement (the work); the ties are given (YtcjjphioeneiiaaGreatDoorTie.lean); close each card by the builder's one call (the guide's Derived/Test/ToyasCard.lean, 'card_holds'). Laid BY PROGRAM, IN A SANDBOX (cutbox-door.mjs). By AI agents, Wed Nov 11 2026. No macro, syntax, notation, axiom, sorry.
-/
import Derived.Test.YtcjjphioeneiiaaGreatDoorRows
import GoSem.ClaimSeven
namespace Go.Proofs.YtcjjphioeneiiaaGreatDoor
namespace Rows

/-- THE TIED CARD OF 'ecdysislaw18.SparseParses'. -/
def sparseParsesCard : Claim7 := { stood := { row := sparseParsesRow, standIns := [], harness := (true, "db11937e5a72ff5ad766b767a2a98e0ecac051a94f7786daf3de5281f67932fa"), looks := true }, kinds := [], alts := [], laidByText := true, laidKinds := [.data, .data, .data, .data, .sentinel, .sentinel], laidTests := true, laidLooks := .later }
def SparseParsesCardSaid : Prop := Claim7.holds Tryz.pinned (.plain (OpenSpec.ofChange sparseParsesSpec)) sparseParsesCard

/-- THE TIED CARD OF 'ecdysislaw18.SparseBack'. -/
def sparseBackCard : Claim7 := { stood := { row := sparseBackRow, standIns := [], harness := (true, "db11937e5a72ff5ad766b767a2a98e0ecac051a94f7786daf3de5281f67932fa"), looks := true }, kinds := [], alts := [], laidByText := true, laidKinds := [.data, .data, .data, .data, .sentinel, .sentinel], laidTests := true, laidLooks := .later }
def SparseBackCardSaid : Prop := Claim7.holds Tryz.pinned (.plain (OpenSpec.ofChange sparseBackSpec)) sparseBackCard

/-- THE TIED CARD OF 'ecdysislaw18.SparseSorts'. -/
def sparseSortsCard : Claim7 := { stood := { row := sparseSortsRow, standIns := [], harness := (true, "db11937e5a72ff5ad766b767a2a98e0ecac051a94f7786daf3de5281f67932fa"), looks := true }, kinds := [], alts := [], laidByText := true, laidKinds := [.data, .data, .data, .data, .sentinel, .sentinel], laidTests := true, laidLooks := .later }
def SparseSortsCardSaid : Prop := Claim7.holds Tryz.pinned (.plain (OpenSpec.ofChange sparseSortsSpec)) sparseSortsCard

/-- THE SECOND FORM's CARD OF 'ecdysislaw18.SparseParses'. -/
def sparseParsesUptoCard : Claim7 := { stood := { row := sparseParsesUptoRow, standIns := [], harness := (true, "db11937e5a72ff5ad766b767a2a98e0ecac051a94f7786daf3de5281f67932fa"), looks := true }, kinds := [], alts := [], laidByText := true, laidKinds := [.data, .data, .data, .data, .sentinel, .sentinel], laidTests := true, laidLooks := .later }
def SparseParsesUptoCardSaid : Prop := Claim7.holds Tryz.pinned (.plain (OpenSpec.upto sparseParsesSpec)) sparseParsesUptoCard

/-- THE SECOND FORM's CARD OF 'ecdysislaw18.SparseBack'. -/
def sparseBackUptoCard : Claim7 := { stood := { row := sparseBackUptoRow, standIns := [], harness := (true, "db11937e5a72ff5ad766b767a2a98e0ecac051a94f7786daf3de5281f67932fa"), looks := true }, kinds := [], alts := [], laidByText := true, laidKinds := [.data, .data, .data, .data, .sentinel, .sentinel], laidTests := true, laidLooks := .later }
def SparseBackUptoCardSaid : Prop := Claim7.holds Tryz.pinned (.plain (OpenSpec.upto sparseBackSpec)) sparseBackUptoCard

/-- THE SECOND FORM's CARD OF 'ecdysislaw18.SparseSorts'. -/
def sparseSortsUptoCard : Claim7 := { stood := { row := sparseSortsUptoRow, standIns := [], harness := (true, "db11937e5a72ff5ad766b767a2a98e0ecac051a94f7786daf3de5281f67932fa"), looks := true }, kinds := [], alts := [], laidByText := true, laidKinds := [.data, .data, .data, .data, .sentinel, .sentinel], laidTests := true, laidLooks := .later }
def SparseSortsUptoCardSaid : Prop := Claim7.holds Tryz.pinned (.plain (OpenSpec.upto sparseSortsSpec)) sparseSortsUptoCard
end Rows
end Go.Proofs.YtcjjphioeneiiaaGreatDoor
