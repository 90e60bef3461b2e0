/-
  DERIVED. GIVEN WITH THE SEED: THE CARDS: each row of YtepkbljhjhcmgaaDoorRows.lean that lists a variable, with what it lists TIED to the program's text (the seventh form; the later family's looks); each row that meets fmt, with fmt's text TOLD by the authors' own Lean function (tested against real Go, not proved from fmt's source: count such statements apart). THE CARD IS WHAT COUNTS. Prove the row's statement (the work); the ties are given (YtepkbljhjhcmgaaDoorTie.lean); close each card by the builder's one call (the guide's Derived/Test/ToyasCard.lean, 'card_holds'). Laid BY PROGRAM, IN A SANDBOX (cutbox-door.mjs). By AI agents, Wed Nov 11 2026. No macro, syntax, notation, axiom, sorry.
-/
import Derived.Test.YtepkbljhjhcmgaaDoorRows
import GoSem.ClaimSeven
namespace Go.Proofs.YtepkbljhjhcmgaaDoor
namespace Rows

/-- THE TIED CARD OF 'ecdysislaw11.ScalarTypes'. -/
def scalarTypesCard : Claim7 := { stood := { row := scalarTypesRow, standIns := [], harness := (true, "0befc5ede7c143c63573a1afdee388b74baaa2a75fb4abc230a5b179b810706d"), looks := false }, kinds := [], alts := [], laidByText := true, laidKinds := [.data], laidTests := true, laidLooks := .later }
def ScalarTypesCardSaid : Prop := Claim7.holds Tryd.pinned (.plain (OpenSpec.ofChange scalarTypesSpec)) scalarTypesCard

/-- THE TIED CARD OF 'ecdysislaw11.ScalarWords'. -/
def scalarWordsCard : Claim7 := { stood := { row := scalarWordsRow, standIns := [], harness := (true, "0befc5ede7c143c63573a1afdee388b74baaa2a75fb4abc230a5b179b810706d"), looks := false }, kinds := [], alts := [], laidByText := true, laidKinds := [.data], laidTests := true, laidLooks := .later }
def ScalarWordsCardSaid : Prop := Claim7.holds Tryd.pinned (.plain (OpenSpec.ofChange scalarWordsSpec)) scalarWordsCard

/-- THE TIED CARD OF 'ecdysislaw11.ScalarAll'. -/
def scalarAllCard : Claim7 := { stood := { row := scalarAllRow, standIns := [], harness := (true, "0befc5ede7c143c63573a1afdee388b74baaa2a75fb4abc230a5b179b810706d"), looks := false }, kinds := [], alts := [], laidByText := true, laidKinds := [.data], laidTests := true, laidLooks := .later }
def ScalarAllCardSaid : Prop := Claim7.holds Tryd.pinned (.plain (OpenSpec.ofChange scalarAllSpec)) scalarAllCard

/-- THE SECOND FORM's CARD OF 'ecdysislaw11.ScalarTypes'. -/
def scalarTypesUptoCard : Claim7 := { stood := { row := scalarTypesUptoRow, standIns := [], harness := (true, "0befc5ede7c143c63573a1afdee388b74baaa2a75fb4abc230a5b179b810706d"), looks := false }, kinds := [], alts := [], laidByText := true, laidKinds := [.data], laidTests := true, laidLooks := .later }
def ScalarTypesUptoCardSaid : Prop := Claim7.holds Tryd.pinned (.plain (OpenSpec.upto scalarTypesSpec)) scalarTypesUptoCard

/-- THE SECOND FORM's CARD OF 'ecdysislaw11.ScalarWords'. -/
def scalarWordsUptoCard : Claim7 := { stood := { row := scalarWordsUptoRow, standIns := [], harness := (true, "0befc5ede7c143c63573a1afdee388b74baaa2a75fb4abc230a5b179b810706d"), looks := false }, kinds := [], alts := [], laidByText := true, laidKinds := [.data], laidTests := true, laidLooks := .later }
def ScalarWordsUptoCardSaid : Prop := Claim7.holds Tryd.pinned (.plain (OpenSpec.upto scalarWordsSpec)) scalarWordsUptoCard

/-- THE SECOND FORM's CARD OF 'ecdysislaw11.ScalarAll'. -/
def scalarAllUptoCard : Claim7 := { stood := { row := scalarAllUptoRow, standIns := [], harness := (true, "0befc5ede7c143c63573a1afdee388b74baaa2a75fb4abc230a5b179b810706d"), looks := false }, kinds := [], alts := [], laidByText := true, laidKinds := [.data], laidTests := true, laidLooks := .later }
def ScalarAllUptoCardSaid : Prop := Claim7.holds Tryd.pinned (.plain (OpenSpec.upto scalarAllSpec)) scalarAllUptoCard
end Rows
end Go.Proofs.YtepkbljhjhcmgaaDoor
