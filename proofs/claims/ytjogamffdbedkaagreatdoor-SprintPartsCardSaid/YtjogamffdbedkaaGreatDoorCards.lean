/-
  DERIVED. GIVEN WITH THE SEED: THE CARDS: each row of YtjogamffdbedkaaGreatDoorRows.lean that lists a variable, with what it lists TIED to the program's text (the seventh form; the later family's looks); each row that meets fmt, with fmt's text TOLD by the authors' own Lean function (tested against real Go, not proved from fmt's source: count such statements apart). THE CARD IS WHAT COUNTS. Prove the row's statement (the work); the ties are given (YtjogamffdbedkaaGreatDoorTie.lean); close each card by the builder's one call (the guide's Derived/Test/ToyasCard.lean, 'card_holds'). Laid BY PROGRAM, IN A SANDBOX (cutbox-door.mjs). By AI agents, Wed Nov 11 2026. No macro, syntax, notation, axiom, sorry.
-/
import Derived.Test.YtjogamffdbedkaaGreatDoorRows
import GoSem.ClaimSeven
namespace Go.Proofs.YtjogamffdbedkaaGreatDoor
namespace Rows

/-- THE TIED CARD OF 'ecdysislaw17.SprintTexts'. -/
def sprintTextsCard : Claim7 := { stood := { row := sprintTextsRow, standIns := [], harness := (true, "a8c0059217b5f52741c73129ce351a246f22dad73c4b4a47eb0ce2ab1b17ac6e"), looks := false }, kinds := [], alts := [], laidByText := true, laidKinds := [.data, .data, .data, .data], laidTests := true, laidLooks := .later }
def SprintTextsCardSaid : Prop := Claim7.holds Tryz.pinned (.plain (OpenSpec.ofChange sprintTextsSpec)) sprintTextsCard

/-- THE TIED CARD OF 'ecdysislaw17.SprintOne'. -/
def sprintOneCard : Claim7 := { stood := { row := sprintOneRow, standIns := [], harness := (true, "a8c0059217b5f52741c73129ce351a246f22dad73c4b4a47eb0ce2ab1b17ac6e"), looks := false }, kinds := [], alts := [], laidByText := true, laidKinds := [.data, .data, .data, .data], laidTests := true, laidLooks := .later }
def SprintOneCardSaid : Prop := Claim7.holds Tryz.pinned (.plain (OpenSpec.ofChange sprintOneSpec)) sprintOneCard

/-- THE TIED CARD OF 'ecdysislaw17.SprintParts'. -/
def sprintPartsCard : Claim7 := { stood := { row := sprintPartsRow, standIns := [], harness := (true, "a8c0059217b5f52741c73129ce351a246f22dad73c4b4a47eb0ce2ab1b17ac6e"), looks := false }, kinds := [], alts := [], laidByText := true, laidKinds := [.data, .data, .data, .data], laidTests := true, laidLooks := .later }
def SprintPartsCardSaid : Prop := Claim7.holds Tryz.pinned (.plain (OpenSpec.ofChange sprintPartsSpec)) sprintPartsCard

/-- THE SECOND FORM's CARD OF 'ecdysislaw17.SprintTexts'. -/
def sprintTextsUptoCard : Claim7 := { stood := { row := sprintTextsUptoRow, standIns := [], harness := (true, "a8c0059217b5f52741c73129ce351a246f22dad73c4b4a47eb0ce2ab1b17ac6e"), looks := false }, kinds := [], alts := [], laidByText := true, laidKinds := [.data, .data, .data, .data], laidTests := true, laidLooks := .later }
def SprintTextsUptoCardSaid : Prop := Claim7.holds Tryz.pinned (.plain (OpenSpec.upto sprintTextsSpec)) sprintTextsUptoCard

/-- THE SECOND FORM's CARD OF 'ecdysislaw17.SprintOne'. -/
def sprintOneUptoCard : Claim7 := { stood := { row := sprintOneUptoRow, standIns := [], harness := (true, "a8c0059217b5f52741c73129ce351a246f22dad73c4b4a47eb0ce2ab1b17ac6e"), looks := false }, kinds := [], alts := [], laidByText := true, laidKinds := [.data, .data, .data, .data], laidTests := true, laidLooks := .later }
def SprintOneUptoCardSaid : Prop := Claim7.holds Tryz.pinned (.plain (OpenSpec.upto sprintOneSpec)) sprintOneUptoCard

/-- THE SECOND FORM's CARD OF 'ecdysislaw17.SprintParts'. -/
def sprintPartsUptoCard : Claim7 := { stood := { row := sprintPartsUptoRow, standIns := [], harness := (true, "a8c0059217b5f52741c73129ce351a246f22dad73c4b4a47eb0ce2ab1b17ac6e"), looks := false }, kinds := [], alts := [], laidByText := true, laidKinds := [.data, .data, .data, .data], laidTests := true, laidLooks := .later }
def SprintPartsUptoCardSaid : Prop := Claim7.holds Tryz.pinned (.plain (OpenSpec.upto sprintPartsSpec)) sprintPartsUptoCard
end Rows
end Go.Proofs.YtjogamffdbedkaaGreatDoor
