/-
  DERIVED. GIVEN WITH THE SEED: THE CARDS: each row of YtloheacncefkgaaGreatDoorRows.lean that lists a variable, with what it lists TIED to the program's text (the seventh form; the later family's looks); each row that meets fmt, with fmt's text TOLD by the authors' own Lean function (tested against real Go, not proved from fmt's source: count such statements apart). THE CARD IS WHAT COUNTS. Prove the row's statement (the work); the ties are given (YtloheacncefkgaaGreatDoorTie.lean); close each card by the builder's one call (the guide's Derived/Test/ToyasCard.lean, 'card_holds'). Laid BY PROGRAM, IN A SANDBOX (cutbox-door.mjs). By AI agents, Wed Nov 11 2026. No macro, syntax, notation, axiom, sorry.
-/
import Derived.Test.YtloheacncefkgaaGreatDoorRows
import GoSem.ClaimSeven
namespace Go.Proofs.YtloheacncefkgaaGreatDoor
namespace Rows

/-- THE TIED CARD OF 'ecdysislaw21.EncodePuts'. -/
def encodePutsCard : Claim7 := { stood := { row := encodePutsRow, standIns := [], harness := (true, "b3b376f3113b9fd7c543852b607a1e9f508e2aef1e2fc3fd572c54c7b41ab1bd"), looks := false }, kinds := [], alts := [], laidByText := true, laidKinds := [.data, .data, .pinned], laidTests := true, laidLooks := .later }
def EncodePutsCardSaid : Prop := Claim7.holds Tryz.pinned (.plain (OpenSpec.ofChange encodePutsSpec)) encodePutsCard

/-- THE TIED CARD OF 'ecdysislaw21.EncodePacks'. -/
def encodePacksCard : Claim7 := { stood := { row := encodePacksRow, standIns := [], harness := (true, "b3b376f3113b9fd7c543852b607a1e9f508e2aef1e2fc3fd572c54c7b41ab1bd"), looks := false }, kinds := [], alts := [], laidByText := true, laidKinds := [.data, .data, .pinned], laidTests := true, laidLooks := .later }
def EncodePacksCardSaid : Prop := Claim7.holds Tryz.pinned (.plain (OpenSpec.ofChange encodePacksSpec)) encodePacksCard

/-- THE TIED CARD OF 'ecdysislaw21.EncodeApart'. -/
def encodeApartCard : Claim7 := { stood := { row := encodeApartRow, standIns := [], harness := (true, "b3b376f3113b9fd7c543852b607a1e9f508e2aef1e2fc3fd572c54c7b41ab1bd"), looks := false }, kinds := [], alts := [], laidByText := true, laidKinds := [.data, .data, .pinned], laidTests := true, laidLooks := .later }
def EncodeApartCardSaid : Prop := Claim7.holds Tryz.pinned (.plain (OpenSpec.ofChange encodeApartSpec)) encodeApartCard

/-- THE TIED CARD OF 'ecdysislaw21.EncodeRest'. -/
def encodeRestCard : Claim7 := { stood := { row := encodeRestRow, standIns := [], harness := (true, "b3b376f3113b9fd7c543852b607a1e9f508e2aef1e2fc3fd572c54c7b41ab1bd"), looks := false }, kinds := [], alts := [], laidByText := true, laidKinds := [.data, .data, .pinned], laidTests := true, laidLooks := .later }
def EncodeRestCardSaid : Prop := Claim7.holds Tryz.pinned (.plain (OpenSpec.ofChange encodeRestSpec)) encodeRestCard

/-- THE SECOND FORM's CARD OF 'ecdysislaw21.EncodePuts'. -/
def encodePutsUptoCard : Claim7 := { stood := { row := encodePutsUptoRow, standIns := [], harness := (true, "b3b376f3113b9fd7c543852b607a1e9f508e2aef1e2fc3fd572c54c7b41ab1bd"), looks := false }, kinds := [], alts := [], laidByText := true, laidKinds := [.data, .data, .pinned], laidTests := true, laidLooks := .later }
def EncodePutsUptoCardSaid : Prop := Claim7.holds Tryz.pinned (.plain (OpenSpec.upto encodePutsSpec)) encodePutsUptoCard

/-- THE SECOND FORM's CARD OF 'ecdysislaw21.EncodePacks'. -/
def encodePacksUptoCard : Claim7 := { stood := { row := encodePacksUptoRow, standIns := [], harness := (true, "b3b376f3113b9fd7c543852b607a1e9f508e2aef1e2fc3fd572c54c7b41ab1bd"), looks := false }, kinds := [], alts := [], laidByText := true, laidKinds := [.data, .data, .pinned], laidTests := true, laidLooks := .later }
def EncodePacksUptoCardSaid : Prop := Claim7.holds Tryz.pinned (.plain (OpenSpec.upto encodePacksSpec)) encodePacksUptoCard

/-- THE SECOND FORM's CARD OF 'ecdysislaw21.EncodeApart'. -/
def encodeApartUptoCard : Claim7 := { stood := { row := encodeApartUptoRow, standIns := [], harness := (true, "b3b376f3113b9fd7c543852b607a1e9f508e2aef1e2fc3fd572c54c7b41ab1bd"), looks := false }, kinds := [], alts := [], laidByText := true, laidKinds := [.data, .data, .pinned], laidTests := true, laidLooks := .later }
def EncodeApartUptoCardSaid : Prop := Claim7.holds Tryz.pinned (.plain (OpenSpec.upto encodeApartSpec)) encodeApartUptoCard

/-- THE SECOND FORM's CARD OF 'ecdysislaw21.EncodeRest'. -/
def encodeRestUptoCard : Claim7 := { stood := { row := encodeRestUptoRow, standIns := [], harness := (true, "b3b376f3113b9fd7c543852b607a1e9f508e2aef1e2fc3fd572c54c7b41ab1bd"), looks := false }, kinds := [], alts := [], laidByText := true, laidKinds := [.data, .data, .pinned], laidTests := true, laidLooks := .later }
def EncodeRestUptoCardSaid : Prop := Claim7.holds Tryz.pinned (.plain (OpenSpec.upto encodeRestSpec)) encodeRestUptoCard
end Rows
end Go.Proofs.YtloheacncefkgaaGreatDoor
