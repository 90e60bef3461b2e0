/-
  DERIVED. GIVEN WITH THE SEED: THE CARDS: each row of YtnbjpeefndcheaaDoorRows.lean that lists a variable, with what it lists TIED to the program's text (the seventh form; the later family's looks); each row that meets fmt, with fmt's text TOLD by the authors' own Lean function (tested against real Go, not proved from fmt's source: count such statements apart). THE CARD IS WHAT COUNTS. Prove the row's statement (the work); the ties are given (YtnbjpeefndcheaaDoorTie.lean); close each card by the builder's one call (the guide's Derived/Test/ToyasCard.lean, 'card_holds'). Laid BY PROGRAM, IN A SANDBOX (cutbox-door.mjs). By AI agents, Wed Nov 11 2026. No macro, syntax, notation, axiom, sorry.
-/
import Derived.Test.YtnbjpeefndcheaaDoorRows
import GoSem.ClaimSeven
namespace Go.Proofs.YtnbjpeefndcheaaDoor
namespace Rows

/-- THE TIED CARD OF 'ecdysislaw14.FieldChecks'. -/
def fieldChecksCard : Claim7 := { stood := { row := fieldChecksRow, standIns := [], harness := (true, "6a73f14bf0ca1ab1202a3fe2db6e2918074dec6893fe51179993ece30347de85"), looks := false }, kinds := [], alts := [], laidByText := true, laidKinds := [.data, .data, .data, .data], laidTests := true, laidLooks := .later }
def FieldChecksCardSaid : Prop := Claim7.holds Tryd.pinned (.plain (OpenSpec.ofChange fieldChecksSpec)) fieldChecksCard

/-- THE TIED CARD OF 'ecdysislaw14.FieldTexts'. -/
def fieldTextsCard : Claim7 := { stood := { row := fieldTextsRow, standIns := [], harness := (true, "6a73f14bf0ca1ab1202a3fe2db6e2918074dec6893fe51179993ece30347de85"), looks := false }, kinds := [], alts := [], laidByText := true, laidKinds := [.data, .data, .data, .data], laidTests := true, laidLooks := .later }
def FieldTextsCardSaid : Prop := Claim7.holds Tryd.pinned (.plain (OpenSpec.ofChange fieldTextsSpec)) fieldTextsCard

/-- THE TIED CARD OF 'ecdysislaw14.FieldOnes'. -/
def fieldOnesCard : Claim7 := { stood := { row := fieldOnesRow, standIns := [], harness := (true, "6a73f14bf0ca1ab1202a3fe2db6e2918074dec6893fe51179993ece30347de85"), looks := false }, kinds := [], alts := [], laidByText := true, laidKinds := [.data, .data, .data, .data], laidTests := true, laidLooks := .later }
def FieldOnesCardSaid : Prop := Claim7.holds Tryd.pinned (.plain (OpenSpec.ofChange fieldOnesSpec)) fieldOnesCard

/-- THE SECOND FORM's CARD OF 'ecdysislaw14.FieldChecks'. -/
def fieldChecksUptoCard : Claim7 := { stood := { row := fieldChecksUptoRow, standIns := [], harness := (true, "6a73f14bf0ca1ab1202a3fe2db6e2918074dec6893fe51179993ece30347de85"), looks := false }, kinds := [], alts := [], laidByText := true, laidKinds := [.data, .data, .data, .data], laidTests := true, laidLooks := .later }
def FieldChecksUptoCardSaid : Prop := Claim7.holds Tryd.pinned (.plain (OpenSpec.upto fieldChecksSpec)) fieldChecksUptoCard

/-- THE SECOND FORM's CARD OF 'ecdysislaw14.FieldTexts'. -/
def fieldTextsUptoCard : Claim7 := { stood := { row := fieldTextsUptoRow, standIns := [], harness := (true, "6a73f14bf0ca1ab1202a3fe2db6e2918074dec6893fe51179993ece30347de85"), looks := false }, kinds := [], alts := [], laidByText := true, laidKinds := [.data, .data, .data, .data], laidTests := true, laidLooks := .later }
def FieldTextsUptoCardSaid : Prop := Claim7.holds Tryd.pinned (.plain (OpenSpec.upto fieldTextsSpec)) fieldTextsUptoCard

/-- THE SECOND FORM's CARD OF 'ecdysislaw14.FieldOnes'. -/
def fieldOnesUptoCard : Claim7 := { stood := { row := fieldOnesUptoRow, standIns := [], harness := (true, "6a73f14bf0ca1ab1202a3fe2db6e2918074dec6893fe51179993ece30347de85"), looks := false }, kinds := [], alts := [], laidByText := true, laidKinds := [.data, .data, .data, .data], laidTests := true, laidLooks := .later }
def FieldOnesUptoCardSaid : Prop := Claim7.holds Tryd.pinned (.plain (OpenSpec.upto fieldOnesSpec)) fieldOnesUptoCard
end Rows
end Go.Proofs.YtnbjpeefndcheaaDoor
