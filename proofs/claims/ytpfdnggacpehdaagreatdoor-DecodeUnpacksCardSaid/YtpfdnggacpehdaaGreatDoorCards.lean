/-
  DERIVED. GIVEN WITH THE SEED: THE CARDS: each row of YtpfdnggacpehdaaGreatDoorRows.lean that lists a variable, with what it lists TIED to the program's text (the seventh form; the later family's looks); each row that meets fmt, with fmt's text TOLD by the authors' own Lean function (tested against real Go, not proved from fmt's source: count such statements apart). THE CARD IS WHAT COUNTS. Prove the row's statement (the work); the ties are given (YtpfdnggacpehdaaGreatDoorTie.lean); close each card by the builder's one call (the guide's Derived/Test/ToyasCard.lean, 'card_holds'). Laid BY PROGRAM, IN A SANDBOX (cutbox-door.mjs). By AI agents, Wed Nov 11 2026. No macro, syntax, notation, axiom, sorry.
-/
import Derived.Test.YtpfdnggacpehdaaGreatDoorRows
import GoSem.ClaimSeven
namespace Go.Proofs.YtpfdnggacpehdaaGreatDoor
namespace Rows

/-- THE TIED CARD OF 'ecdysislaw22.DecodeGets'. -/
def decodeGetsCard : Claim7 := { stood := { row := decodeGetsRow, standIns := [], harness := (true, "ddb30f39ca877cabc35c41f446087f9ed9d9b3e00db992eccf1b4631808d11c7"), looks := false }, kinds := [], alts := [], laidByText := true, laidKinds := [.data, .data, .pinned], laidTests := true, laidLooks := .later }
def DecodeGetsCardSaid : Prop := Claim7.holds Tryz.pinned (.plain (OpenSpec.ofChange decodeGetsSpec)) decodeGetsCard

/-- THE TIED CARD OF 'ecdysislaw22.DecodeUnpacks'. -/
def decodeUnpacksCard : Claim7 := { stood := { row := decodeUnpacksRow, standIns := [], harness := (true, "ddb30f39ca877cabc35c41f446087f9ed9d9b3e00db992eccf1b4631808d11c7"), looks := false }, kinds := [], alts := [], laidByText := true, laidKinds := [.data, .data, .pinned], laidTests := true, laidLooks := .later }
def DecodeUnpacksCardSaid : Prop := Claim7.holds Tryz.pinned (.plain (OpenSpec.ofChange decodeUnpacksSpec)) decodeUnpacksCard

/-- THE TIED CARD OF 'ecdysislaw22.DecodeBack'. -/
def decodeBackCard : Claim7 := { stood := { row := decodeBackRow, standIns := [], harness := (true, "ddb30f39ca877cabc35c41f446087f9ed9d9b3e00db992eccf1b4631808d11c7"), looks := false }, kinds := [], alts := [], laidByText := true, laidKinds := [.data, .data, .pinned], laidTests := true, laidLooks := .later }
def DecodeBackCardSaid : Prop := Claim7.holds Tryz.pinned (.plain (OpenSpec.ofChange decodeBackSpec)) decodeBackCard

/-- THE TIED CARD OF 'ecdysislaw22.DecodeValues'. -/
def decodeValuesCard : Claim7 := { stood := { row := decodeValuesRow, standIns := [], harness := (true, "ddb30f39ca877cabc35c41f446087f9ed9d9b3e00db992eccf1b4631808d11c7"), looks := false }, kinds := [], alts := [], laidByText := true, laidKinds := [.data, .data, .pinned], laidTests := true, laidLooks := .later }
def DecodeValuesCardSaid : Prop := Claim7.holds Tryz.pinned (.plain (OpenSpec.ofChange decodeValuesSpec)) decodeValuesCard

/-- THE SECOND FORM's CARD OF 'ecdysislaw22.DecodeGets'. -/
def decodeGetsUptoCard : Claim7 := { stood := { row := decodeGetsUptoRow, standIns := [], harness := (true, "ddb30f39ca877cabc35c41f446087f9ed9d9b3e00db992eccf1b4631808d11c7"), looks := false }, kinds := [], alts := [], laidByText := true, laidKinds := [.data, .data, .pinned], laidTests := true, laidLooks := .later }
def DecodeGetsUptoCardSaid : Prop := Claim7.holds Tryz.pinned (.plain (OpenSpec.upto decodeGetsSpec)) decodeGetsUptoCard

/-- THE SECOND FORM's CARD OF 'ecdysislaw22.DecodeUnpacks'. -/
def decodeUnpacksUptoCard : Claim7 := { stood := { row := decodeUnpacksUptoRow, standIns := [], harness := (true, "ddb30f39ca877cabc35c41f446087f9ed9d9b3e00db992eccf1b4631808d11c7"), looks := false }, kinds := [], alts := [], laidByText := true, laidKinds := [.data, .data, .pinned], laidTests := true, laidLooks := .later }
def DecodeUnpacksUptoCardSaid : Prop := Claim7.holds Tryz.pinned (.plain (OpenSpec.upto decodeUnpacksSpec)) decodeUnpacksUptoCard

/-- THE SECOND FORM's CARD OF 'ecdysislaw22.DecodeBack'. -/
def decodeBackUptoCard : Claim7 := { stood := { row := decodeBackUptoRow, standIns := [], harness := (true, "ddb30f39ca877cabc35c41f446087f9ed9d9b3e00db992eccf1b4631808d11c7"), looks := false }, kinds := [], alts := [], laidByText := true, laidKinds := [.data, .data, .pinned], laidTests := true, laidLooks := .later }
def DecodeBackUptoCardSaid : Prop := Claim7.holds Tryz.pinned (.plain (OpenSpec.upto decodeBackSpec)) decodeBackUptoCard

/-- THE SECOND FORM's CARD OF 'ecdysislaw22.DecodeValues'. -/
def decodeValuesUptoCard : Claim7 := { stood := { row := decodeValuesUptoRow, standIns := [], harness := (true, "ddb30f39ca877cabc35c41f446087f9ed9d9b3e00db992eccf1b4631808d11c7"), looks := false }, kinds := [], alts := [], laidByText := true, laidKinds := [.data, .data, .pinned], laidTests := true, laidLooks := .later }
def DecodeValuesUptoCardSaid : Prop := Claim7.holds Tryz.pinned (.plain (OpenSpec.upto decodeValuesSpec)) decodeValuesUptoCard
end Rows
end Go.Proofs.YtpfdnggacpehdaaGreatDoor
