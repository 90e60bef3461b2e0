/-
  DERIVED. GIVEN WITH THE SEED: THE CARDS: each row of YtifbkaknfcghiaaDoorRows.lean that lists a variable, with what it lists TIED to the program's text (the seventh form; the later family's looks); each row that meets fmt, with fmt's text TOLD by the authors' own Lean function (tested against real Go, not proved from fmt's source: count such statements apart). THE CARD IS WHAT COUNTS. Prove the row's statement (the work); the ties are given (YtifbkaknfcghiaaDoorTie.lean); close each card by the builder's one call (the guide's Derived/Test/ToyasCard.lean, 'card_holds'). Laid BY PROGRAM, IN A SANDBOX (cutbox-door.mjs). By AI agents, Wed Nov 11 2026. No macro, syntax, notation, axiom, sorry.
-/
import Derived.Test.YtifbkaknfcghiaaDoorRows
import GoSem.ClaimSeven
namespace Go.Proofs.YtifbkaknfcghiaaDoor
namespace Rows

/-- THE TIED CARD OF 'ecdysislaw12.NumFrom'. -/
def numFromCard : Claim7 := { stood := { row := numFromRow, standIns := [], harness := (true, "62584119b0e90d5dc725f5f92a262ddd95b8bd0b199348a0fea73596b91417de"), looks := false }, kinds := [], alts := [], laidByText := true, laidKinds := [.data], laidTests := true, laidLooks := .later }
def NumFromCardSaid : Prop := Claim7.holds Tryd.pinned (.plain (OpenSpec.ofChange numFromSpec)) numFromCard

/-- THE TIED CARD OF 'ecdysislaw12.NumBack'. -/
def numBackCard : Claim7 := { stood := { row := numBackRow, standIns := [], harness := (true, "62584119b0e90d5dc725f5f92a262ddd95b8bd0b199348a0fea73596b91417de"), looks := false }, kinds := [], alts := [], laidByText := true, laidKinds := [.data], laidTests := true, laidLooks := .later }
def NumBackCardSaid : Prop := Claim7.holds Tryd.pinned (.plain (OpenSpec.ofChange numBackSpec)) numBackCard

/-- THE TIED CARD OF 'ecdysislaw12.NumShort'. -/
def numShortCard : Claim7 := { stood := { row := numShortRow, standIns := [], harness := (true, "62584119b0e90d5dc725f5f92a262ddd95b8bd0b199348a0fea73596b91417de"), looks := false }, kinds := [], alts := [], laidByText := true, laidKinds := [.data], laidTests := true, laidLooks := .later }
def NumShortCardSaid : Prop := Claim7.holds Tryd.pinned (.plain (OpenSpec.ofChange numShortSpec)) numShortCard

/-- THE SECOND FORM's CARD OF 'ecdysislaw12.NumFrom'. -/
def numFromUptoCard : Claim7 := { stood := { row := numFromUptoRow, standIns := [], harness := (true, "62584119b0e90d5dc725f5f92a262ddd95b8bd0b199348a0fea73596b91417de"), looks := false }, kinds := [], alts := [], laidByText := true, laidKinds := [.data], laidTests := true, laidLooks := .later }
def NumFromUptoCardSaid : Prop := Claim7.holds Tryd.pinned (.plain (OpenSpec.upto numFromSpec)) numFromUptoCard

/-- THE SECOND FORM's CARD OF 'ecdysislaw12.NumBack'. -/
def numBackUptoCard : Claim7 := { stood := { row := numBackUptoRow, standIns := [], harness := (true, "62584119b0e90d5dc725f5f92a262ddd95b8bd0b199348a0fea73596b91417de"), looks := false }, kinds := [], alts := [], laidByText := true, laidKinds := [.data], laidTests := true, laidLooks := .later }
def NumBackUptoCardSaid : Prop := Claim7.holds Tryd.pinned (.plain (OpenSpec.upto numBackSpec)) numBackUptoCard

/-- THE SECOND FORM's CARD OF 'ecdysislaw12.NumShort'. -/
def numShortUptoCard : Claim7 := { stood := { row := numShortUptoRow, standIns := [], harness := (true, "62584119b0e90d5dc725f5f92a262ddd95b8bd0b199348a0fea73596b91417de"), looks := false }, kinds := [], alts := [], laidByText := true, laidKinds := [.data], laidTests := true, laidLooks := .later }
def NumShortUptoCardSaid : Prop := Claim7.holds Tryd.pinned (.plain (OpenSpec.upto numShortSpec)) numShortUptoCard
end Rows
end Go.Proofs.YtifbkaknfcghiaaDoor
