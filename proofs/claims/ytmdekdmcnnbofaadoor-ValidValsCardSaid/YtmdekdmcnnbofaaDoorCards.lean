/-
  DERIVED. GIVEN WITH THE SEED: THE CARDS: each row of YtmdekdmcnnbofaaDoorRows.lean that lists a variable, with what it lists TIED to the program's text (the seventh form; the later family's looks); each row that meets fmt, with fmt's text TOLD by the authors' own Lean function (tested against real Go, not proved from fmt's source: count such statements apart). THE CARD IS WHAT COUNTS. Prove the row's statement (the work); the ties are given (YtmdekdmcnnbofaaDoorTie.lean); close each card by the builder's one call (the guide's Derived/Test/ToyasCard.lean, 'card_holds'). Laid BY PROGRAM, IN A SANDBOX (cutbox-door.mjs). By AI agents, Wed Nov 11 2026. No macro, syntax, notation, axiom, sorry.
-/
import Derived.Test.YtmdekdmcnnbofaaDoorRows
import GoSem.ClaimSeven
namespace Go.Proofs.YtmdekdmcnnbofaaDoor
namespace Rows

/-- THE TIED CARD OF 'ecdysislaw20.ValidTrees'. -/
def validTreesCard : Claim7 := { stood := { row := validTreesRow, standIns := [], harness := (true, "cd46babfe56d002b63f4be0eed71cfedc69b79fbb79385d1a0a571f6ea40dc6f"), looks := false }, kinds := [], alts := [], laidByText := true, laidKinds := [.data, .data, .pinned], laidTests := true, laidLooks := .later }
def ValidTreesCardSaid : Prop := Claim7.holds Tryd.pinned (.plain (OpenSpec.ofChange validTreesSpec)) validTreesCard

/-- THE TIED CARD OF 'ecdysislaw20.ValidVals'. -/
def validValsCard : Claim7 := { stood := { row := validValsRow, standIns := [], harness := (true, "cd46babfe56d002b63f4be0eed71cfedc69b79fbb79385d1a0a571f6ea40dc6f"), looks := false }, kinds := [], alts := [], laidByText := true, laidKinds := [.data, .data, .pinned], laidTests := true, laidLooks := .later }
def ValidValsCardSaid : Prop := Claim7.holds Tryd.pinned (.plain (OpenSpec.ofChange validValsSpec)) validValsCard

/-- THE TIED CARD OF 'ecdysislaw20.ValidLess'. -/
def validLessCard : Claim7 := { stood := { row := validLessRow, standIns := [], harness := (true, "cd46babfe56d002b63f4be0eed71cfedc69b79fbb79385d1a0a571f6ea40dc6f"), looks := false }, kinds := [], alts := [], laidByText := true, laidKinds := [.data, .data, .pinned], laidTests := true, laidLooks := .later }
def ValidLessCardSaid : Prop := Claim7.holds Tryd.pinned (.plain (OpenSpec.ofChange validLessSpec)) validLessCard

/-- THE SECOND FORM's CARD OF 'ecdysislaw20.ValidTrees'. -/
def validTreesUptoCard : Claim7 := { stood := { row := validTreesUptoRow, standIns := [], harness := (true, "cd46babfe56d002b63f4be0eed71cfedc69b79fbb79385d1a0a571f6ea40dc6f"), looks := false }, kinds := [], alts := [], laidByText := true, laidKinds := [.data, .data, .pinned], laidTests := true, laidLooks := .later }
def ValidTreesUptoCardSaid : Prop := Claim7.holds Tryd.pinned (.plain (OpenSpec.upto validTreesSpec)) validTreesUptoCard

/-- THE SECOND FORM's CARD OF 'ecdysislaw20.ValidVals'. -/
def validValsUptoCard : Claim7 := { stood := { row := validValsUptoRow, standIns := [], harness := (true, "cd46babfe56d002b63f4be0eed71cfedc69b79fbb79385d1a0a571f6ea40dc6f"), looks := false }, kinds := [], alts := [], laidByText := true, laidKinds := [.data, .data, .pinned], laidTests := true, laidLooks := .later }
def ValidValsUptoCardSaid : Prop := Claim7.holds Tryd.pinned (.plain (OpenSpec.upto validValsSpec)) validValsUptoCard

/-- THE SECOND FORM's CARD OF 'ecdysislaw20.ValidLess'. -/
def validLessUptoCard : Claim7 := { stood := { row := validLessUptoRow, standIns := [], harness := (true, "cd46babfe56d002b63f4be0eed71cfedc69b79fbb79385d1a0a571f6ea40dc6f"), looks := false }, kinds := [], alts := [], laidByText := true, laidKinds := [.data, .data, .pinned], laidTests := true, laidLooks := .later }
def ValidLessUptoCardSaid : Prop := Claim7.holds Tryd.pinned (.plain (OpenSpec.upto validLessSpec)) validLessUptoCard
end Rows
end Go.Proofs.YtmdekdmcnnbofaaDoor
