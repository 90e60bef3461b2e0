/-
  No cell of these rows narrows 'for every input' (looked for: loops, veiled, ifaces, maps, wideKeys, modest, calm, conditions, laid).
  DERIVED. THE GIVEN ROWS OF THIS SEAT. 3 by the template 'for every input the law returns true; each argument reads behind the call as it read before'; 0 by the template 'total and deterministic' (their statements: YtoagamdhfaebgaaTotals.lean).
  GIVEN WITH THE SEED: the statements are not yours to turn. If you find one false, say at which input.
  Laid BY PROGRAM, IN A SANDBOX (cutbox-rows.mjs): the forced cells as the released guide's own fill.sh prints them over the translation b2fc6cade28efba7… (all of the seat's roots in one cut). By AI agents, Wed Nov 11 2026. No macro, syntax, notation, axiom, sorry.
-/
import Derived.Test.YtoagamdhfaebgaaChecked
import GoSem.Claim
import GoSem.ClaimJoined
import GoSem.ClaimMapViews
import Derived.JoinedTies
import Derived.KernelRfl
namespace Go.Proofs.Ytoagamdhfaebgaa
/- THE CELL 'sum', in the pinned program and in every row, IS THE sha256 OF THE DUMP (.gsa) THAT YtoagamdhfaebgaaProg.lean LOADS. Nothing in Lean hashes anything: it is a label: what it is worth is what the hold of that sum in a sandbox is worth. -/
noncomputable def Try.pinned : Pinned := { name := "ytoagamdhfaebgaa", sum := "b2fc6cade28efba7b50fd73e1a3b9d3208f54d2aa99a211e2df4d009062beb75", checked := Try.checked }
namespace Rows
def none {H : Type} : Left H := { results := [], args := [] }

/-- 'ecdysislaw09.IdentRight': WHATEVER THE INPUT: true; the input reads as it did. -/
def identRightSpec : ChangeSpec := { name := "identRight", fn := fun _ => fun
  | [d] => { results := [.lit (.bool true)], args := [d] }
  | _ => none }
def identRightRow : OpenClaim := { program := "ytoagamdhfaebgaa", sum := "b2fc6cade28efba7b50fd73e1a3b9d3208f54d2aa99a211e2df4d009062beb75", func := "ecdysis/ecdysislaw09.IdentRight", spec := "identRight", apart := false }
def IdentRightSaid : Prop := identRightRow.holds Try.pinned (OpenSpec.ofChange identRightSpec)

/-- ITS FALSE NEIGHBOUR: 'it returns false'. Refute it at one input. -/
def identRightWrong : ChangeSpec := { name := "identRight", fn := fun _ => fun
  | [d] => { results := [.lit (.bool false)], args := [d] }
  | _ => none }
def IdentRightWrongFalsely : Prop := identRightRow.holds Try.pinned (OpenSpec.ofChange identRightWrong)

/-- 'ecdysislaw09.IdentLists': WHATEVER THE INPUT: true; the input reads as it did. -/
def identListsSpec : ChangeSpec := { name := "identLists", fn := fun _ => fun
  | [d] => { results := [.lit (.bool true)], args := [d] }
  | _ => none }
def identListsRow : OpenClaim := { program := "ytoagamdhfaebgaa", sum := "b2fc6cade28efba7b50fd73e1a3b9d3208f54d2aa99a211e2df4d009062beb75", func := "ecdysis/ecdysislaw09.IdentLists", spec := "identLists", recurses := true, apart := false }
def IdentListsSaid : Prop := identListsRow.holds Try.pinned (OpenSpec.ofChange identListsSpec)

/-- ITS FALSE NEIGHBOUR: 'it returns false'. Refute it at one input. -/
def identListsWrong : ChangeSpec := { name := "identLists", fn := fun _ => fun
  | [d] => { results := [.lit (.bool false)], args := [d] }
  | _ => none }
def IdentListsWrongFalsely : Prop := identListsRow.holds Try.pinned (OpenSpec.ofChange identListsWrong)

/-- 'ecdysislaw09.IdentOrder': WHATEVER THE INPUT: true; the input reads as it did. -/
def identOrderSpec : ChangeSpec := { name := "identOrder", fn := fun _ => fun
  | [d1, d2] => { results := [.lit (.bool true)], args := [d1, d2] }
  | _ => none }
def identOrderRow : OpenClaim := { program := "ytoagamdhfaebgaa", sum := "b2fc6cade28efba7b50fd73e1a3b9d3208f54d2aa99a211e2df4d009062beb75", func := "ecdysis/ecdysislaw09.IdentOrder", spec := "identOrder", recurses := true, apart := false }
def IdentOrderSaid : Prop := identOrderRow.holds Try.pinned (OpenSpec.ofChange identOrderSpec)

/-- ITS FALSE NEIGHBOUR: 'it returns false'. Refute it at one input. -/
def identOrderWrong : ChangeSpec := { name := "identOrder", fn := fun _ => fun
  | [d1, d2] => { results := [.lit (.bool false)], args := [d1, d2] }
  | _ => none }
def IdentOrderWrongFalsely : Prop := identOrderRow.holds Try.pinned (OpenSpec.ofChange identOrderWrong)

/- THE SECOND FORM. 'bulk': how many values and letters a reading holds, each counted each time it is reached (what is shared counts as often as it is met; a slice's spare places count too). A statement '..UptoSaid' is the law's where the arguments, and the package variables that the reading takes, are together of bulk at most 1048576: NARROWER than '..Said'. Prove '..Said' where nothing that the law and all that it calls make is longer than what came in: it says more and counts as full. Else prove '..UptoSaid'. A law counts once. -/
mutual
def uptoBulk {H : Type} : DataW H → Nat
  | .lit (.string bytes) => bytes.length + 1
  | .lit _ => 1
  | .nil => 1
  | .ptr d => uptoBulk d + 1
  | .slice elems spare => uptoBulkAll elems + uptoBulkAll spare + 1
  | .agg parts => uptoBulkAll parts + 1
  | .iface _ d => uptoBulk d + 1
  | .map entries => uptoBulkEntries entries + 1
  | .held _ => 1
def uptoBulkAll {H : Type} : List (DataW H) → Nat
  | [] => 0
  | d :: r => uptoBulk d + uptoBulkAll r
def uptoBulkEntries {H : Type} : List (Lit × DataW H) → Nat
  | [] => 0
  | x :: r => uptoBulkEntry x + uptoBulkEntries r
def uptoBulkEntry {H : Type} : Lit × DataW H → Nat
  | (.string bytes, d) => bytes.length + uptoBulk d + 1
  | (_, d) => uptoBulk d + 1
 end
def uptoSmall : (H : Type) → List (DataW H) → Bool := fun _ ds => decide (uptoBulkAll ds ≤ 1048576)
def OpenSpec.upto (s : _root_.Go.ChangeSpec) : _root_.Go.OpenSpec := { _root_.Go.OpenSpec.ofChange s with cond := some uptoSmall }

/-- 'ecdysislaw09.IdentRight', WHERE WHAT IT READS IS OF BULK AT MOST 1048576: true; the input reads as it did. -/
def identRightUptoRow : OpenClaim := { program := "ytoagamdhfaebgaa", sum := "b2fc6cade28efba7b50fd73e1a3b9d3208f54d2aa99a211e2df4d009062beb75", func := "ecdysis/ecdysislaw09.IdentRight", spec := "identRight", apart := false, narrowed := true }
def IdentRightUptoSaid : Prop := identRightUptoRow.holds Try.pinned (OpenSpec.upto identRightSpec)

/-- 'ecdysislaw09.IdentLists', WHERE WHAT IT READS IS OF BULK AT MOST 1048576: true; the input reads as it did. -/
def identListsUptoRow : OpenClaim := { program := "ytoagamdhfaebgaa", sum := "b2fc6cade28efba7b50fd73e1a3b9d3208f54d2aa99a211e2df4d009062beb75", func := "ecdysis/ecdysislaw09.IdentLists", spec := "identLists", recurses := true, apart := false, narrowed := true }
def IdentListsUptoSaid : Prop := identListsUptoRow.holds Try.pinned (OpenSpec.upto identListsSpec)

/-- 'ecdysislaw09.IdentOrder', WHERE WHAT IT READS IS OF BULK AT MOST 1048576: true; the input reads as it did. -/
def identOrderUptoRow : OpenClaim := { program := "ytoagamdhfaebgaa", sum := "b2fc6cade28efba7b50fd73e1a3b9d3208f54d2aa99a211e2df4d009062beb75", func := "ecdysis/ecdysislaw09.IdentOrder", spec := "identOrder", recurses := true, apart := false, narrowed := true }
def IdentOrderUptoSaid : Prop := identOrderUptoRow.holds Try.pinned (OpenSpec.upto identOrderSpec)

end Rows
end Go.Proofs.Ytoagamdhfaebgaa
