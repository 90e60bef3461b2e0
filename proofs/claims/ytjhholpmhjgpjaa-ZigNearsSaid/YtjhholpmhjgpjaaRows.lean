/-
  No cell of these rows narrows 'for every input' (looked for: loops, veiled, ifaces, maps, wideKeys, modest, calm, conditions, laid).
  DERIVED. THE GIVEN ROWS OF THIS SEAT. 3 by the template 'for every input the law returns true; each argument reads behind the call as it read before'; 0 by the template 'total and deterministic' (their statements: YtjhholpmhjgpjaaTotals.lean).
  GIVEN WITH THE SEED: the statements are not yours to turn. If you find one false, say at which input.
  Laid BY PROGRAM, IN A SANDBOX (cutbox-rows.mjs): the forced cells as the released guide's own fill.sh prints them over the translation ce0dcccefcb016f3… (all of the seat's roots in one cut). By AI agents, Wed Nov 11 2026. No macro, syntax, notation, axiom, sorry.
-/
import Derived.Test.YtjhholpmhjgpjaaChecked
import GoSem.Claim
import GoSem.ClaimJoined
import GoSem.ClaimMapViews
import Derived.JoinedTies
import Derived.KernelRfl
namespace Go.Proofs.Ytjhholpmhjgpjaa
/- THE CELL 'sum', in the pinned program and in every row, IS THE sha256 OF THE DUMP (.gsa) THAT YtjhholpmhjgpjaaProg.lean LOADS. Nothing in Lean hashes anything: it is a label: what it is worth is what the hold of that sum in a sandbox is worth. -/
noncomputable def Try.pinned : Pinned := { name := "ytjhholpmhjgpjaa", sum := "ce0dcccefcb016f3ffacf8c28e89c84e7953bb9440000571a7ff9e6c42f04d40", checked := Try.checked }
namespace Rows
def none {H : Type} : Left H := { results := [], args := [] }

/-- 'ecdysislaw02.ZigZags': WHATEVER THE INPUT: true; the input reads as it did. -/
def zigZagsSpec : ChangeSpec := { name := "zigZags", fn := fun _ => fun
  | [d1, d2] => { results := [.lit (.bool true)], args := [d1, d2] }
  | _ => none }
def zigZagsRow : OpenClaim := { program := "ytjhholpmhjgpjaa", sum := "ce0dcccefcb016f3ffacf8c28e89c84e7953bb9440000571a7ff9e6c42f04d40", func := "ecdysis/ecdysislaw02.ZigZags", spec := "zigZags", unfollowed := true, recurses := true, apart := false }
def ZigZagsSaid : Prop := zigZagsRow.holds Try.pinned (OpenSpec.ofChange zigZagsSpec)

/-- ITS FALSE NEIGHBOUR: 'it returns false'. Refute it at one input. -/
def zigZagsWrong : ChangeSpec := { name := "zigZags", fn := fun _ => fun
  | [d1, d2] => { results := [.lit (.bool false)], args := [d1, d2] }
  | _ => none }
def ZigZagsWrongFalsely : Prop := zigZagsRow.holds Try.pinned (OpenSpec.ofChange zigZagsWrong)

/-- 'ecdysislaw02.ZigLows': WHATEVER THE INPUT: true; the input reads as it did. -/
def zigLowsSpec : ChangeSpec := { name := "zigLows", fn := fun _ => fun
  | [d1, d2] => { results := [.lit (.bool true)], args := [d1, d2] }
  | _ => none }
def zigLowsRow : OpenClaim := { program := "ytjhholpmhjgpjaa", sum := "ce0dcccefcb016f3ffacf8c28e89c84e7953bb9440000571a7ff9e6c42f04d40", func := "ecdysis/ecdysislaw02.ZigLows", spec := "zigLows", unfollowed := true, recurses := true, apart := false }
def ZigLowsSaid : Prop := zigLowsRow.holds Try.pinned (OpenSpec.ofChange zigLowsSpec)

/-- ITS FALSE NEIGHBOUR: 'it returns false'. Refute it at one input. -/
def zigLowsWrong : ChangeSpec := { name := "zigLows", fn := fun _ => fun
  | [d1, d2] => { results := [.lit (.bool false)], args := [d1, d2] }
  | _ => none }
def ZigLowsWrongFalsely : Prop := zigLowsRow.holds Try.pinned (OpenSpec.ofChange zigLowsWrong)

/-- 'ecdysislaw02.ZigNears': WHATEVER THE INPUT: true; the input reads as it did. -/
def zigNearsSpec : ChangeSpec := { name := "zigNears", fn := fun _ => fun
  | [d1, d2] => { results := [.lit (.bool true)], args := [d1, d2] }
  | _ => none }
def zigNearsRow : OpenClaim := { program := "ytjhholpmhjgpjaa", sum := "ce0dcccefcb016f3ffacf8c28e89c84e7953bb9440000571a7ff9e6c42f04d40", func := "ecdysis/ecdysislaw02.ZigNears", spec := "zigNears", unfollowed := true, recurses := true, apart := false }
def ZigNearsSaid : Prop := zigNearsRow.holds Try.pinned (OpenSpec.ofChange zigNearsSpec)

/-- ITS FALSE NEIGHBOUR: 'it returns false'. Refute it at one input. -/
def zigNearsWrong : ChangeSpec := { name := "zigNears", fn := fun _ => fun
  | [d1, d2] => { results := [.lit (.bool false)], args := [d1, d2] }
  | _ => none }
def ZigNearsWrongFalsely : Prop := zigNearsRow.holds Try.pinned (OpenSpec.ofChange zigNearsWrong)

/- THE SECOND FORM. 'bulk': how many values and letters a reading holds, each counted each time it is reached (what is shared counts as often as it is met; a slice's spare places count too). A statement '..UptoSaid' is the law's where the arguments, and the package variables that the reading takes, are together of bulk at most 1048576: NARROWER than '..Said'. Prove '..Said' where nothing that the law and all that it calls make is longer than what came in: it says more and counts as full. Else prove '..UptoSaid'. A law counts once. -/
mutual
def uptoBulk {H : Type} : DataW H → Nat
  | .lit (.string bytes) => bytes.length + 1
  | .lit _ => 1
  | .nil => 1
  | .ptr d => uptoBulk d + 1
  | .slice elems spare => uptoBulkAll elems + uptoBulkAll spare + 1
  | .agg parts => uptoBulkAll parts + 1
  | .iface _ d => uptoBulk d + 1
  | .map entries => uptoBulkEntries entries + 1
  | .held _ => 1
def uptoBulkAll {H : Type} : List (DataW H) → Nat
  | [] => 0
  | d :: r => uptoBulk d + uptoBulkAll r
def uptoBulkEntries {H : Type} : List (Lit × DataW H) → Nat
  | [] => 0
  | x :: r => uptoBulkEntry x + uptoBulkEntries r
def uptoBulkEntry {H : Type} : Lit × DataW H → Nat
  | (.string bytes, d) => bytes.length + uptoBulk d + 1
  | (_, d) => uptoBulk d + 1
 end
def uptoSmall : (H : Type) → List (DataW H) → Bool := fun _ ds => decide (uptoBulkAll ds ≤ 1048576)
def OpenSpec.upto (s : _root_.Go.ChangeSpec) : _root_.Go.OpenSpec := { _root_.Go.OpenSpec.ofChange s with cond := some uptoSmall }

/-- 'ecdysislaw02.ZigZags', WHERE WHAT IT READS IS OF BULK AT MOST 1048576: true; the input reads as it did. -/
def zigZagsUptoRow : OpenClaim := { program := "ytjhholpmhjgpjaa", sum := "ce0dcccefcb016f3ffacf8c28e89c84e7953bb9440000571a7ff9e6c42f04d40", func := "ecdysis/ecdysislaw02.ZigZags", spec := "zigZags", unfollowed := true, recurses := true, apart := false, narrowed := true }
def ZigZagsUptoSaid : Prop := zigZagsUptoRow.holds Try.pinned (OpenSpec.upto zigZagsSpec)

/-- 'ecdysislaw02.ZigLows', WHERE WHAT IT READS IS OF BULK AT MOST 1048576: true; the input reads as it did. -/
def zigLowsUptoRow : OpenClaim := { program := "ytjhholpmhjgpjaa", sum := "ce0dcccefcb016f3ffacf8c28e89c84e7953bb9440000571a7ff9e6c42f04d40", func := "ecdysis/ecdysislaw02.ZigLows", spec := "zigLows", unfollowed := true, recurses := true, apart := false, narrowed := true }
def ZigLowsUptoSaid : Prop := zigLowsUptoRow.holds Try.pinned (OpenSpec.upto zigLowsSpec)

/-- 'ecdysislaw02.ZigNears', WHERE WHAT IT READS IS OF BULK AT MOST 1048576: true; the input reads as it did. -/
def zigNearsUptoRow : OpenClaim := { program := "ytjhholpmhjgpjaa", sum := "ce0dcccefcb016f3ffacf8c28e89c84e7953bb9440000571a7ff9e6c42f04d40", func := "ecdysis/ecdysislaw02.ZigNears", spec := "zigNears", unfollowed := true, recurses := true, apart := false, narrowed := true }
def ZigNearsUptoSaid : Prop := zigNearsUptoRow.holds Try.pinned (OpenSpec.upto zigNearsSpec)

end Rows
end Go.Proofs.Ytjhholpmhjgpjaa
