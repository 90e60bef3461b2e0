/- The document's token that a text begins with. Conditions: what number answers; those that each theorem names. -/
import Derived.Test.YtnbjpeefndcheaaDoorRlE
import Derived.Test.YtnbjpeefndcheaaDoorRlA
import Derived.Test.YtnbjpeefndcheaaDoorLexNum
import Derived.Test.YtnbjpeefndcheaaDoorObj
namespace Go.Proofs.YtnbjpeefndcheaaDoor
open Go.RowKit
set_option linter.unusedVariables false
set_option maxRecDepth 100000

structure Tk where
  kind : Int
  s : List UInt8
  n : Nat
  neg : Bool
  pos : Nat
def tkV (x : Tk) : Value := .agg #[.int .i64 x.kind, .string (strOf x.s), .int .u64 (x.n : Int), .bool x.neg, .int .i64 (x.pos : Int)]
def tkCells (x : Tk) : List Value := [.int .i64 x.kind, .string (strOf x.s), .int .u64 (x.n : Int), .bool x.neg, .int .i64 (x.pos : Int)]
def tk0 : Tk := ⟨0, [], 0, false, 0⟩
def oneT (t : List UInt8) : Tk × Nat :=
  if 0 < wordN t then (⟨1, t.take (wordN t), 0, false, 0⟩, wordN t)
  else if 0 < (numT t).2.2 then (⟨2, [], (numT t).1, (numT t).2.1, 0⟩, (numT t).2.2)
  else if 0 < (textT t).2 then (⟨3, (textT t).1, 0, false, 0⟩, (textT t).2)
  else match t with
    | [] => (tk0, 0)
    | c :: r => if markB c = true then (⟨4, [c], 0, false, 0⟩, 1) else (tk0, 0)
def oneV (r : Tk × Nat) : Value := .tuple #[tkV r.1, .int .i64 (r.2 : Int)]
def numV3 (r : Nat × Bool × Nat) : Value := .tuple #[.int .u64 (r.1 : Int), .bool r.2.1, .int .i64 (r.2.2 : Int)]
theorem box_set {w : World} {p : Nat} {cs : Array Value} {t : TypeId} (h : w.heap[p]? = some (.cells cs t (0, 0))) (h5 : cs.size = 5) (v0 v1 v2 v3 v4 : Value) :
    (((((w.setCell ⟨p, 0, none⟩ v0).setCell ⟨p, 1, none⟩ v1).setCell ⟨p, 2, none⟩ v2).setCell ⟨p, 3, none⟩ v3).setCell ⟨p, 4, none⟩ v4).heap[p]? = some (.cells #[v0, v1, v2, v3, v4] t (0, 0)) := by
  rw [obj_set (obj_set (obj_set (obj_set (obj_set h 0 v0) 1 v1) 2 v2) 3 v3) 4 v4]
  obtain ⟨l⟩ := cs
  match l, h5 with
  | [a, b, c, d, e], _ => rfl
theorem box_below {w0 w : World} {p : Nat} (h : Below w0.heap.size w0 w) (hp : w0.heap.size ≤ p) (v0 v1 v2 v3 v4 : Value) :
    Below w0.heap.size w0 (((((w.setCell ⟨p, 0, none⟩ v0).setCell ⟨p, 1, none⟩ v1).setCell ⟨p, 2, none⟩ v2).setCell ⟨p, 3, none⟩ v3).setCell ⟨p, 4, none⟩ v4) :=
  ((((h.setCell (p := ⟨p, 0, none⟩) hp v0).setCell (p := ⟨p, 1, none⟩) hp v1).setCell (p := ⟨p, 2, none⟩) hp v2).setCell (p := ⟨p, 3, none⟩) hp v3).setCell (p := ⟨p, 4, none⟩) hp v4

end Go.Proofs.YtnbjpeefndcheaaDoor
