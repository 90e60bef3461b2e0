/- What a call that makes bytes answers: a slice that reads as them, in memory of its own. Conditions: those that each theorem names. -/
import Derived.Test.YtnbjpeefndcheaaDoorChecked
import Derived.Test.YtnbjpeefndcheaaDoorBytes
import Derived.WalkKit
import Derived.RowKitTokens
import Derived.OwnWalk
namespace Go.Proofs.YtnbjpeefndcheaaDoor
open Go.RowKit

theorem info_u8 : (Tryd.prog.info? 5).map (fun i => (i.zero, i.size, i.bytes)) = some (some (.int .u8 0), 1, 1) := by kernel_rfl

theorem cellsOf_snoc (pre : List UInt8) {a : Nat} (h : a < 256) {x : Int} (hx : x = (a : Int)) : cellsOf pre ++ [.int .u8 x] = cellsOf (pre ++ [a.toUInt8]) := by
  subst hx
  rw [cellsOf_append]
  simp only [cellsOf, List.map_cons, List.map_nil]
  rw [u8_nat h]

theorem one_one (x : Int) : ∀ u ∈ [Value.int .u8 x], u.oneCell' = true := by
  intro u hu; simp at hu; subst hu; rfl

/-- What a call that makes bytes answers. -/
def Gives (w : World) (bs : List UInt8) (e : Ending) (w' : World) : Prop :=
  ∃ A cap, e = .returned (.slice A bs.length cap) ∧ Bs w' A cap bs ∧ Below w.heap.size w w'

theorem gives_own {w w' : World} {v : Value} {bs : List UInt8} {base n : Nat} {t : TypeId} (h : w'.ownsRow base t 1 v n (cellsOf bs)) (hb : Below w.heap.size w w') : Gives w bs (.returned v) w' := by
  obtain ⟨_, A, cap, rfl, hB⟩ := Bs.own h
  exact ⟨A, cap, rfl, hB, hb⟩

/-- .. where the row is the caller's to append to. -/
def GivesOwn (w : World) (bs : List UInt8) (e : Ending) (w' : World) : Prop :=
  ∃ v n, e = .returned v ∧ w'.ownsRow w.heap.size 5 1 v n (cellsOf bs) ∧ Below w.heap.size w w'

/-- .. where what it lies in is new. -/
def GivesN (w : World) (bs : List UInt8) (e : Ending) (w' : World) : Prop :=
  ∃ A cap, e = .returned (.slice A bs.length cap) ∧ Bs w' A cap bs ∧ Below w.heap.size w w' ∧ ∀ a, A = some a → w.heap.size ≤ a.block ∧ a.block < w'.heap.size
theorem GivesN.gives {w w' : World} {bs : List UInt8} {e : Ending} (h : GivesN w bs e w') : Gives w bs e w' := by
  obtain ⟨A, cap, h1, h2, h3, _⟩ := h
  exact ⟨A, cap, h1, h2, h3⟩
theorem new_own {w w' : World} {v : Value} {bs : List UInt8} {n : Nat} {t : TypeId} (h : w'.ownsRow w.heap.size t 1 v n (cellsOf bs)) (hb : Below w.heap.size w w') : GivesN w bs (.returned v) w' := by
  obtain ⟨_, A, cap, rfl, hB⟩ := Bs.own h
  exact ⟨A, cap, rfl, hB, hb, fun a ha => h.lt a.block (by rw [ha]; rfl)⟩

theorem own0 (w : World) : (w.alloc (.cells #[] 5)).ownsRow w.heap.size 5 1 (.slice (some ⟨w.heap.size, 0, none⟩) 0 0) 0 (cellsOf []) :=
  World.ownsRow_made w #[] 0 (Nat.le_refl _) (by decide) rfl
end Go.Proofs.YtnbjpeefndcheaaDoor
