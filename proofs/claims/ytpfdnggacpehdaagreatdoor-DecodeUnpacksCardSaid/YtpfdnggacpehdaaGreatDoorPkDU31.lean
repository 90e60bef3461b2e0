/- Several texts in one: RawMem. What each proves, and its conditions, stands at its own head. -/
import Derived.Test.YtpfdnggacpehdaaGreatDoorChecked
import Derived.Test.YtpfdnggacpehdaaGreatDoorPkDU23
import Derived.Test.YtpfdnggacpehdaaGreatDoorPkDU0
import Derived.Test.YtpfdnggacpehdaaGreatDoorPkDU2
import Derived.Deep.SlicePairs
/- Fields in memory: lists that are read, lists that came in. Conditions: those that each theorem names. -/
namespace Go.Proofs.YtpfdnggacpehdaaGreatDoor
open Go.RowKit Go.ChangeShapes
set_option linter.unusedVariables false
set_option maxRecDepth 100000

def rawV (x : Rw) : Value := .agg #[.int .i64 x.num, .int .i64 x.wire, .int .u64 (x.n : Int), .string (strOf x.s)]
def rawCells (x : Rw) : List Value := [.int .i64 x.num, .int .i64 x.wire, .int .u64 (x.n : Int), .string (strOf x.s)]
theorem rawCells_length (x : Rw) : (rawCells x).length = 4 := rfl
def rawRow (l : List Rw) : List Value := l.flatMap rawCells
theorem rawRow_length (l : List Rw) : (rawRow l).length = l.length * 4 := flat_length rawCells 4 rawCells_length l
theorem rawRow_append (a b : List Rw) : rawRow (a ++ b) = rawRow a ++ rawRow b := by simp [rawRow]
/-- A slice that reads as these fields. -/
structure Raws (w : World) (A : Option Addr) (cap : Nat) (l : List Rw) : Prop where
  le : l.length ≤ cap
  max : cap ≤ 9223372036854775807
  at_ : ∀ (j : Nat) x, l[j]? = some x → ∃ g off, A = some ⟨g, off, none⟩ ∧ w.cell? ⟨g, off + j * 4, none⟩ = some (.int .i64 x.num) ∧ w.cell? ⟨g, off + j * 4 + 1, none⟩ = some (.int .i64 x.wire) ∧ w.cell? ⟨g, off + j * 4 + 2, none⟩ = some (.int .u64 (x.n : Int)) ∧ w.cell? ⟨g, off + j * 4 + 3, none⟩ = some (.string (strOf x.s))
theorem lt_of_cell {w : World} {b o : Nat} {v : Value} (h : w.cell? ⟨b, o, none⟩ = some v) : b < w.heap.size := by
  rcases Nat.lt_or_ge b w.heap.size with h' | h'
  · exact h'
  · simp [World.cell?, Array.getElem?_eq_none h'] at h
theorem Raws.bel {w w' : World} {A : Option Addr} {cap : Nat} {l : List Rw} (h : Raws w A cap l) (hb : Below w.heap.size w w') : Raws w' A cap l :=
  ⟨h.le, h.max, fun j x hj => by
    obtain ⟨g, off, e, c0, c1, c2, c3⟩ := h.at_ j x hj
    have hg := lt_of_cell c0
    exact ⟨g, off, e, (hb.cell (p := ⟨g, off + j * 4, none⟩) hg).trans c0, (hb.cell (p := ⟨g, off + j * 4 + 1, none⟩) hg).trans c1, (hb.cell (p := ⟨g, off + j * 4 + 2, none⟩) hg).trans c2, (hb.cell (p := ⟨g, off + j * 4 + 3, none⟩) hg).trans c3⟩⟩
/-- A row of the call's own reads so. -/
theorem Raws.own {w : World} {base : Nat} {t : TypeId} {v : Value} {n : Nat} {l : List Rw} (h : w.ownsRow base t 4 v n (rawRow l)) : n = l.length ∧ ∃ A cap, v = .slice A l.length cap ∧ Raws w A cap l := by
  have hn : n = l.length := by have := h.1; rw [rawRow_length] at this; omega
  subst hn
  obtain ⟨A, cap, rfl, h1, h2, h3, _⟩ := own_form h
  refine ⟨rfl, A, cap, rfl, h1, by unfold maxLen at h2; omega, fun j x hj => ?_⟩
  have hjl := (List.getElem?_eq_some_iff.mp hj).1
  obtain ⟨g, cp, hv, _, _, _, _⟩ := own_pos h (by omega)
  injection hv with e1 e2 e3
  subst e1 e3
  have hget : ∀ i, i < 4 → (rawRow l)[j * 4 + i]? = (rawCells x)[i]? := fun i hi => by rw [Nat.mul_comm j 4]; exact flat_get rawCells 4 rawCells_length l j x i hj hi
  have hc : ∀ i u, i < 4 → (rawCells x)[i]? = some u → w.cell? ⟨g, j * 4 + i, none⟩ = some u := fun i u hi hu => own_cell h rfl ((hget i hi).trans hu)
  refine ⟨g, 0, rfl, ?_, ?_, ?_, ?_⟩
  · have := hc 0 _ (by omega) rfl; rwa [Nat.zero_add]
  · have := hc 1 _ (by omega) rfl; rwa [Nat.zero_add]
  · have := hc 2 _ (by omega) rfl; rwa [Nat.zero_add]
  · have := hc 3 _ (by omega) rfl; rwa [Nat.zero_add]

end Go.Proofs.YtpfdnggacpehdaaGreatDoor
