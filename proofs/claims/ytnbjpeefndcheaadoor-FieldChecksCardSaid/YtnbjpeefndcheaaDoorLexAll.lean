/- Layer 10 (no program here, but for the document's tokens in memory): all tokens of a text. Conditions: those that each theorem names. -/
import Derived.Test.YtnbjpeefndcheaaDoorRlF
import Derived.Test.YtnbjpeefndcheaaDoorTouch
namespace Go.Proofs.YtnbjpeefndcheaaDoor
open Go.RowKit
set_option linter.unusedVariables false

theorem textR_le : ∀ (r : List UInt8) (p : List UInt8 × Nat), textR r = some p → p.2 ≤ r.length
  | [], p, h => by simp [textR] at h
  | [c], p, h => by
    by_cases hc : c.toNat = 39
    · rw [textR_last hc] at h; cases h; simp
    · rw [textR_other hc] at h; simp [textR] at h
  | c :: d :: q, p, h => by
    by_cases hc : c.toNat = 39
    · by_cases hd : d.toNat = 39
      · rw [textR_two hc hd] at h
        cases hq : textR q with
        | none => rw [hq] at h; simp at h
        | some x =>
          rw [hq] at h
          have := textR_le q x hq
          simp at h
          rw [← h]
          simp
          omega
      · rw [textR_close hc hd] at h; cases h; simp
    · rw [textR_other hc] at h
      cases hq : textR (d :: q) with
      | none => rw [hq] at h; simp at h
      | some x =>
        rw [hq] at h
        have := textR_le (d :: q) x hq
        simp at h
        rw [← h]
        simp at this ⊢
        omega
theorem textT_le (t : List UInt8) : (textT t).2 ≤ t.length := by
  cases t with
  | nil => exact Nat.le_refl _
  | cons c r =>
    unfold textT
    dsimp only
    split
    · cases hr : textR r with
      | none => exact Nat.zero_le _
      | some p => have := textR_le r p hr; simp; exact this
    · exact Nat.zero_le _
theorem oneT_le (t : List UInt8) : (oneT t).2 ≤ t.length := by
  unfold oneT
  split
  · exact wordN_le t
  · split
    · exact numT_le t
    · split
      · exact textT_le t
      · cases t with
        | nil => exact Nat.le_refl _
        | cons c r => dsimp only; split <;> simp
theorem oneT_lt (t : List UInt8) : (oneT t).1.n < 18446744073709551616 := by
  unfold oneT
  split
  · exact (by decide : (0 : Nat) < 18446744073709551616)
  · split
    · exact numT_lt t
    · split
      · exact (by decide : (0 : Nat) < 18446744073709551616)
      · cases t with
        | nil => exact (by decide : (0 : Nat) < 18446744073709551616)
        | cons c r => dsimp only; split <;> exact (by decide : (0 : Nat) < 18446744073709551616)
def passTo (t : List UInt8) (i : Nat) : Nat := i + passM false (t.drop i)
theorem passTo_le {t : List UInt8} {i : Nat} (h : i ≤ t.length) : passTo t i ≤ t.length := by
  unfold passTo
  have := passM_le false (t.drop i)
  rw [List.length_drop] at this
  omega
theorem passTo_ge (t : List UInt8) (i : Nat) : i ≤ passTo t i := Nat.le_add_right _ _
def tkAt (x : Tk) (i : Nat) : Tk := ⟨x.kind, x.s, x.n, x.neg, i⟩
/-- The tokens from a place on, the place where it ends, and whether that is the end. -/
def lexFrom (t : List UInt8) : Nat → Nat → List Tk × Nat × Bool
  | 0, i => ([], i, false)
  | f + 1, i => if i < t.length then (if (oneT (t.drop i)).2 = 0 then ([], i, false) else
      (tkAt (oneT (t.drop i)).1 i :: (lexFrom t f (passTo t (i + (oneT (t.drop i)).2))).1, (lexFrom t f (passTo t (i + (oneT (t.drop i)).2))).2)) else ([], i, true)
def lexS (t : List UInt8) : List Tk × Nat × Bool := lexFrom t (t.length + 1) (passTo t 0)
def lexT (t : List UInt8) (most : Int) : List Tk × Nat × Int :=
  if most < (t.length : Int) then ([], 0, 3) else if (lexS t).2.2 = true then ((lexS t).1 ++ [⟨0, [], 0, false, t.length⟩], t.length, 0) else ([], (lexS t).2.1, 2)
/-- So much was read. -/
structure LexAt (t : List UInt8) (acc : List Tk) (i : Nat) : Prop where
  all : lexS t = (acc ++ (lexFrom t (t.length + 1 - acc.length) i).1, (lexFrom t (t.length + 1 - acc.length) i).2)
  cnt : acc.length ≤ i
  le : i ≤ t.length
theorem lexAt_start (t : List UInt8) : LexAt t [] (passTo t 0) := ⟨rfl, Nat.zero_le _, passTo_le (Nat.zero_le _)⟩
section
variable {t : List UInt8} {acc : List Tk} {i : Nat}
theorem lexAt_fuel (h : LexAt t acc i) : t.length + 1 - acc.length = (t.length - acc.length) + 1 := by have := h.cnt; have := h.le; omega
theorem lex_ends (h : LexAt t acc i) (hi : ¬ i < t.length) : lexS t = (acc, i, true) := by
  have := h.all
  rw [lexAt_fuel h, lexFrom, if_neg hi, List.append_nil] at this
  exact this
theorem lex_fails (h : LexAt t acc i) (hi : i < t.length) (hz : (oneT (t.drop i)).2 = 0) : lexS t = (acc, i, false) := by
  have := h.all
  rw [lexAt_fuel h, lexFrom, if_pos hi, if_pos hz, List.append_nil] at this
  exact this
theorem lex_goes (h : LexAt t acc i) (hi : i < t.length) (hz : (oneT (t.drop i)).2 ≠ 0) : LexAt t (acc ++ [tkAt (oneT (t.drop i)).1 i]) (passTo t (i + (oneT (t.drop i)).2)) := by
  have ha := h.all
  rw [lexAt_fuel h, lexFrom, if_pos hi, if_neg hz] at ha
  have hle := oneT_le (t.drop i)
  rw [List.length_drop] at hle
  have hg := passTo_ge t (i + (oneT (t.drop i)).2)
  refine ⟨?_, by rw [List.length_append]; have := h.cnt; simp; omega, passTo_le (by omega)⟩
  rw [List.length_append, show t.length + 1 - (acc.length + [tkAt (oneT (t.drop i)).1 i].length) = t.length - acc.length by simp, List.append_assoc]
  exact ha
end

theorem tkCells_length (x : Tk) : (tkCells x).length = 5 := rfl
def tkRow (l : List Tk) : List Value := l.flatMap tkCells
theorem tkRow_length (l : List Tk) : (tkRow l).length = l.length * 5 := flat_length tkCells 5 tkCells_length l
theorem tkRow_snoc (l : List Tk) (x : Tk) : tkRow (l ++ [x]) = tkRow l ++ tkCells x := by simp [tkRow]
theorem tkCells_one (x : Tk) : ∀ u ∈ tkCells x, u.oneCell' = true := by
  intro u hu
  simp [tkCells] at hu
  rcases hu with rfl | rfl | rfl | rfl | rfl <;> rfl
/-- A slice that reads as these tokens. -/
structure Toks (w : World) (A : Option Addr) (cap : Nat) (l : List Tk) : Prop where
  le : l.length ≤ cap
  max : cap ≤ 9223372036854775807
  cells : ∀ (j : Nat) x, l[j]? = some x → ∃ g off, A = some ⟨g, off, none⟩ ∧ ∀ i u, (tkCells x)[i]? = some u → w.cell? ⟨g, off + j * 5 + i, none⟩ = some u
theorem toks_nil (w : World) (A : Option Addr) (cap : Nat) (h : cap ≤ 9223372036854775807) : Toks w A cap [] := ⟨Nat.zero_le _, h, fun j x hj => by simp at hj⟩
theorem toks_bel {w w' : World} {A : Option Addr} {cap : Nat} {l : List Tk} (h : Toks w A cap l) (hb : Below w.heap.size w w') : Toks w' A cap l :=
  ⟨h.le, h.max, fun j x hj => by
    obtain ⟨g, off, e, hc⟩ := h.cells j x hj
    refine ⟨g, off, e, fun i u hu => ?_⟩
    have h1 := hc i u hu
    exact (hb.cell (p := ⟨g, off + j * 5 + i, none⟩) (World.block_lt_of_cell? w _ h1)).trans h1⟩
/-- A row of the call's own reads so. -/
theorem toks_own {w : World} {base : Nat} {t : TypeId} {v : Value} {n : Nat} {l : List Tk} (h : w.ownsRow base t 5 v n (tkRow l)) : n = l.length ∧ ∃ A cap, v = .slice A l.length cap ∧ Toks w A cap l := by
  have hn : n = l.length := by have := h.1; rw [tkRow_length] at this; omega
  subst hn
  obtain ⟨A, cap, rfl, h1, h2, h3, _⟩ := own_form h
  refine ⟨rfl, A, cap, rfl, h1, by unfold maxLen at h2; omega, fun j x hj => ?_⟩
  have hjl := (List.getElem?_eq_some_iff.mp hj).1
  obtain ⟨g, cp, hv, _, _, _, _⟩ := own_pos h (by omega)
  injection hv with e1 e2 e3
  subst e1 e3
  refine ⟨g, 0, rfl, fun i u hu => ?_⟩
  have hi : i < 5 := by have := (List.getElem?_eq_some_iff.mp hu).1; rwa [tkCells_length] at this
  have hg : (tkRow l)[j * 5 + i]? = some u := by rw [Nat.mul_comm j 5]; exact (flat_get tkCells 5 tkCells_length l j x i hj hi).trans hu
  have := own_cell h (g := g) rfl hg
  rwa [Nat.zero_add]
end Go.Proofs.YtnbjpeefndcheaaDoor
