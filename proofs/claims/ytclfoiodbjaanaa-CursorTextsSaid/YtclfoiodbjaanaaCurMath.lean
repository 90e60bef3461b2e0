/- Layer 5 in plain words (no program here): a cursor's place and its frames (the innermost one first; none: it failed), and what each call reads. -/
import Derived.Test.YtclfoiodbjaanaaVarMath
import Derived.Test.YtclfoiodbjaanaaFixMath
import Derived.Test.YtclfoiodbjaanaaTagMath
namespace Go.Proofs.Ytclfoiodbjaanaa
open Go.RowKit
open Go.Lib (uvarint)

structure St where
  at_ : Nat
  fr : List Nat
def St.none : St := ⟨0, []⟩

/-- The bytes from the place on, up to the innermost frame's end. -/
def segOf (bs : List UInt8) (i l : Nat) : List UInt8 := (bs.take l).drop i
theorem segOf_length {bs : List UInt8} {i l : Nat} (h : l ≤ bs.length) : (segOf bs i l).length = l - i := by
  simp [segOf]; omega

/-- How many bytes are read: 0: it fails. -/
def St.on (s : St) (k : Nat) : St := if k = 0 then St.none else ⟨s.at_ + k, s.fr⟩
def St.rd {α : Type} (take : List UInt8 → α × Nat) (z : α) (bs : List UInt8) (s : St) : α × St :=
  match s.fr with
  | [] => (z, s)
  | l :: _ => if (take (segOf bs s.at_ l)).2 = 0 then (z, St.none) else ((take (segOf bs s.at_ l)).1, ⟨s.at_ + (take (segOf bs s.at_ l)).2, s.fr⟩)

def tVar (b : List UInt8) : Nat × Nat := getFrom 0 0 b
def tFix (k : Nat) (b : List UInt8) : Nat × Nat := (getN k b, if isN k b = true then k else 0)
def tLen (b : List UInt8) : Nat × Nat := if b.length - (getFrom 0 0 b).2 < (getFrom 0 0 b).1 then (0, 0) else getFrom 0 0 b
def tText (b : List UInt8) : List UInt8 × Nat := ((b.drop (tLen b).2).take (tLen b).1, (tLen b).2 + (tLen b).1)
def tTag (b : List UInt8) : (Nat × Nat) × Nat := ((splitN (getFrom 0 0 b).1, splitW (getFrom 0 0 b).1), if splitOk (getFrom 0 0 b).1 = true then (getFrom 0 0 b).2 else 0)

theorem tVar_le (b : List UInt8) : (tVar b).2 ≤ b.length := getFrom_le b
theorem tVar_lt (b : List UInt8) : (tVar b).1 < 18446744073709551616 := getFrom_u64 b
theorem tFix_le (k : Nat) (b : List UInt8) : (tFix k b).2 ≤ b.length := by
  unfold tFix isN
  by_cases h : k ≤ b.length <;> simp [h]
theorem getFrom_none : ∀ (l : List UInt8) (i acc : Nat), (getFrom i acc l).2 = 0 → (getFrom i acc l).1 = 0
  | [], _, _, _ => rfl
  | c :: cs, i, acc, h => by
    unfold getFrom at h ⊢
    split
    · rfl
    · rename_i h1
      rw [if_neg h1] at h
      split
      · rename_i h2
        rw [if_pos h2] at h
        simp at h
      · rename_i h2
        rw [if_neg h2] at h
        exact getFrom_none cs _ _ h
theorem getFrom_zero (b : List UInt8) (h : (getFrom 0 0 b).2 = 0) : (getFrom 0 0 b).1 = 0 := getFrom_none b 0 0 h
theorem tLen_sum (b : List UInt8) : (tLen b).2 + (tLen b).1 ≤ b.length := by
  have h := getFrom_le b
  unfold tLen
  split
  · simp
  · omega
theorem tLen_zero (b : List UInt8) (h : (tLen b).2 = 0) : (tLen b).1 = 0 := by
  revert h
  unfold tLen
  split
  · simp
  · exact getFrom_zero b
theorem tTag_zero (b : List UInt8) (h : (tTag b).2 = 0) : (tTag b).1 = (0, 0) := by
  revert h
  unfold tTag
  dsimp only
  split
  · intro h
    rename_i hok
    rw [getFrom_zero b h] at hok
    exact absurd hok (by decide)
  · rename_i hok
    intro _
    simp [splitN, splitW, hok]
theorem tText_le (b : List UInt8) : (tText b).2 ≤ b.length := tLen_sum b
theorem tTag_le (b : List UInt8) : (tTag b).2 ≤ b.length := by
  have h := getFrom_le b
  unfold tTag
  dsimp only
  split <;> omega

/-- What a cursor that did not fail keeps to. -/
def Right (bs : List UInt8) (s : St) : Prop := match s.fr with
  | [] => s.at_ = 0
  | l :: r => s.at_ ≤ l ∧ l ≤ bs.length ∧ List.Pairwise (· ≤ ·) (l :: r) ∧ (∀ e ∈ r, e ≤ bs.length) ∧ r.length ≤ s.at_
theorem right_none (bs : List UInt8) : Right bs St.none := rfl
theorem right_start (bs : List UInt8) : Right bs ⟨0, [bs.length]⟩ := ⟨Nat.zero_le _, Nat.le_refl _, by simp, by simp, Nat.le_refl _⟩
theorem right_rd {α : Type} {take : List UInt8 → α × Nat} {z : α} {bs : List UInt8} {s : St} (h : Right bs s) (ht : ∀ b, (take b).2 ≤ b.length) : Right bs (s.rd take z bs).2 := by
  obtain ⟨i, fr⟩ := s
  cases fr with
  | nil => exact h
  | cons l r =>
    obtain ⟨h1, h2, h3, h4, h5⟩ := h
    have := ht (segOf bs i l)
    rw [segOf_length h2] at this
    unfold St.rd
    dsimp only at *
    split
    · exact right_none bs
    · exact ⟨by dsimp only; omega, h2, h3, h4, by dsimp only; omega⟩

def St.opens (bs : List UInt8) (s : St) : St := match s.fr with
  | [] => s
  | l :: r => if (tLen (segOf bs s.at_ l)).2 = 0 then St.none else ⟨s.at_ + (tLen (segOf bs s.at_ l)).2, (s.at_ + (tLen (segOf bs s.at_ l)).2 + (tLen (segOf bs s.at_ l)).1) :: l :: r⟩
def St.oks (s : St) : Bool := !s.fr.isEmpty
theorem right_opens {bs : List UInt8} {s : St} (h : Right bs s) : Right bs (s.opens bs) := by
  obtain ⟨i, fr⟩ := s
  cases fr with
  | nil => exact h
  | cons l r =>
    obtain ⟨h1, h2, h3, h4, h5⟩ := h
    have := tLen_sum (segOf bs i l)
    rw [segOf_length h2] at this
    unfold St.opens
    dsimp only at *
    split
    · exact right_none bs
    · refine ⟨by dsimp only; omega, by omega, List.pairwise_cons.2 ⟨fun e he => ?_, h3⟩, fun e he => ?_, by simp only [List.length_cons]; omega⟩
      · rcases List.mem_cons.1 he with rfl | he
        · omega
        · have := (List.pairwise_cons.1 h3).1 e he; omega
      · rcases List.mem_cons.1 he with rfl | he
        · exact h2
        · exact h4 e he
def St.shuts (s : St) : Bool × St := match s.fr with
  | l :: l2 :: r => if s.at_ = l then (true, ⟨s.at_, l2 :: r⟩) else (false, s)
  | _ => (false, s)
theorem right_shuts {bs : List UInt8} {s : St} (h : Right bs s) : Right bs s.shuts.2 := by
  obtain ⟨i, fr⟩ := s
  match fr, h with
  | [], h => exact h
  | [l], h => exact h
  | l :: l2 :: r, h =>
    obtain ⟨h1, h2, h3, h4, h5⟩ := h
    unfold St.shuts
    dsimp only at *
    split
    · have h6 := List.pairwise_cons.1 h3
      have := h6.1 l2 (by simp)
      exact ⟨by dsimp only; omega, h4 l2 (by simp), h6.2, fun e he => h4 e (by simp [he]), by simp only [List.length_cons] at h5; dsimp only; omega⟩
    · exact ⟨h1, h2, h3, h4, h5⟩
def St.more (s : St) : Bool := match s.fr with
  | [] => false
  | l :: _ => decide (s.at_ < l)
end Go.Proofs.Ytclfoiodbjaanaa
