/- Layer 10 in plain words (no program here): the text that a text begins with. -/
import Derived.Test.YtnbjpeefndcheaaDoorLexMath
namespace Go.Proofs.YtnbjpeefndcheaaDoor
set_option linter.unusedVariables false

/-- Behind the opening quote: what is said, and how many bytes that and the closing quote are. -/
def textR : List UInt8 → Option (List UInt8 × Nat)
  | [] => none
  | c :: r => if c.toNat ≠ 39 then (textR r).map (fun p => (c :: p.1, p.2 + 1)) else
    match r with
    | [] => some ([], 1)
    | d :: q => if d.toNat ≠ 39 then some ([], 1) else (textR q).map (fun p => (39 :: p.1, p.2 + 2))
def textT (t : List UInt8) : List UInt8 × Nat := match t with
  | [] => ([], 0)
  | c :: r => if c.toNat = 39 then (match textR r with | some p => (p.1, p.2 + 1) | none => ([], 0)) else ([], 0)
theorem textR_other {c : UInt8} {r : List UInt8} (h : c.toNat ≠ 39) : textR (c :: r) = (textR r).map (fun p => (c :: p.1, p.2 + 1)) := by
  rw [textR.eq_def]; dsimp only; rw [if_pos h]
theorem textR_last {c : UInt8} (h : c.toNat = 39) : textR [c] = some ([], 1) := by
  rw [textR.eq_def]; dsimp only; rw [if_neg (by simp [h])]
theorem textR_close {c d : UInt8} {q : List UInt8} (h : c.toNat = 39) (hd : d.toNat ≠ 39) : textR (c :: d :: q) = some ([], 1) := by
  rw [textR.eq_def]; dsimp only; rw [if_neg (by simp [h]), if_pos hd]
theorem textR_two {c d : UInt8} {q : List UInt8} (h : c.toNat = 39) (hd : d.toNat = 39) : textR (c :: d :: q) = (textR q).map (fun p => (39 :: p.1, p.2 + 2)) := by
  rw [textR.eq_def]; dsimp only; rw [if_neg (by simp [h]), if_neg (by simp [hd])]
/-- So much was read, up to i. -/
def TextAt (t o : List UInt8) (i : Nat) : Prop := textR (t.drop 1) = (textR (t.drop i)).map (fun p => (o ++ p.1, i - 1 + p.2))
theorem textAt_start (t : List UInt8) : TextAt t [] 1 := by
  unfold TextAt
  cases textR (t.drop 1) with
  | none => rfl
  | some p => simp
section
variable {t o : List UInt8} {i : Nat} {c d : UInt8}
theorem txt_other (h : TextAt t o i) (hi : 1 ≤ i) (hc : t[i]? = some c) (h39 : c.toNat ≠ 39) : TextAt t (o ++ [c]) (i + 1) := by
  unfold TextAt at *
  rw [h, drop_get hc, textR_other h39, Option.map_map]
  congr 1
  funext p
  simp
  omega
theorem txt_two (h : TextAt t o i) (hi : 1 ≤ i) (hc : t[i]? = some c) (h39 : c.toNat = 39) (hd : t[i + 1]? = some d) (hd39 : d.toNat = 39) : TextAt t (o ++ [39]) (i + 2) := by
  unfold TextAt at *
  rw [h, drop_get hc, drop_get hd, textR_two h39 hd39, Option.map_map]
  congr 1
  funext p
  simp
  omega
theorem txt_done (h : TextAt t o i) (hi : 1 ≤ i) (h0 : t[0]? = some c) (h39 : c.toNat = 39) (hr : textR (t.drop i) = some ([], 1)) : textT t = (o, i + 1) := by
  unfold TextAt at h
  rw [hr] at h
  cases t with
  | nil => simp at h0
  | cons b r =>
    simp at h0
    subst h0
    have h' : textR r = some (o ++ [], i - 1 + 1) := h
    unfold textT
    dsimp only
    rw [if_pos h39, h']
    simp
    omega
theorem txt_none (h : TextAt t o i) (h0 : t[0]? = some c) (h39 : c.toNat = 39) (hr : textR (t.drop i) = none) : textT t = ([], 0) := by
  unfold TextAt at h
  rw [hr] at h
  cases t with
  | nil => rfl
  | cons b r =>
    simp at h0
    subst h0
    have h' : textR r = Option.none := h
    unfold textT
    dsimp only
    rw [if_pos h39, h']
end
theorem text_no {t : List UInt8} (h : ∀ c, t[0]? = some c → c.toNat ≠ 39) : textT t = ([], 0) := by
  cases t with
  | nil => rfl
  | cons b r =>
    unfold textT
    dsimp only
    rw [if_neg (h b rfl)]
end Go.Proofs.YtnbjpeefndcheaaDoor
