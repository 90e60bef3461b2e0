/- Layer 9 in plain words (no program here): names, lists that rise, lists in which nothing is there twice. -/
import Derived.Test.YtnbjpeefndcheaaDoorBytes
namespace Go.Proofs.YtnbjpeefndcheaaDoor
set_option linter.unusedVariables false

/-- Is one text ahead of another, byte by byte? -/
def ahead : List UInt8 → List UInt8 → Bool
  | _, [] => false
  | [], _ :: _ => true
  | a :: r, b :: q => if a.toNat < b.toNat then true else if b.toNat < a.toNat then false else ahead r q
def riseB : List (List UInt8) → Bool
  | [] => true
  | [_] => true
  | a :: b :: r => ahead a b && riseB (b :: r)
/-- Is none there twice? -/
def onceB : List (List UInt8) → Bool
  | [] => true
  | a :: r => !(r.contains a) && onceB r
theorem riseB_off : ∀ {l : List (List UInt8)} {k : Nat} {a b : List UInt8}, l[k]? = some a → l[k + 1]? = some b → ahead a b = false → riseB l = false
  | x :: y :: r, 0, a, b, ha, hb, h => by
    simp at ha hb
    subst ha hb
    rw [riseB, h]; rfl
  | x :: y :: r, k + 1, a, b, ha, hb, h => by
    have := riseB_off (l := y :: r) (k := k) (by simpa using ha) (by simpa using hb) h
    rw [riseB, this, Bool.and_false]
  | [x], k, a, b, ha, hb, h => by simp at hb
  | [], k, a, b, ha, hb, h => by simp at hb
theorem riseB_all : ∀ {l : List (List UInt8)}, (∀ (k : Nat) a b, l[k]? = some a → l[k + 1]? = some b → ahead a b = true) → riseB l = true
  | [], _ => rfl
  | [_], _ => rfl
  | x :: y :: r, h => by
    rw [riseB, h 0 x y rfl rfl, riseB_all (l := y :: r) (fun k a b ha hb => h (k + 1) a b (by simpa using ha) (by simpa using hb))]
    rfl
theorem onceB_iff : ∀ l : List (List UInt8), onceB l = true ↔ l.Nodup
  | [] => by simp [onceB]
  | a :: r => by simp [onceB, onceB_iff r]
theorem onceB_off {l : List (List UInt8)} {i k : Nat} {a : List UInt8} (hk : k < i) (hi : l[i]? = some a) (hk' : l[k]? = some a) : onceB l = false := by
  cases h : onceB l with
  | false => rfl
  | true =>
    have hn := (onceB_iff l).mp h
    obtain ⟨h1, e1⟩ := List.getElem?_eq_some_iff.mp hi
    obtain ⟨h2, e2⟩ := List.getElem?_eq_some_iff.mp hk'
    exact absurd (e2.trans e1.symm) ((List.pairwise_iff_getElem.mp hn) k i h2 h1 hk)
theorem onceB_all {l : List (List UInt8)} (h : ∀ (i k : Nat) a b, k < i → l[i]? = some a → l[k]? = some b → a ≠ b) : onceB l = true := by
  rw [onceB_iff]
  refine List.pairwise_iff_getElem.mpr fun i j hi hj hij e => ?_
  exact h j i _ _ hij (List.getElem?_eq_getElem hj) (List.getElem?_eq_getElem hi) e.symm
theorem ahead_irrefl : ∀ a : List UInt8, ahead a a = false
  | [] => rfl
  | c :: r => by rw [ahead, if_neg (Nat.lt_irrefl _), if_neg (Nat.lt_irrefl _), ahead_irrefl r]
theorem ahead_trans : ∀ {a b c : List UInt8}, ahead a b = true → ahead b c = true → ahead a c = true
  | a, [], _, h, _ => by cases a <;> simp [ahead] at h
  | _, _ :: _, [], _, h => by simp [ahead] at h
  | [], _ :: _, _ :: _, _, _ => rfl
  | x :: a, y :: b, z :: c, h1, h2 => by
    rw [ahead] at h1 h2 ⊢
    split at h1
    · rename_i hxy
      split at h2
      · rw [if_pos (by omega)]
      · split at h2
        · cases h2
        · rw [if_pos (by omega)]
    · split at h1
      · cases h1
      · rename_i n1 n2
        split at h2
        · rw [if_pos (by omega)]
        · split at h2
          · cases h2
          · rw [if_neg (by omega), if_neg (by omega)]
            exact ahead_trans h1 h2
/-- What rises is there once. -/
theorem rise_once : ∀ {l : List (List UInt8)}, riseB l = true → onceB l = true
  | [], _ => rfl
  | [a], _ => by simp [onceB]
  | a :: b :: r, h => by
    rw [riseB] at h
    obtain ⟨h1, h2⟩ := Bool.and_eq_true_iff.mp h
    rw [onceB, rise_once h2, Bool.and_true, Bool.not_eq_true', ← Bool.not_eq_true]
    intro hc
    have hall : ∀ {l : List (List UInt8)} {x : List UInt8}, riseB (x :: l) = true → ∀ y ∈ l, ahead x y = true := by
      intro l
      induction l with
      | nil => intro x _ y hy; cases hy
      | cons z q ih =>
        intro x hr y hy
        rw [riseB] at hr
        obtain ⟨q1, q2⟩ := Bool.and_eq_true_iff.mp hr
        rcases List.mem_cons.mp hy with rfl | hy
        · exact q1
        · exact ahead_trans q1 (ih q2 y hy)
    have := hall (l := b :: r) (x := a) (by rw [riseB]; exact h) a (by simpa using hc)
    rw [ahead_irrefl] at this
    cases this
end Go.Proofs.YtnbjpeefndcheaaDoor
