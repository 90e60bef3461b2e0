/- Layer 10 in plain words (no program here): what is passed over, how long a name is, digits, quotes, numbers, texts, tokens. -/
import Derived.Test.YtnbjpeefndcheaaDoorRiC
namespace Go.Proofs.YtnbjpeefndcheaaDoor
set_option linter.unusedVariables false

def digitB (c : UInt8) : Bool := decide (48 ≤ c.toNat) && decide (c.toNat ≤ 57)
def nameCh (c : UInt8) : Bool := letterB c || (digitB c || decide (c.toNat = 95))
def markB (c : UInt8) : Bool := decide (c.toNat = 123 ∨ c.toNat = 125 ∨ c.toNat = 40 ∨ c.toNat = 41 ∨ c.toNat = 61 ∨ c.toNat = 44 ∨ c.toNat = 46 ∨ c.toNat = 59)
def blankB (c : UInt8) : Bool := decide (c.toNat = 32 ∨ c.toNat = 10 ∨ c.toNat = 9)
/-- How long a name is. -/
def wordRun : List UInt8 → Nat
  | [] => 0
  | c :: r => if nameCh c = true then wordRun r + 1 else 0
def wordN : List UInt8 → Nat
  | [] => 0
  | c :: r => if letterB c = true then wordRun r + 1 else 0
def wordAt (n : Nat) (t : List UInt8) : Nat := if n = 0 then wordN t else wordRun t
theorem wordRun_le : ∀ t, wordRun t ≤ t.length
  | [] => Nat.le_refl _
  | c :: r => by
    have := wordRun_le r
    unfold wordRun
    split
    · simp; omega
    · simp
theorem wordN_le : ∀ t, wordN t ≤ t.length
  | [] => Nat.le_refl _
  | c :: r => by
    have := wordRun_le r
    show (if letterB c = true then wordRun r + 1 else 0) ≤ r.length + 1
    split <;> omega
/-- Is the byte at n of a name? -/
def wordOk (n : Nat) (c : UInt8) : Bool := letterB c || (decide (0 < n) && (digitB c || decide (c.toNat = 95)))
theorem wordAt_cons (n : Nat) (c : UInt8) (r : List UInt8) : wordAt n (c :: r) = if wordOk n c = true then wordAt (n + 1) r + 1 else 0 := by
  by_cases h : n = 0
  · subst h
    show wordN (c :: r) = if wordOk 0 c = true then wordRun r + 1 else 0
    rw [wordN]
    simp [wordOk]
  · have e1 : wordAt n (c :: r) = wordRun (c :: r) := by unfold wordAt; rw [if_neg h]
    have e2 : wordAt (n + 1) r = wordRun r := by unfold wordAt; rw [if_neg (Nat.succ_ne_zero n)]
    rw [e1, e2, wordRun]
    simp [wordOk, nameCh, show 0 < n by omega]
/-- How many bytes are passed over; first: within a comment or not. -/
def passM : Bool → List UInt8 → Nat
  | _, [] => 0
  | true, c :: r => if c.toNat = 10 then passM false r + 1 else passM true r + 1
  | false, c :: r => if blankB c = true then passM false r + 1 else if c.toNat = 47 ∧ r.head?.map UInt8.toNat = some 47 then passM true r + 1 else 0
theorem passM_le : ∀ b t, passM b t ≤ t.length
  | _, [] => by simp [passM]
  | true, c :: r => by
    have h1 := passM_le true r
    have h2 := passM_le false r
    unfold passM
    split
    · simp; omega
    · simp; omega
  | false, c :: r => by
    have h1 := passM_le true r
    have h2 := passM_le false r
    unfold passM
    split
    · simp; omega
    · split
      · simp; omega
      · simp
/-- A number's digits. -/
def decOf (n : Nat) : List UInt8 := if h : n = 0 then [] else decOf (n / 10) ++ [(48 + n % 10).toUInt8]
termination_by n
decreasing_by omega
def digitsT (n : Nat) (neg : Bool) : List UInt8 := if n = 0 then [48] else if neg = true then 45 :: decOf n else decOf n
theorem decOf_zero : decOf 0 = [] := by rw [decOf]; rfl
theorem decOf_pos {n : Nat} (h : n ≠ 0) : decOf n = decOf (n / 10) ++ [(48 + n % 10).toUInt8] := by
  conv => lhs; rw [decOf]
  rw [dif_neg h]
theorem decOf_length : ∀ (k n : Nat), n < 10 ^ k → (decOf n).length ≤ k
  | 0, n, h => by
    have : n = 0 := by simpa using h
    subst this
    rw [decOf_zero]; exact Nat.le_refl _
  | k + 1, n, h => by
    by_cases h0 : n = 0
    · subst h0; rw [decOf_zero]; exact Nat.zero_le _
    · rw [decOf_pos h0, List.length_append]
      have := decOf_length k (n / 10) (by rw [Nat.pow_succ] at h; omega)
      simp; omega
theorem decOf_len64 {n : Nat} (h : n < 18446744073709551616) : (decOf n).length ≤ 20 := decOf_length 20 n (by omega)
/-- A text, quoted. -/
def quoteC (c : UInt8) : List UInt8 := if c.toNat = 39 then [39, c] else [c]
def quoteB (s : List UInt8) : List UInt8 := s.flatMap quoteC
def quoteT (s : List UInt8) : List UInt8 := 39 :: quoteB s ++ [39]
theorem quoteB_take {s : List UInt8} {k : Nat} {c : UInt8} (h : s[k]? = some c) : quoteB (s.take (k + 1)) = quoteB (s.take k) ++ quoteC c := by
  rw [List.take_add_one, h]
  simp [quoteB]
theorem quoteB_length : ∀ s : List UInt8, (quoteB s).length ≤ 2 * s.length
  | [] => Nat.le_refl _
  | c :: r => by
    have := quoteB_length r
    show ((quoteC c) ++ quoteB r).length ≤ _
    rw [List.length_append, List.length_cons]
    unfold quoteC
    split
    · simp; omega
    · simp; omega

theorem wrap64_in2 (n : Int) (h : -9223372036854775808 ≤ n ∧ n ≤ 9223372036854775807) : Go.RowKit.wrap64 n = n := by unfold Go.RowKit.wrap64; omega
theorem strOf_append (a b : List UInt8) : strOf a ++ strOf b = strOf (a ++ b) := by
  apply ByteArray.ext
  rw [ByteArray.data_append]
  simp [strOf]
theorem strOf_extract (t : List UInt8) (i j : Nat) : (strOf t).extract i j = strOf ((t.take j).drop i) := by
  apply ByteArray.ext
  rw [ByteArray.data_extract]
  simp [strOf, List.extract_toArray, List.extract_eq_take_drop, List.drop_take]
theorem drop_get {t : List UInt8} {n : Nat} {c : UInt8} (h : t[n]? = some c) : t.drop n = c :: t.drop (n + 1) := by
  obtain ⟨h1, rfl⟩ := List.getElem?_eq_some_iff.mp h
  exact List.drop_eq_getElem_cons h1
end Go.Proofs.YtnbjpeefndcheaaDoor
