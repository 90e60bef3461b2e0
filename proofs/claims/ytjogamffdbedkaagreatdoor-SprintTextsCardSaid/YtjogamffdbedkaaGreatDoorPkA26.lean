/- Several texts in one: LwM. What each proves, and its conditions, stands at its own head. -/
import Derived.Test.YtjogamffdbedkaaGreatDoorPkA20
import Derived.Test.YtjogamffdbedkaaGreatDoorPkA4
import Derived.Lib.ParseIntB
import Derived.Lib.ReplaceLaws
import Derived.Lib.IndexMore
import Derived.Lib.ItoaNum
import Derived.Lib.Strings
/- Layer 10 in plain words (no program here): the program's way of reading (by the library's Index, Cut, ParseUint, FormatUint, ReplaceAll), held against the document's. Conditions: those that each theorem names. -/
namespace Go.Proofs.YtjogamffdbedkaaGreatDoor
set_option linter.unusedVariables false

/- what is passed over -/
/- by places -/
section
variable {t acc : List UInt8} {k : Nat} {c : UInt8}
end
/- names -/
/- numbers -/
section
variable {c : UInt8} {r : List UInt8}
end
/- texts -/
section
variable {t o : List UInt8} {i : Nat} {c : UInt8}
end
/- quotes, digits -/
theorem dec_lib : ∀ (k n : Nat), n ≤ k → n ≠ 0 → Lib.decDigits n = decOf n
  | 0, n, h, h0 => absurd (Nat.le_zero.1 h) h0
  | k + 1, n, h, h0 => by
    rw [Lib.decDigits, decOf_pos h0]
    by_cases h10 : n < 10
    · rw [dif_pos h10, show n / 10 = 0 by omega, decOf_zero, show n % 10 = n by omega]; rfl
    · rw [dif_neg h10, dec_lib k (n / 10) (by omega) (by omega)]
theorem digitsT_lib (n : Nat) (neg : Bool) : digitsT n neg = if (neg && decide (n ≠ 0)) = true then 45 :: Lib.decDigits n else Lib.decDigits n := by
  unfold digitsT
  by_cases h : n = 0
  · subst h
    rw [if_pos rfl, decide_eq_false (fun h => h rfl), Bool.and_false, if_neg (by decide), Lib.decDigits, dif_pos (by decide)]; rfl
  · rw [if_neg h, decide_eq_true h, Bool.and_true, dec_lib n n (Nat.le_refl _) h]
end Go.Proofs.YtjogamffdbedkaaGreatDoor
