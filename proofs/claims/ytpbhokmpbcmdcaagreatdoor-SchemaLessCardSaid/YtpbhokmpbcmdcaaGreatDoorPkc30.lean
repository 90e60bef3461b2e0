/- Several texts in one: RfB, FlLaw. What each proves, and its conditions, stands at its own head. -/
import Derived.Test.YtpbhokmpbcmdcaaGreatDoorPkc28
import Derived.Test.YtpbhokmpbcmdcaaGreatDoorPkc29
import Derived.Test.YtpbhokmpbcmdcaaGreatDoorPkc13
import Derived.Deep.RegionHeld3
/- The document's layer 14: Check, Packed, Hidden, Text of a field. Conditions: those that each theorem names. -/
namespace Go.Proofs.YtpbhokmpbcmdcaaGreatDoor
open Go.RowKit
set_option linter.unusedVariables false
set_option maxRecDepth 100000

theorem ne_not (t : List UInt8) : decide (t ≠ []) = !decide (t = []) := by by_cases h : t = [] <;> simp [h]
theorem rfcheck_any (f : Fd) (w : World) : Calls Tryz.prog 70 #[fdV f] w fun e w' => e = .returned (.int .i64 (fcheckT f)) ∧ Below w.heap.size w w' :=
  rfcheck_core w (strOf f.name) (strOf f.ref) (strOf f.one) f.num f.ty f.rep f.loose (nameB f.name) (nameB f.one) (nameB f.ref) (decide (f.ref = [])) (decide (f.one = [])) (fieldB f.num) (numberT f.ty) (fcheckT f)
    (fun u => rname_any u f.name) (fun u => rname_any u f.one) (fun u => rname_any u f.ref) (fun u => rtagfield_any f.num u) (fun u => rsnumber_any f.ty u) (empty_facts f.ref) (empty_facts f.one)
    (by unfold fcheckT fc1 fc2 fc3 fc4; rw [ne_not f.one, ne_not f.ref])
theorem nameB_len {t : List UInt8} (h : nameB t = true) : t.length ≤ 12 := by
  unfold nameB at h
  simp only [Bool.and_eq_true, decide_eq_true_eq] at h
  exact h.1.1.1.2
theorem fieldB_in {n : Int} (h : fieldB n = true) : 1 ≤ n ∧ n ≤ 536870911 := by
  unfold fieldB at h
  simp only [Bool.and_eq_true] at h
  exact (numOk_iff n).1 h.1
theorem wordT_short (ty : Int) : (wordT ty).length ≤ 8 := by
  unfold wordT
  split
  · rename_i h
    have hc : ty = 1 ∨ ty = 2 ∨ ty = 3 ∨ ty = 4 ∨ ty = 5 ∨ ty = 6 ∨ ty = 7 ∨ ty = 8 ∨ ty = 9 ∨ ty = 10 ∨ ty = 11 ∨ ty = 12 ∨ ty = 13 := by omega
    rcases hc with rfl | rfl | rfl | rfl | rfl | rfl | rfl | rfl | rfl | rfl | rfl | rfl | rfl <;> decide
  · exact Nat.zero_le _
end Go.Proofs.YtpbhokmpbcmdcaaGreatDoor

/- What is asked of the program's layer 14, and its laws. Conditions: those that each theorem names. -/
namespace Go.Proofs.YtpbhokmpbcmdcaaGreatDoor
open Go.RowKit
set_option linter.unusedVariables false
set_option maxRecDepth 100000

/-- A field as it may come in. -/
structure Came (f : Fd) : Prop where
  num : Int64 f.num
  ty : Int64 f.ty
  name : f.name.length ≤ 140737488351232
  ref : f.ref.length ≤ 140737488351232
  one : f.one.length ≤ 140737488351232
def Brief (f : Fd) : Prop := f.name.length + f.ref.length + f.one.length < 1000
/-- What a caller keeps to. -/
def Short (f : Fd) : Prop := f.name.length + f.ref.length + f.one.length < 100000
theorem Brief.short {f : Fd} (h : Brief f) : Short f := by unfold Brief at h; unfold Short; omega
def liveF : Fd := ⟨[97], 1, 1, [], true, false, []⟩
theorem live_check : fcheckT liveF = 0 := fcheck_of (f := liveF) (by decide +kernel) (.inl rfl) (.inr ⟨by decide +kernel, rfl⟩) (by decide +kernel) (by decide) (by decide) (.inr rfl) (.inl rfl)
theorem live_text : ftextT liveF = [114, 101, 112, 101, 97, 116, 101, 100, 32, 105, 110, 116, 51, 50, 32, 97, 32, 61, 32, 49, 59] := by
  unfold ftextT
  rw [if_pos live_check, if_neg (by decide), if_pos (show liveF.rep = true from rfl)]
  unfold ftextB
  rw [show digitsT liveF.num.toNat false = [49] by
    show digitsT 1 false = _
    unfold digitsT
    rw [if_neg (by decide), if_neg (by decide), decOf_pos (by decide), show 1 / 10 = 0 from rfl, decOf_zero]; rfl]
  decide +kernel
theorem bel_next {B : Nat} {w a a' b : World} (h : Below B w a) (hb : Below a'.heap.size a' b) (ho : a'.os = a.os) (ht : a'.tape = a.tape) (hp : a'.output = a.output) (hh : a'.heap = a.heap) (hB : B ≤ a.heap.size) : Below B w b :=
  h.trans ⟨hb.os.trans ho, hb.tape.trans ht, hb.output.trans hp, by have := hb.size; rw [hh] at this; exact this, fun k hk => (hb.block k (by rw [hh]; exact Nat.lt_of_lt_of_le hk hB)).trans (by rw [hh])⟩

end Go.Proofs.YtpbhokmpbcmdcaaGreatDoor
