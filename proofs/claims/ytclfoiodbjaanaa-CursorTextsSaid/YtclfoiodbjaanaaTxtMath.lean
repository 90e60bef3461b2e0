/- Texts one behind the other, each behind its length (no program here); what a cursor reads of them. -/
import Derived.Test.YtclfoiodbjaanaaCurMath
namespace Go.Proofs.Ytclfoiodbjaanaa
open Go.RowKit
open Go.Lib (uvarint)

/-- A length and a text. -/
def putT (t : List UInt8) : List UInt8 := uvarint t.length ++ t
def putTs : List (List UInt8) → List UInt8
  | [] => []
  | t :: ts => putT t ++ putTs ts
theorem putTs_append : ∀ a b, putTs (a ++ b) = putTs a ++ putTs b
  | [], b => rfl
  | t :: a, b => by rw [List.cons_append, putTs, putTs_append a b, putTs, List.append_assoc]
theorem putTs_snoc (ts : List (List UInt8)) (t : List UInt8) : putTs (ts ++ [t]) = putTs ts ++ putT t := by
  rw [putTs_append]
  simp [putTs]
theorem putTs_take (ts : List (List UInt8)) (k : Nat) (h : k < ts.length) : putTs (ts.take (k + 1)) = (putTs (ts.take k) ++ uvarint ts[k].length) ++ ts[k] := by
  rw [List.take_add_one, List.getElem?_eq_getElem h]
  show putTs (ts.take k ++ [ts[k]]) = _
  rw [putTs_snoc, putT, List.append_assoc]
theorem putTs_length : ∀ (ts : List (List UInt8)), (∀ t ∈ ts, t.length ≤ 500) → (putTs ts).length ≤ 510 * ts.length
  | [], _ => Nat.le_refl _
  | t :: ts, h => by
    have h1 := putTs_length ts (fun x hx => h x (by simp [hx]))
    have h2 := h t (by simp)
    have h3 := Go.Lib.uvarint_length64 (x := t.length) (by omega)
    simp only [putTs, putT, List.length_append, List.length_cons]
    omega
theorem tLen_put (n : Nat) (h : n < 18446744073709551616) (rest : List UInt8) (hr : n ≤ rest.length) : tLen (uvarint n ++ rest) = (n, (uvarint n).length) := by
  unfold tLen
  rw [get_put n h]
  dsimp only
  rw [if_neg (by rw [List.length_append]; omega)]
theorem tText_put (t rest : List UInt8) (h : t.length < 18446744073709551616) : tText (putT t ++ rest) = (t, (putT t).length) := by
  unfold tText
  rw [putT, List.append_assoc, tLen_put _ h _ (by simp)]
  dsimp only
  rw [List.drop_append_of_le_length (Nat.le_refl _), List.drop_length, List.nil_append, List.take_append_of_le_length (Nat.le_refl _), List.take_length, List.length_append]
theorem uvarint_pos' (n : Nat) : 0 < (uvarint n).length := Lib.uvarint_pos n

/-- The message that the statement makes: the texts in a frame, and something behind it. -/
def msgOf (ts : List (List UInt8)) (rest : List UInt8) : List UInt8 := (uvarint (putTs ts).length ++ putTs ts) ++ rest
/-- Where the texts begin. -/
def headOf (ts : List (List UInt8)) : Nat := (uvarint (putTs ts).length).length
theorem msg_length (ts : List (List UInt8)) (rest : List UInt8) : (msgOf ts rest).length = headOf ts + (putTs ts).length + rest.length := by
  simp [msgOf, headOf, Nat.add_assoc]
/-- Behind Open, and k texts. -/
def msgAt (ts : List (List UInt8)) (rest : List UInt8) (k : Nat) : St := ⟨headOf ts + (putTs (ts.take k)).length, [headOf ts + (putTs ts).length, (msgOf ts rest).length]⟩
theorem msg_open (ts : List (List UInt8)) (rest : List UInt8) (h : (putTs ts).length < 18446744073709551616) : (St.mk 0 [(msgOf ts rest).length]).opens (msgOf ts rest) = msgAt ts rest 0 := by
  have hs : segOf (msgOf ts rest) 0 (msgOf ts rest).length = uvarint (putTs ts).length ++ (putTs ts ++ rest) := by
    unfold segOf
    rw [List.take_length]
    simp [msgOf]
  have ht := tLen_put _ h (putTs ts ++ rest) (by simp)
  have hp := uvarint_pos' (putTs ts).length
  unfold St.opens
  dsimp only
  rw [hs, ht]
  dsimp only
  rw [if_neg (by omega)]
  simp [msgAt, headOf, putTs]
theorem seg_mid (u a b rest : List UInt8) : segOf ((u ++ (a ++ b)) ++ rest) (u.length + a.length) (u.length + (a ++ b).length) = b := by
  unfold segOf
  rw [List.take_append_of_le_length (by simp), List.take_of_length_le (by simp), ← List.append_assoc, List.drop_append_of_le_length (by simp), List.drop_of_length_le (by simp), List.nil_append]
theorem msg_seg (ts : List (List UInt8)) (rest : List UInt8) (k : Nat) : segOf (msgOf ts rest) (headOf ts + (putTs (ts.take k)).length) (headOf ts + (putTs ts).length) = putTs (ts.drop k) := by
  have e : putTs ts = putTs (ts.take k) ++ putTs (ts.drop k) := by rw [← putTs_append, List.take_append_drop]
  have h := seg_mid (uvarint (putTs ts).length) (putTs (ts.take k)) (putTs (ts.drop k)) rest
  rw [← e] at h
  exact h
theorem msg_text (ts : List (List UInt8)) (rest : List UInt8) (k : Nat) (hk : k < ts.length) (h : ts[k].length < 18446744073709551616) :
    (msgAt ts rest k).rd tText [] (msgOf ts rest) = (ts[k], msgAt ts rest (k + 1)) := by
  have hd : ts.drop k = ts[k] :: ts.drop (k + 1) := List.drop_eq_getElem_cons hk
  have hp := uvarint_pos' ts[k].length
  unfold St.rd
  show (if (tText (segOf _ (headOf ts + (putTs (ts.take k)).length) (headOf ts + (putTs ts).length))).2 = 0 then _ else _) = _
  dsimp only [msgAt]
  rw [msg_seg, hd, putTs, tText_put _ _ h]
  dsimp only
  have hpos : (putT ts[k]).length ≠ 0 := by rw [putT, List.length_append]; omega
  rw [if_neg hpos]
  have e := putTs_take ts k hk
  rw [e, putT]
  simp [List.length_append, Nat.add_assoc]
theorem msg_more (ts : List (List UInt8)) (rest : List UInt8) (k : Nat) : (msgAt ts rest k).more = decide (k < ts.length) := by
  show decide (headOf ts + (putTs (ts.take k)).length < headOf ts + (putTs ts).length) = _
  by_cases hk : k < ts.length
  · have hd : ts.drop k = ts[k] :: ts.drop (k + 1) := List.drop_eq_getElem_cons hk
    have hp := uvarint_pos' ts[k].length
    have h1 : (putTs ts).length = (putTs (ts.take k)).length + (putTs (ts.drop k)).length := by
      rw [← List.length_append, ← putTs_append, List.take_append_drop]
    rw [hd, putTs, List.length_append, putT, List.length_append] at h1
    rw [decide_eq_true (by omega), decide_eq_true hk]
  · rw [List.take_of_length_le (by omega), decide_eq_false (by omega), decide_eq_false hk]
theorem msg_shuts (ts : List (List UInt8)) (rest : List UInt8) : (msgAt ts rest ts.length).shuts = (true, ⟨headOf ts + (putTs ts).length, [(msgOf ts rest).length]⟩) := by
  unfold St.shuts msgAt
  rw [List.take_length]
  dsimp only
  rw [if_pos rfl]
theorem msg_rest (ts : List (List UInt8)) (rest : List UInt8) : (St.mk (headOf ts + (putTs ts).length) [(msgOf ts rest).length]).more = decide (0 < rest.length) := by
  show decide (headOf ts + (putTs ts).length < (msgOf ts rest).length) = _
  rw [msg_length]
  by_cases h : 0 < rest.length
  · rw [decide_eq_true (by omega), decide_eq_true h]
  · rw [decide_eq_false (by omega), decide_eq_false h]
end Go.Proofs.Ytclfoiodbjaanaa
