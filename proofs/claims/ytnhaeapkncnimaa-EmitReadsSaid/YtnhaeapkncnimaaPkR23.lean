/- Several texts in one: CurMath, CurOp, TxtMath, EmRdM. What each proves, and its conditions, stands at its own head. -/
import Derived.Test.YtnhaeapkncnimaaPkR22
import Derived.Test.YtnhaeapkncnimaaPkR12
import Derived.Test.YtnhaeapkncnimaaPkR0
/- Layer 5 in plain words (no program here): a cursor's place and its frames (the innermost one first; none: it failed), and what each call reads. -/
namespace Go.Proofs.Ytnhaeapkncnimaa
open Go.RowKit
open Go.Lib (uvarint)

structure St where
  at_ : Nat
  fr : List Nat
def St.none : St := ⟨0, []⟩

/-- The bytes from the place on, up to the innermost frame's end. -/
def segOf (bs : List UInt8) (i l : Nat) : List UInt8 := (bs.take l).drop i
theorem segOf_length {bs : List UInt8} {i l : Nat} (h : l ≤ bs.length) : (segOf bs i l).length = l - i := by
  simp [segOf]; omega

/-- How many bytes are read: 0: it fails. -/
def St.on (s : St) (k : Nat) : St := if k = 0 then St.none else ⟨s.at_ + k, s.fr⟩
def St.rd {α : Type} (take : List UInt8 → α × Nat) (z : α) (bs : List UInt8) (s : St) : α × St :=
  match s.fr with
  | [] => (z, s)
  | l :: _ => if (take (segOf bs s.at_ l)).2 = 0 then (z, St.none) else ((take (segOf bs s.at_ l)).1, ⟨s.at_ + (take (segOf bs s.at_ l)).2, s.fr⟩)

def tVar (b : List UInt8) : Nat × Nat := getFrom 0 0 b
def tFix (k : Nat) (b : List UInt8) : Nat × Nat := (getN k b, if isN k b = true then k else 0)
def tLen (b : List UInt8) : Nat × Nat := if b.length - (getFrom 0 0 b).2 < (getFrom 0 0 b).1 then (0, 0) else getFrom 0 0 b
def tText (b : List UInt8) : List UInt8 × Nat := ((b.drop (tLen b).2).take (tLen b).1, (tLen b).2 + (tLen b).1)
def tTag (b : List UInt8) : (Nat × Nat) × Nat := ((splitN (getFrom 0 0 b).1, splitW (getFrom 0 0 b).1), if splitOk (getFrom 0 0 b).1 = true then (getFrom 0 0 b).2 else 0)

theorem tVar_le (b : List UInt8) : (tVar b).2 ≤ b.length := getFrom_le b
theorem tVar_lt (b : List UInt8) : (tVar b).1 < 18446744073709551616 := getFrom_u64 b
theorem tFix_le (k : Nat) (b : List UInt8) : (tFix k b).2 ≤ b.length := by
  unfold tFix isN
  by_cases h : k ≤ b.length <;> simp [h]
theorem getFrom_none : ∀ (l : List UInt8) (i acc : Nat), (getFrom i acc l).2 = 0 → (getFrom i acc l).1 = 0
  | [], _, _, _ => rfl
  | c :: cs, i, acc, h => by
    unfold getFrom at h ⊢
    split
    · rfl
    · rename_i h1
      rw [if_neg h1] at h
      split
      · rename_i h2
        rw [if_pos h2] at h
        simp at h
      · rename_i h2
        rw [if_neg h2] at h
        exact getFrom_none cs _ _ h
theorem getFrom_zero (b : List UInt8) (h : (getFrom 0 0 b).2 = 0) : (getFrom 0 0 b).1 = 0 := getFrom_none b 0 0 h
theorem tLen_sum (b : List UInt8) : (tLen b).2 + (tLen b).1 ≤ b.length := by
  have h := getFrom_le b
  unfold tLen
  split
  · simp
  · omega
theorem tLen_zero (b : List UInt8) (h : (tLen b).2 = 0) : (tLen b).1 = 0 := by
  revert h
  unfold tLen
  split
  · simp
  · exact getFrom_zero b
theorem tTag_zero (b : List UInt8) (h : (tTag b).2 = 0) : (tTag b).1 = (0, 0) := by
  revert h
  unfold tTag
  dsimp only
  split
  · intro h
    rename_i hok
    rw [getFrom_zero b h] at hok
    exact absurd hok (by decide)
  · rename_i hok
    intro _
    simp [splitN, splitW, hok]
theorem tText_le (b : List UInt8) : (tText b).2 ≤ b.length := tLen_sum b
theorem tTag_le (b : List UInt8) : (tTag b).2 ≤ b.length := by
  have h := getFrom_le b
  unfold tTag
  dsimp only
  split <;> omega

/-- What a cursor that did not fail keeps to. -/
def Right (bs : List UInt8) (s : St) : Prop := match s.fr with
  | [] => s.at_ = 0
  | l :: r => s.at_ ≤ l ∧ l ≤ bs.length ∧ List.Pairwise (· ≤ ·) (l :: r) ∧ (∀ e ∈ r, e ≤ bs.length) ∧ r.length ≤ s.at_
theorem right_none (bs : List UInt8) : Right bs St.none := rfl
theorem right_start (bs : List UInt8) : Right bs ⟨0, [bs.length]⟩ := ⟨Nat.zero_le _, Nat.le_refl _, by simp, by simp, Nat.le_refl _⟩
theorem right_rd {α : Type} {take : List UInt8 → α × Nat} {z : α} {bs : List UInt8} {s : St} (h : Right bs s) (ht : ∀ b, (take b).2 ≤ b.length) : Right bs (s.rd take z bs).2 := by
  obtain ⟨i, fr⟩ := s
  cases fr with
  | nil => exact h
  | cons l r =>
    obtain ⟨h1, h2, h3, h4, h5⟩ := h
    have := ht (segOf bs i l)
    rw [segOf_length h2] at this
    unfold St.rd
    dsimp only at *
    split
    · exact right_none bs
    · exact ⟨by dsimp only; omega, h2, h3, h4, by dsimp only; omega⟩

def St.opens (bs : List UInt8) (s : St) : St := match s.fr with
  | [] => s
  | l :: r => if (tLen (segOf bs s.at_ l)).2 = 0 then St.none else ⟨s.at_ + (tLen (segOf bs s.at_ l)).2, (s.at_ + (tLen (segOf bs s.at_ l)).2 + (tLen (segOf bs s.at_ l)).1) :: l :: r⟩
def St.oks (s : St) : Bool := !s.fr.isEmpty
theorem right_opens {bs : List UInt8} {s : St} (h : Right bs s) : Right bs (s.opens bs) := by
  obtain ⟨i, fr⟩ := s
  cases fr with
  | nil => exact h
  | cons l r =>
    obtain ⟨h1, h2, h3, h4, h5⟩ := h
    have := tLen_sum (segOf bs i l)
    rw [segOf_length h2] at this
    unfold St.opens
    dsimp only at *
    split
    · exact right_none bs
    · refine ⟨by dsimp only; omega, by omega, List.pairwise_cons.2 ⟨fun e he => ?_, h3⟩, fun e he => ?_, by simp only [List.length_cons]; omega⟩
      · rcases List.mem_cons.1 he with rfl | he
        · omega
        · have := (List.pairwise_cons.1 h3).1 e he; omega
      · rcases List.mem_cons.1 he with rfl | he
        · exact h2
        · exact h4 e he
def St.shuts (s : St) : Bool × St := match s.fr with
  | l :: l2 :: r => if s.at_ = l then (true, ⟨s.at_, l2 :: r⟩) else (false, s)
  | _ => (false, s)
theorem right_shuts {bs : List UInt8} {s : St} (h : Right bs s) : Right bs s.shuts.2 := by
  obtain ⟨i, fr⟩ := s
  match fr, h with
  | [], h => exact h
  | [l], h => exact h
  | l :: l2 :: r, h =>
    obtain ⟨h1, h2, h3, h4, h5⟩ := h
    unfold St.shuts
    dsimp only at *
    split
    · have h6 := List.pairwise_cons.1 h3
      have := h6.1 l2 (by simp)
      exact ⟨by dsimp only; omega, h4 l2 (by simp), h6.2, fun e he => h4 e (by simp [he]), by simp only [List.length_cons] at h5; dsimp only; omega⟩
    · exact ⟨h1, h2, h3, h4, h5⟩
def St.more (s : St) : Bool := match s.fr with
  | [] => false
  | l :: _ => decide (s.at_ < l)
end Go.Proofs.Ytnhaeapkncnimaa

/- Plain words: open is a length read. -/
namespace Go.Proofs.Ytnhaeapkncnimaa

theorem opens_rd {bs : List UInt8} {s : St} : s.opens bs = match (s.rd tLen 0 bs).2.fr with
    | [] => (s.rd tLen 0 bs).2
    | l :: r => ⟨(s.rd tLen 0 bs).2.at_, ((s.rd tLen 0 bs).2.at_ + (s.rd tLen 0 bs).1) :: l :: r⟩ := by
  obtain ⟨i, fr⟩ := s
  cases fr with
  | nil => rfl
  | cons l r =>
    unfold St.opens St.rd
    dsimp only
    split <;> rfl
end Go.Proofs.Ytnhaeapkncnimaa

/- Texts one behind the other, each behind its length (no program here); what a cursor reads of them. -/
namespace Go.Proofs.Ytnhaeapkncnimaa
open Go.RowKit
open Go.Lib (uvarint)

/-- A length and a text. -/
def putT (t : List UInt8) : List UInt8 := uvarint t.length ++ t
def putTs : List (List UInt8) → List UInt8
  | [] => []
  | t :: ts => putT t ++ putTs ts
theorem putTs_append : ∀ a b, putTs (a ++ b) = putTs a ++ putTs b
  | [], b => rfl
  | t :: a, b => by rw [List.cons_append, putTs, putTs_append a b, putTs, List.append_assoc]
theorem putTs_snoc (ts : List (List UInt8)) (t : List UInt8) : putTs (ts ++ [t]) = putTs ts ++ putT t := by
  rw [putTs_append]
  simp [putTs]
theorem putTs_take (ts : List (List UInt8)) (k : Nat) (h : k < ts.length) : putTs (ts.take (k + 1)) = (putTs (ts.take k) ++ uvarint ts[k].length) ++ ts[k] := by
  rw [List.take_add_one, List.getElem?_eq_getElem h]
  show putTs (ts.take k ++ [ts[k]]) = _
  rw [putTs_snoc, putT, List.append_assoc]
theorem putTs_length : ∀ (ts : List (List UInt8)), (∀ t ∈ ts, t.length ≤ 500) → (putTs ts).length ≤ 510 * ts.length
  | [], _ => Nat.le_refl _
  | t :: ts, h => by
    have h1 := putTs_length ts (fun x hx => h x (by simp [hx]))
    have h2 := h t (by simp)
    have h3 := Go.Lib.uvarint_length64 (x := t.length) (by omega)
    simp only [putTs, putT, List.length_append, List.length_cons]
    omega
theorem tLen_put (n : Nat) (h : n < 18446744073709551616) (rest : List UInt8) (hr : n ≤ rest.length) : tLen (uvarint n ++ rest) = (n, (uvarint n).length) := by
  unfold tLen
  rw [get_put n h]
  dsimp only
  rw [if_neg (by rw [List.length_append]; omega)]
theorem tText_put (t rest : List UInt8) (h : t.length < 18446744073709551616) : tText (putT t ++ rest) = (t, (putT t).length) := by
  unfold tText
  rw [putT, List.append_assoc, tLen_put _ h _ (by simp)]
  dsimp only
  rw [List.drop_append_of_le_length (Nat.le_refl _), List.drop_length, List.nil_append, List.take_append_of_le_length (Nat.le_refl _), List.take_length, List.length_append]
theorem uvarint_pos' (n : Nat) : 0 < (uvarint n).length := Lib.uvarint_pos n

/-- The message that the statement makes: the texts in a frame, and something behind it. -/
def msgOf (ts : List (List UInt8)) (rest : List UInt8) : List UInt8 := (uvarint (putTs ts).length ++ putTs ts) ++ rest
/-- Where the texts begin. -/
def headOf (ts : List (List UInt8)) : Nat := (uvarint (putTs ts).length).length
theorem msg_length (ts : List (List UInt8)) (rest : List UInt8) : (msgOf ts rest).length = headOf ts + (putTs ts).length + rest.length := by
  simp [msgOf, headOf, Nat.add_assoc]
/-- Behind Open, and k texts. -/
def msgAt (ts : List (List UInt8)) (rest : List UInt8) (k : Nat) : St := ⟨headOf ts + (putTs (ts.take k)).length, [headOf ts + (putTs ts).length, (msgOf ts rest).length]⟩
theorem msg_open (ts : List (List UInt8)) (rest : List UInt8) (h : (putTs ts).length < 18446744073709551616) : (St.mk 0 [(msgOf ts rest).length]).opens (msgOf ts rest) = msgAt ts rest 0 := by
  have hs : segOf (msgOf ts rest) 0 (msgOf ts rest).length = uvarint (putTs ts).length ++ (putTs ts ++ rest) := by
    unfold segOf
    rw [List.take_length]
    simp [msgOf]
  have ht := tLen_put _ h (putTs ts ++ rest) (by simp)
  have hp := uvarint_pos' (putTs ts).length
  unfold St.opens
  dsimp only
  rw [hs, ht]
  dsimp only
  rw [if_neg (by omega)]
  simp [msgAt, headOf, putTs]
theorem seg_mid (u a b rest : List UInt8) : segOf ((u ++ (a ++ b)) ++ rest) (u.length + a.length) (u.length + (a ++ b).length) = b := by
  unfold segOf
  rw [List.take_append_of_le_length (by simp), List.take_of_length_le (by simp), ← List.append_assoc, List.drop_append_of_le_length (by simp), List.drop_of_length_le (by simp), List.nil_append]
theorem msg_seg (ts : List (List UInt8)) (rest : List UInt8) (k : Nat) : segOf (msgOf ts rest) (headOf ts + (putTs (ts.take k)).length) (headOf ts + (putTs ts).length) = putTs (ts.drop k) := by
  have e : putTs ts = putTs (ts.take k) ++ putTs (ts.drop k) := by rw [← putTs_append, List.take_append_drop]
  have h := seg_mid (uvarint (putTs ts).length) (putTs (ts.take k)) (putTs (ts.drop k)) rest
  rw [← e] at h
  exact h
theorem msg_text (ts : List (List UInt8)) (rest : List UInt8) (k : Nat) (hk : k < ts.length) (h : ts[k].length < 18446744073709551616) :
    (msgAt ts rest k).rd tText [] (msgOf ts rest) = (ts[k], msgAt ts rest (k + 1)) := by
  have hd : ts.drop k = ts[k] :: ts.drop (k + 1) := List.drop_eq_getElem_cons hk
  have hp := uvarint_pos' ts[k].length
  unfold St.rd
  show (if (tText (segOf _ (headOf ts + (putTs (ts.take k)).length) (headOf ts + (putTs ts).length))).2 = 0 then _ else _) = _
  dsimp only [msgAt]
  rw [msg_seg, hd, putTs, tText_put _ _ h]
  dsimp only
  have hpos : (putT ts[k]).length ≠ 0 := by rw [putT, List.length_append]; omega
  rw [if_neg hpos]
  have e := putTs_take ts k hk
  rw [e, putT]
  simp [List.length_append, Nat.add_assoc]
theorem msg_more (ts : List (List UInt8)) (rest : List UInt8) (k : Nat) : (msgAt ts rest k).more = decide (k < ts.length) := by
  show decide (headOf ts + (putTs (ts.take k)).length < headOf ts + (putTs ts).length) = _
  by_cases hk : k < ts.length
  · have hd : ts.drop k = ts[k] :: ts.drop (k + 1) := List.drop_eq_getElem_cons hk
    have hp := uvarint_pos' ts[k].length
    have h1 : (putTs ts).length = (putTs (ts.take k)).length + (putTs (ts.drop k)).length := by
      rw [← List.length_append, ← putTs_append, List.take_append_drop]
    rw [hd, putTs, List.length_append, putT, List.length_append] at h1
    rw [decide_eq_true (by omega), decide_eq_true hk]
  · rw [List.take_of_length_le (by omega), decide_eq_false (by omega), decide_eq_false hk]
theorem msg_shuts (ts : List (List UInt8)) (rest : List UInt8) : (msgAt ts rest ts.length).shuts = (true, ⟨headOf ts + (putTs ts).length, [(msgOf ts rest).length]⟩) := by
  unfold St.shuts msgAt
  rw [List.take_length]
  dsimp only
  rw [if_pos rfl]
theorem msg_rest (ts : List (List UInt8)) (rest : List UInt8) : (St.mk (headOf ts + (putTs ts).length) [(msgOf ts rest).length]).more = decide (0 < rest.length) := by
  show decide (headOf ts + (putTs ts).length < (msgOf ts rest).length) = _
  rw [msg_length]
  by_cases h : 0 < rest.length
  · rw [decide_eq_true (by omega), decide_eq_true h]
  · rw [decide_eq_false (by omega), decide_eq_false h]
end Go.Proofs.Ytnhaeapkncnimaa

/- Plain words (no program here): frames within one another, and what a cursor reads of them. -/
namespace Go.Proofs.Ytnhaeapkncnimaa
open Go.Lib (uvarint)
set_option linter.unusedVariables false

/-- A field that is bytes. -/
def frB (num : Int) (b : List UInt8) : List UInt8 := uvarint (tagN num 2) ++ (uvarint b.length ++ b)
/-- Frames k+1 to k+d, in one another, around b. -/
def nest : Nat → Nat → List UInt8 → List UInt8
  | 0, _, b => b
  | d + 1, k, b => frB ((k : Int) + 1) (nest d (k + 1) b)
def flds : List (List UInt8) → List UInt8
  | [] => []
  | t :: r => frB 7 t ++ flds r
theorem flds_append : ∀ a b, flds (a ++ b) = flds a ++ flds b
  | [], b => rfl
  | t :: a, b => by rw [List.cons_append, flds, flds_append a b, flds, List.append_assoc]
theorem flds_take {ts : List (List UInt8)} {k : Nat} {t : List UInt8} (h : ts[k]? = some t) : flds (ts.take (k + 1)) = flds (ts.take k) ++ frB 7 t := by
  rw [List.take_add_one, h]
  show flds (ts.take k ++ [t]) = _
  rw [flds_append, flds, flds, List.append_nil]
theorem flds_drop {ts : List (List UInt8)} {k : Nat} {t : List UInt8} (h : ts[k]? = some t) : flds (ts.drop k) = uvarint (tagN 7 2) ++ (uvarint t.length ++ (t ++ flds (ts.drop (k + 1)))) := by
  obtain ⟨hk, rfl⟩ := List.getElem?_eq_some_iff.mp h
  rw [List.drop_eq_getElem_cons hk, flds, frB, List.append_assoc, List.append_assoc]
theorem tag_len' (num wire : Int) : (uvarint (tagN num wire)).length ≤ 10 := Lib.uvarint_length64 (by have := tagN_lt num wire; omega)
theorem frB_length (num : Int) (b : List UInt8) (hb : b.length < 18446744073709551616) : (frB num b).length ≤ b.length + 20 := by
  have h1 := tag_len' num 2
  have h2 := Lib.uvarint_length64 hb
  rw [frB, List.length_append, List.length_append]; omega
theorem flds_length : ∀ (ts : List (List UInt8)), (∀ t ∈ ts, t.length ≤ 300) → (flds ts).length ≤ 320 * ts.length
  | [], _ => Nat.le_refl _
  | t :: r, h => by
    have h1 := flds_length r (fun x hx => h x (by simp [hx]))
    have h2 := h t (by simp)
    have h3 := frB_length 7 t (by omega)
    rw [flds, List.length_append, List.length_cons]; omega
theorem nest_length (b : List UInt8) (hb : b.length ≤ 10000) : ∀ d k, d ≤ 9 → (nest d k b).length ≤ b.length + 20 * d
  | 0, _, _ => Nat.le_refl _
  | d + 1, k, h => by
    have h1 := nest_length b hb d (k + 1) (by omega)
    have h2 := frB_length ((k : Int) + 1) (nest d (k + 1) b) (by omega)
    rw [nest]; omega
/-- One frame more, from within. -/
theorem nest_out (b : List UInt8) (d k : Nat) : frB ((k : Int) + 1) (nest d (k + 1) b) = nest (d + 1) k b := rfl

/-- A cursor that has so much ahead, in i + 1 frames that end where the bytes end. -/
structure Ahead (bs : List UInt8) (i : Nat) (rest : List UInt8) (s : St) : Prop where
  fr : s.fr = List.replicate (i + 1) bs.length
  drop : bs.drop s.at_ = rest
  len : s.at_ + rest.length = bs.length
theorem ahead_start (bs : List UInt8) : Ahead bs 0 bs ⟨0, [bs.length]⟩ := ⟨rfl, rfl, by simp⟩
section
variable {bs rest : List UInt8} {i : Nat} {s : St}
theorem Ahead.seg (h : Ahead bs i rest s) : segOf bs s.at_ bs.length = rest := by unfold segOf; rw [List.take_length]; exact h.drop
theorem Ahead.on {a r : List UInt8} (h : Ahead bs i (a ++ r) s) : Ahead bs i r ⟨s.at_ + a.length, s.fr⟩ := by
  refine ⟨h.fr, ?_, ?_⟩
  · show bs.drop (s.at_ + a.length) = r
    rw [← List.drop_drop, h.drop, List.drop_left]
  · have := h.len
    rw [List.length_append] at this
    show s.at_ + a.length + r.length = _
    omega
theorem Ahead.rd {α : Type} {take : List UInt8 → α × Nat} {z v : α} {a r : List UInt8} (h : Ahead bs i (a ++ r) s) (ht : take (a ++ r) = (v, a.length)) (ha : a.length ≠ 0) : (s.rd take z bs).1 = v ∧ Ahead bs i r (s.rd take z bs).2 := by
  have hs := h.seg
  have e : s.rd take z bs = (v, ⟨s.at_ + a.length, s.fr⟩) := by
    unfold St.rd
    rw [h.fr]
    show (if (take (segOf bs s.at_ bs.length)).2 = 0 then _ else _) = _
    rw [hs, ht]
    show (if a.length = 0 then _ else _) = _
    rw [if_neg ha, ← h.fr]
  rw [e]
  exact ⟨rfl, h.on⟩
theorem Ahead.tag {num : Int} {r : List UInt8} (h : Ahead bs i (uvarint (tagN num 2) ++ r) s) (hr : rightB num 2 = true) : ((s.rd tTag (0, 0) bs).1.1 : Int) = num ∧ ((s.rd tTag (0, 0) bs).1.2 : Int) = 2 ∧ Ahead bs i r (s.rd tTag (0, 0) bs).2 := by
  obtain ⟨h1, h2, h3⟩ := split_tag num 2 hr
  have hg := get_put (tagN num 2) (by have := tagN_lt num 2; omega) r
  have ht : tTag (uvarint (tagN num 2) ++ r) = ((splitN (tagN num 2), splitW (tagN num 2)), (uvarint (tagN num 2)).length) := by
    unfold tTag
    rw [hg]
    dsimp only
    rw [if_pos h1]
  have hp := uvarint_pos' (tagN num 2)
  obtain ⟨q1, q2⟩ := h.rd (z := (0, 0)) ht (by omega)
  rw [q1]
  exact ⟨h2, h3, q2⟩
theorem Ahead.text {t r : List UInt8} (h : Ahead bs i (uvarint t.length ++ (t ++ r)) s) (ht : t.length < 18446744073709551616) : (s.rd tText [] bs).1 = t ∧ Ahead bs i r (s.rd tText [] bs).2 := by
  rw [← List.append_assoc] at h
  have hp := uvarint_pos' t.length
  exact h.rd (z := []) (tText_put t r ht) (by rw [List.length_append]; omega)
theorem Ahead.opens {b : List UInt8} (h : Ahead bs i (uvarint b.length ++ b) s) (hb : b.length < 18446744073709551616) : (s.opens bs).oks = true ∧ Ahead bs (i + 1) b (s.opens bs) := by
  have hs := h.seg
  have ht := tLen_put b.length hb b (Nat.le_refl _)
  have hp := uvarint_pos' b.length
  have hl := h.len
  have hd := h.drop
  rw [List.length_append] at hl
  have e : s.opens bs = ⟨s.at_ + (uvarint b.length).length, List.replicate (i + 1 + 1) bs.length⟩ := by
    unfold St.opens
    rw [h.fr]
    show (if (tLen (segOf bs s.at_ bs.length)).2 = 0 then _ else _) = _
    rw [hs, ht]
    show (if (uvarint b.length).length = 0 then _ else _) = _
    rw [if_neg (by omega)]
    show St.mk _ ((s.at_ + (uvarint b.length).length + b.length) :: bs.length :: List.replicate i bs.length) = _
    rw [show s.at_ + (uvarint b.length).length + b.length = bs.length by omega]
    rfl
  rw [e]
  exact ⟨rfl, rfl, by show bs.drop (s.at_ + (uvarint b.length).length) = b; rw [← List.drop_drop, hd, List.drop_left], by show s.at_ + (uvarint b.length).length + b.length = _; omega⟩
theorem Ahead.none (h : Ahead bs i [] s) : s.more = false := by
  have hl := h.len
  unfold St.more
  rw [h.fr]
  show decide (s.at_ < bs.length) = false
  exact decide_eq_false (by simp at hl; omega)
end
end Go.Proofs.Ytnhaeapkncnimaa
