/- Several texts in one: StC. What each proves, and its conditions, stands at its own head. -/
import Derived.Test.YtcjjphioeneiiaaGreatDoorPkSB26
import Derived.Test.YtcjjphioeneiiaaGreatDoorPkSB35
import Derived.Test.YtcjjphioeneiiaaGreatDoorPkSB17
import Derived.Shelf.SlSortCmp.InsertionK
/- Rows of structs, sorted (no program here, but for the rows): what the library's insertion makes of a list; a row of the call's own that was sorted in place. Conditions: those that each theorem names. -/
namespace Go.Proofs.YtcjjphioeneiiaaGreatDoor
open Go.RowKit Go.Sort Go.Shelf
set_option linter.unusedVariables false

section
variable {α : Type} [Inhabited α]
theorem swp_mid (out rest : List α) (y x : α) : swp (out ++ y :: x :: rest).toArray (out.length + 1) out.length = (out ++ x :: y :: rest).toArray := by
 have e1 : (out ++ y :: x :: rest).toArray[out.length + 1]! = x := by simp
 have e2 : (out ++ y :: x :: rest).toArray[out.length]! = y := by simp
 unfold swp
 rw [e1, e2]
 apply Array.ext'
 simp
/-- The inner loop puts a thing in where it belongs. -/
theorem inner_list (lt : α → α → Bool) : ∀ (j : Nat) (out rest : List α) (x : α), out.length = j → insInner lt 0 j (out ++ x :: rest).toArray = (out.take (backT (fun y => lt x y) out j) ++ x :: out.drop (backT (fun y => lt x y) out j) ++ rest).toArray
 | 0, out, rest, x, h => by
   obtain rfl := List.eq_nil_of_length_eq_zero h
   simp [insInner, backT]
 | j + 1, out, rest, x, h => by
   obtain ⟨o, y, rfl⟩ : ∃ o y, out = o ++ [y] := ⟨out.dropLast, out.getLast (by intro e; rw [e] at h; simp at h), (List.dropLast_concat_getLast _).symm⟩
   have hj : o.length = j := by simp at h; exact h
   have e1 : ((o ++ [y]) ++ x :: rest).toArray[j + 1]! = x := by rw [← hj]; simp
   have e2 : ((o ++ [y]) ++ x :: rest).toArray[j]! = y := by rw [← hj]; simp
   have e3 : (o ++ [y])[j]? = some y := by rw [← hj]; simp
   have hb : ∀ k, k ≤ j → backT (fun y => lt x y) (o ++ [y]) k = backT (fun y => lt x y) o k := by
    intro k
    induction k with
    | zero => intro _; rfl
    | succ k ih =>
      intro hk
      rw [backT, backT, List.getElem?_append_left (by omega), ih (by omega)]
   have hle : backT (fun y => lt x y) o j ≤ o.length := by
    have : ∀ k, backT (fun y => lt x y) o k ≤ k := by
     intro k
     induction k with
     | zero => exact Nat.le_refl _
     | succ k ih => rw [backT]; split; split; omega; omega; omega
    rw [hj]; exact this j
   rw [insInner, e1, e2, backT, e3]
   cases hl : lt x y with
   | true =>
     have hs : swp ((o ++ [y]) ++ x :: rest).toArray (j + 1) j = (o ++ x :: y :: rest).toArray := by
      rw [← hj, List.append_assoc]
      exact swp_mid o rest y x
     rw [if_pos (by simp), hs, inner_list lt j o (y :: rest) x hj]
     dsimp only
     rw [hl, if_pos rfl, hb j (Nat.le_refl _), List.take_append_of_le_length hle, List.drop_append_of_le_length hle]
     simp
   | false =>
     rw [if_neg (by simp)]
     dsimp only
     rw [hl, if_neg (by simp), List.take_of_length_le (by simp; omega), List.drop_of_length_le (by simp; omega)]
     simp
theorem outer_list (lt : α → α → Bool) (l : List α) : ∀ (k i : Nat), l.length - i = k → i ≤ l.length → insOuter lt 0 l.length i (sortT (fun y x => lt x y) (l.take i) ++ l.drop i).toArray = (sortT (fun y x => lt x y) l).toArray
 | 0, i, h, hi => by
   have e : i = l.length := by omega
   rw [insOuter, if_neg (by omega), List.take_of_length_le (by omega), List.drop_of_length_le (by omega), List.append_nil]
 | k + 1, i, h, hi => by
   obtain ⟨x, hx⟩ : ∃ x, l[i]? = some x := ⟨_, List.getElem?_eq_getElem (by omega)⟩
   have hxg : l.drop i = x :: l.drop (i + 1) := by rw [List.drop_eq_getElem_cons (by omega), (List.getElem?_eq_some_iff.mp hx).2]
   have hlen : (sortT (fun y x => lt x y) (l.take i)).length = i := sort_take_len _ l i (by omega)
   rw [insOuter, if_pos (by omega), hxg, inner_list lt i _ _ x hlen]
   have e : sortT (fun y x => lt x y) (l.take (i + 1)) = insT (fun y x => lt x y) (sortT (fun y x => lt x y) (l.take i)) x := by
    unfold sortT
    rw [List.take_add_one, hx, List.foldl_append]
    rfl
   rw [← outer_list lt l k (i + 1) (by omega) (by omega), e]
   unfold insT
   rw [hlen]
/-- What the library's insertion makes of a list. -/
theorem ins_list (lt : α → α → Bool) (l : List α) : Sort.insertionSort lt l.toArray 0 l.toArray.size = (sortT (fun y x => lt x y) l).toArray := by
 unfold Sort.insertionSort
 cases l with
 | nil => rw [insOuter]; rfl
 | cons x r =>
   have h := outer_list lt (x :: r) r.length 1 (by simp) (by simp)
   have e : sortT (fun y x => lt x y) ((x :: r).take 1) ++ (x :: r).drop 1 = x :: r := by simp [sortT, insT, backT]
   rw [e] at h
   simpa using h
end
/-! ### A row of the call's own -/
section
variable {α : Type} [Inhabited α] {enc : α → List Value} {k : Nat}
theorem flat_list (hk : ∀ x, (enc x).length = k) (l : List α) : (flatK enc k l.toArray).toList = l.flatMap enc := by
 have hfl := flat_length enc k hk l
 refine List.ext_getElem? fun t => ?_
 by_cases ht : t < l.length * k
 ·have k0 : 0 < k := by
   rcases Nat.eq_zero_or_pos k with e | e
   ·subst e; simp at ht
   ·exact e
  have hq : t / k < l.length := Nat.div_lt_of_lt_mul (by rw [Nat.mul_comm]; exact ht)
  have h1 := flat_get enc k hk l (t / k) l[t / k] (t % k) (List.getElem?_eq_getElem hq) (Nat.mod_lt _ k0)
  rw [Nat.div_add_mod] at h1
  have h2 := get_flatK enc k l.toArray t (by simpa using ht)
  have hs : t < (flatK enc k l.toArray).size := by rw [size_flatK]; simpa using ht
  rw [getElem!_pos _ t hs] at h2
  rw [Array.getElem?_toList, Array.getElem?_eq_getElem hs, h2, h1]
  have e : l.toArray[t / k]! = l[t / k] := by simp [hq]
  have hm : t % k < (enc l[t / k]).length := by rw [hk]; exact Nat.mod_lt _ k0
  rw [e, getElem!_pos (enc l[t / k]) (t % k) hm, List.getElem?_eq_getElem hm]
 ·rw [List.getElem?_eq_none (by simp; omega), List.getElem?_eq_none (by omega)]
theorem put_list (off : Nat) (F cur : Array Value) (h : off + F.size ≤ cur.size) : (putCells id off F cur).toList = cur.toList.take off ++ F.toList ++ cur.toList.drop (off + F.size) := by
 refine List.ext_getElem? fun t => ?_
 have hl : (cur.toList.take off).length = off := by simp; omega
 by_cases ht : t < cur.size
 ·have e : (putCells id off F cur).toList[t]? = some (if off ≤ t ∧ t < off + F.size then F[t - off]! else cur[t]) := by
   simp [putCells, ht]
  rw [e]
  by_cases h1 : t < off
  ·rw [if_neg (by omega), List.append_assoc, List.getElem?_append_left (by omega), List.getElem?_take_of_lt h1]
   simp [ht]
  ·by_cases h2 : t < off + F.size
   ·rw [if_pos ⟨by omega, h2⟩, List.getElem?_append_left (by simp; omega), List.getElem?_append_right (by omega), hl, Array.getElem?_toList, Array.getElem?_eq_getElem (by omega), getElem!_pos _ _ (by omega)]
   ·rw [if_neg (by omega), List.getElem?_append_right (by simp; omega), List.getElem?_drop]
    have : off + F.size + (t - (cur.toList.take off ++ F.toList).length) = t := by simp; omega
    rw [this]
    simp [ht]
 ·rw [List.getElem?_eq_none (by simp [putCells]; omega), List.getElem?_eq_none (by simp; omega)]
theorem heap_sortK {w : World} {g off m : Nat} {os : Array Obj} {cur : Array Value} {e : TypeId} {fr : Nat × Nat} (d : Array α) (hb : w.heap[g]? = some (.cells cur e fr)) : (sortWorldK enc k w g off m d os).heap[g]? = some (.cells (putCells id off (flatK enc k d) cur) e fr) := by
 have hg : g < w.heap.size := (Array.getElem?_eq_some_iff.1 hb).1
 unfold sortWorldK putRowK
 rw [heap_grow_old _ _ (by simpa [putRow, mapBlock, Sort.ahead] using hg)]
 simp [putRow, mapBlock, Sort.ahead, Array.getElem?_modify, hb, onCells]
theorem only_sortK (w : World) (g off m : Nat) (d : Array α) (os : Array Obj) : w.grownBy (sortWorldK enc k w g off m d os) (some g) := by
 refine ⟨rfl, rfl, rfl, by simp [sortWorldK, putRowK, putRow, mapBlock, Sort.ahead, grow], fun q hq hne => ?_⟩
 unfold sortWorldK putRowK
 rw [heap_grow_old _ _ (by simpa [putRow, mapBlock, Sort.ahead] using hq)]
 have : g ≠ q := fun e => hne (by rw [e])
 simp [putRow, mapBlock, Sort.ahead, Array.getElem?_modify, this]
theorem holds_row {w : World} {base n g cap : Nat} {t : TypeId} {l : List α} (h : w.ownsRow base t k (.slice (some ⟨g, 0, none⟩) n cap) n (l.flatMap enc)) (hk : ∀ x, (enc x).length = k) (a : Nat) (ha : a ≤ l.length) : HoldsK enc k w g (a * k) (l.drop a).toArray := by
 obtain ⟨g', cap', cur, e, hbase, hb, h1, h2, h3, h4⟩ := h.2.resolve_left (fun e => by cases e.1)
 cases e
 have hfl := flat_length enc k hk l
 have hn : n * k = l.length * k := h.1.symm.trans hfl
 have hsplit : l.flatMap enc = (l.take a).flatMap enc ++ (l.drop a).flatMap enc := by rw [← List.flatMap_append, List.take_append_drop]
 have hta := flat_length enc k hk (l.take a)
 intro j hj
 rw [size_flatK] at hj
 have hjl : j < (l.length - a) * k := by simpa using hj
 have hsum : a * k + (l.length - a) * k = l.length * k := by rw [← Nat.add_mul]; congr 1; omega
 refine ⟨?_, by simp [World.frozen?, hb]⟩
 rw [cell_of_row w g (a * k + j) cur t (0, 0) hb]
 have hlen : (l.take a).length = a := by rw [List.length_take]; omega
 have h5 : (cur.toList.take (n * k))[a * k + j]? = (l.flatMap enc)[a * k + j]? := by rw [h4]
 rw [List.getElem?_take_of_lt (by omega), hsplit, List.getElem?_append_right (by rw [hta, hlen]; omega), hta, hlen, Nat.add_sub_cancel_left, ← flat_list hk] at h5
 simp only [Array.getElem?_toList] at h5
 rw [Array.getElem?_eq_getElem (xs := flatK enc k (l.drop a).toArray) (by rw [size_flatK]; exact hj)] at h5
 rw [h5, getElem!_pos _ _ (by rw [size_flatK]; exact hj)]
 rfl
theorem sorted_row {w : World} {base n g cap m : Nat} {t : TypeId} {l d' : List α} {os : Array Obj} (h : w.ownsRow base t k (.slice (some ⟨g, 0, none⟩) n cap) n (l.flatMap enc)) (hk : ∀ x, (enc x).length = k) (a : Nat) (ha : a ≤ l.length) (hd : d'.length = l.length - a) :
 (sortWorldK enc k w g (a * k) m d'.toArray os).ownsRow base t k (.slice (some ⟨g, 0, none⟩) n cap) n ((l.take a ++ d').flatMap enc) := by
 obtain ⟨g', cap', cur, e, hbase, hb, h1, h2, h3, h4⟩ := h.2.resolve_left (fun e => by cases e.1)
 cases e
 have hfl := flat_length enc k hk l
 have hn : n * k = l.length * k := h.1.symm.trans hfl
 have hfd := flat_length enc k hk d'
 have hsum : a * k + (l.length - a) * k = l.length * k := by rw [← Nat.add_mul]; congr 1; omega
 have hnc : n * k ≤ cap * k := Nat.mul_le_mul_right k h1
 have hdk : d'.length * k = (l.length - a) * k := by rw [hd]
 refine ⟨?_, .inr ⟨g, cap, _, rfl, hbase, heap_sortK _ hb, h1, h2, by rw [← h3]; simp [putCells], ?_⟩⟩
 ·rw [flat_length enc k hk, List.length_append, List.length_take, Nat.min_eq_left ha, hd, hn]
  congr 1
  omega
 ·have hsz : (flatK enc k d'.toArray).size = d'.length * k := by simp
  rw [put_list _ _ _ (by rw [hsz]; omega), hsz, flat_list hk, List.flatMap_append]
  have hpre : cur.toList.take (a * k) = (l.take a).flatMap enc := by
   have h5 := congrArg (List.take (a * k)) h4
   rw [List.take_take, Nat.min_eq_left (by omega)] at h5
   rw [h5, show l.flatMap enc = (l.take a).flatMap enc ++ (l.drop a).flatMap enc by rw [← List.flatMap_append, List.take_append_drop]]
   have hta := flat_length enc k hk (l.take a)
   rw [List.length_take, Nat.min_eq_left ha] at hta
   rw [← hta, List.take_left]
  rw [hpre, List.take_left' (by rw [List.length_append, flat_length enc k hk, flat_length enc k hk, List.length_take, Nat.min_eq_left ha]; omega)]
end
end Go.Proofs.YtcjjphioeneiiaaGreatDoor
