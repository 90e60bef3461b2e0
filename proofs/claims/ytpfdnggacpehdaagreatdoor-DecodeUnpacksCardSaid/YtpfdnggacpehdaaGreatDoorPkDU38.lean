/- Several texts in one: TpF, TrLv, PdA, TpH. What each proves, and its conditions, stands at its own head. -/
import Derived.Test.YtpfdnggacpehdaaGreatDoorPkDU37
import Derived.Test.YtpfdnggacpehdaaGreatDoorPkDU22
import Derived.Lib.AppendZerosOnto
import Derived.Laws.CopyRow
import Derived.Test.YtpfdnggacpehdaaGreatDoorPkDU16
import Derived.Test.YtpfdnggacpehdaaGreatDoorPkDU7
import Derived.Test.YtpfdnggacpehdaaGreatDoorPkDU0
import Derived.Deep.RegionHeld3
import Derived.Test.YtpfdnggacpehdaaGreatDoorPkDU35
import Derived.Shelf.Abstract
import Derived.Test.YtpfdnggacpehdaaGreatDoorPkDU3
import Derived.Lib.Overlaps
import Derived.Deep.RegionLaw
/- Rows of slots of the call's own, known whole: a slot written, cleared, copied (no program's function here). Conditions: those that each theorem names. -/
namespace Go.Proofs.YtpfdnggacpehdaaGreatDoor
open Go.RowKit
set_option linter.unusedVariables false
set_option maxRecDepth 100000

/-- These cells, two each, and what lies behind them. -/
structure RowC (w : World) (g cap : Nat) (css : List (List Value)) (tail : List Value) : Prop where
  r_blk : w.heap[g]? = some (.cells (css.flatten ++ tail).toArray 68 (0, 0))
  r_two : ∀ c ∈ css, c.length = 2
  r_one : ∀ c ∈ css, ∀ u ∈ c, u.oneCell' = true
  r_cap : css.length * 2 + tail.length = cap * 2
  r_max : cap ≤ maxLen
/-- The cells read as these. -/
def Zip {α : Type} (R : List Value → α → Prop) (css : List (List Value)) (l : List α) : Prop := css.length = l.length ∧ ∀ (j : Nat) c x, css[j]? = some c → l[j]? = some x → R c x
theorem flat_two : ∀ {css : List (List Value)}, (∀ c ∈ css, c.length = 2) → css.flatten.length = css.length * 2
  | [], _ => rfl
  | c :: css, h => by
    rw [List.flatten_cons, List.length_append, h c (by simp), flat_two (fun d hd => h d (by simp [hd])), List.length_cons]; omega
theorem flat_set2 : ∀ {css : List (List Value)} {i : Nat} (a b : Value) (tail : List Value), (∀ c ∈ css, c.length = 2) → i < css.length → (((css.flatten ++ tail).set (i * 2) a).set (i * 2 + 1) b) = (css.set i [a, b]).flatten ++ tail
  | [], i, a, b, tail, _, h => absurd h (Nat.not_lt_zero _)
  | c :: css, 0, a, b, tail, h, _ => by
    have hc := h c (by simp)
    match c, hc with
    | [x, y], _ => simp
  | c :: css, i + 1, a, b, tail, h, hi => by
    have hc := h c (by simp)
    match c, hc with
    | [x, y], _ =>
      have ih := flat_set2 a b tail (fun d hd => h d (by simp [hd])) (show i < css.length by simpa using hi)
      rw [List.flatten_cons, List.set_cons_succ, List.flatten_cons]
      show (([x, y] ++ css.flatten ++ tail).set ((i + 1) * 2) a).set ((i + 1) * 2 + 1) b = [x, y] ++ (css.set i [a, b]).flatten ++ tail
      rw [show (i + 1) * 2 = i * 2 + 1 + 1 by omega]
      show x :: y :: (((css.flatten ++ tail).set (i * 2) a).set (i * 2 + 1) b) = x :: y :: ((css.set i [a, b]).flatten ++ tail)
      rw [ih]
section
variable {w w' : World} {g cap : Nat} {css : List (List Value)} {tail : List Value}
theorem rowC_free (h : RowC w g cap css tail) (o : Nat) : w.frozen? ⟨g, o, none⟩ = false := obj_free h.r_blk o
theorem rowC_le (h : RowC w g cap css tail) : css.length ≤ cap := by have := h.r_cap; omega
theorem rowC_of {base n : Nat} {R : List Value → Slt → Prop} {l : List Slt} (h : OwnL base 68 2 R w (.slice (some ⟨g, 0, none⟩) n cap) l) : n = l.length ∧ base ≤ g ∧ ∃ css tail, RowC w g cap css tail ∧ Zip R css l := by
  obtain ⟨css, e1, e2, e3⟩ := h
  obtain ⟨A, c, ev, _, _⟩ := own_form e3
  have hn : n = l.length := by cases ev; rfl
  rcases e3.2 with ⟨h0, _⟩ | ⟨g', cap', cur, h0, h3, h4, h5, h6, h7, h8⟩
  · cases h0
  · cases h0
    have hk : ∀ c ∈ css, c.length = 2 := fun c hc => by
      obtain ⟨q, hq, e⟩ := List.mem_iff_getElem.mp hc
      exact (e2 q c l[q] (by rw [List.getElem?_eq_getElem hq, e]) (List.getElem?_eq_getElem (by omega))).1
    have ho : ∀ c ∈ css, ∀ u ∈ c, u.oneCell' = true := fun c hc => by
      obtain ⟨q, hq, e⟩ := List.mem_iff_getElem.mp hc
      exact (e2 q c l[q] (by rw [List.getElem?_eq_getElem hq, e]) (List.getElem?_eq_getElem (by omega))).2.1
    refine ⟨rfl, h3, css, cur.toList.drop (l.length * 2), ⟨?_, hk, ho, ?_, h6⟩, e1, fun j c x hc hx => (e2 j c x hc hx).2.2⟩
    · rw [h4, ← h8, List.take_append_drop]
    · rw [List.length_drop, e1]
      have : cur.toList.length = cap * 2 := by simpa using h7
      omega
theorem ownL_of_row {base : Nat} {R : List Value → Slt → Prop} {l : List Slt} (h : RowC w g cap css tail) (hz : Zip R css l) (hb : base ≤ g) : OwnL base 68 2 R w (.slice (some ⟨g, 0, none⟩) l.length cap) l := by
  have hf := flat_two h.r_two
  refine ⟨css, hz.1, fun j c x hc hx => ⟨h.r_two c (List.mem_of_getElem? hc), h.r_one c (List.mem_of_getElem? hc), hz.2 j c x hc hx⟩, by rw [hf, hz.1], .inr ⟨g, cap, (css.flatten ++ tail).toArray, rfl, hb, h.r_blk, by have := rowC_le h; have := hz.1; omega, h.r_max, ?_, ?_⟩⟩
  · have := h.r_cap
    simp only [List.size_toArray, List.length_append]
    omega
  · rw [← hz.1, ← hf]
    simp
/-- Fewer of it. -/
theorem rowC_cut (h : RowC w g cap css tail) (i : Nat) : RowC w g cap (css.take i) ((css.drop i).flatten ++ tail) := by
  refine ⟨?_, fun c hc => h.r_two c (List.mem_of_mem_take hc), fun c hc => h.r_one c (List.mem_of_mem_take hc), ?_, h.r_max⟩
  · rw [h.r_blk, ← List.append_assoc, ← List.flatten_append, List.take_append_drop]
  · have h1 := h.r_cap
    have h2 := flat_two (css := css.drop i) (fun c hc => h.r_two c (List.mem_of_mem_drop hc))
    rw [List.length_append, h2, List.length_take, List.length_drop]
    omega
/-- What stands behind is made a slot again. -/
theorem rowC_more (h : RowC w g cap css tail) {a b : Value} {rest : List Value} (e : tail = a :: b :: rest) (h1 : a.oneCell' = true) (h2 : b.oneCell' = true) : RowC w g cap (css ++ [[a, b]]) rest := by
  subst e
  refine ⟨?_, fun c hc => ?_, fun c hc => ?_, ?_, h.r_max⟩
  · rw [h.r_blk]; simp
  · rcases List.mem_append.mp hc with hc | hc
    · exact h.r_two c hc
    · obtain rfl := List.mem_singleton.mp hc; rfl
  · rcases List.mem_append.mp hc with hc | hc
    · exact h.r_one c hc
    · obtain rfl := List.mem_singleton.mp hc
      intro u hu
      simp at hu
      rcases hu with rfl | rfl <;> assumption
  · have := h.r_cap
    simp only [List.length_append, List.length_cons, List.length_nil] at this ⊢
    omega
/-- The row's cells from a place on written anew. -/
theorem rowC_store (h : RowC w g cap css tail) {o : Nat} {vs : List Value} (ho : o + vs.length ≤ cap * 2) (h1 : ∀ v ∈ vs, v.oneCell' = true) :
    (storeCells ⟨g, o, none⟩ vs).run Tryz.prog w = .ok () (w.setRow g (((css.flatten ++ tail).take o ++ vs ++ (css.flatten ++ tail).drop (o + vs.length)).toArray)) := by
  have hsz : (css.flatten ++ tail).toArray.size = cap * 2 := by
    rw [List.size_toArray, List.length_append, flat_two h.r_two]; exact h.r_cap
  have := run_storeCells_at Tryz.prog g o 68 vs 0 (css.flatten ++ tail).toArray w h.r_blk (by rw [hsz]; omega) h1
  simpa using this
theorem size_setRow (w : World) (g : Nat) (cs : Array Value) : (w.setRow g cs).heap.size = w.heap.size := by simp [World.setRow]
theorem zeros_two (a b : Value) (n : Nat) : (Builtin.zeroCells #[a, b] n).toList = (List.replicate n [a, b]).flatten := by
  apply List.ext_getElem?
  intro j
  have hz : ∀ c ∈ List.replicate n [a, b], c.length = 2 := fun c hc => by rw [List.eq_of_mem_replicate hc]; rfl
  by_cases hj : j < n * 2
  · have h1 : (List.replicate n [a, b]).flatten[j]? = ([a, b] : List Value)[j % 2]? := by
      have := flatten_get hz (j / 2) [a, b] (j % 2) (by rw [List.getElem?_replicate, if_pos (by omega)]) (Nat.mod_lt _ (by decide))
      rw [Nat.div_add_mod' j 2] at this
      exact this
    rw [h1]
    simp only [Builtin.zeroCells, Array.toList_map, List.getElem?_map, Array.toList_range]
    rw [List.getElem?_range (by simpa using hj)]
    have hm : j % 2 < 2 := Nat.mod_lt _ (by decide)
    simp only [Option.map_some]
    rcases Nat.lt_or_ge (j % 2) 1 with h | h
    · have : j % 2 = 0 := by omega
      simp [this]
    · have : j % 2 = 1 := by omega
      simp [this]
  · rw [List.getElem?_eq_none (by simp [Builtin.zeroCells]; omega), List.getElem?_eq_none (by rw [flat_two hz, List.length_replicate]; omega)]
/-- 'clear' of what lies behind the first i. -/
theorem rowC_clear' (h : RowC w g cap css tail) {i : Nat} (hi : i < css.length) (hv : ∀ w, (zeroValue 68).run Tryz.prog w = .ok (.agg #[.int .i64 0, .slice none 0 0]) w) :
    ∃ cs, (∀ (ty : TypeId) (c : Nat), (Builtin.clear_ #[30] ty #[.slice (some ⟨g, i * 2, none⟩) (css.length - i) c]).run Tryz.prog w = .ok (.tuple #[]) (w.setRow g cs)) ∧ (∃ tail', RowC (w.setRow g cs) g cap (css.take i) tail') := by
  have hl := flat_two h.r_two
  have hcap := h.r_cap
  obtain ⟨m, hm⟩ : ∃ m, css.length - i = m + 1 := ⟨css.length - i - 1, by omega⟩
  have hz := zeros_two (.int .i64 0) (.slice none 0 0) (m + 1)
  have hzl : (List.replicate (m + 1) [Value.int .i64 0, Value.slice none 0 0]).flatten.length = (m + 1) * 2 := by
    rw [flat_two (fun c hc => by rw [List.eq_of_mem_replicate hc]; rfl), List.length_replicate]
  have hst := rowC_store h (o := i * 2) (vs := (List.replicate (m + 1) [Value.int .i64 0, Value.slice none 0 0]).flatten) (by rw [hzl]; omega) (fun v hv => by
    obtain ⟨c, hc, hvc⟩ := List.mem_flatten.mp hv
    rw [List.eq_of_mem_replicate hc] at hvc
    simp at hvc
    rcases hvc with rfl | rfl <;> rfl)
  refine ⟨(((css.flatten ++ tail).take (i * 2) ++ (List.replicate (m + 1) [Value.int .i64 0, Value.slice none 0 0]).flatten ++ (css.flatten ++ tail).drop (i * 2 + (List.replicate (m + 1) [Value.int .i64 0, Value.slice none 0 0]).flatten.length)).toArray), ?_, ⟨(List.replicate (m + 1) [Value.int .i64 0, Value.slice none 0 0]).flatten ++ tail, ?_, fun c hc => h.r_two c (List.mem_of_mem_take hc), fun c hc => h.r_one c (List.mem_of_mem_take hc), ?_, h.r_max⟩⟩
  · intro ty c
    rw [hm]
    simp [Builtin.clear_, run_underlying Tryz.underlying30, hv, Value.cells, hz, hst]
  · have hti : (css.take i).flatten.length = i * 2 := by rw [flat_two (fun c hc => h.r_two c (List.mem_of_mem_take hc)), List.length_take]; omega
    have t1 : (css.flatten ++ tail).take (i * 2) = (css.take i).flatten := by
      have e : css.flatten ++ tail = (css.take i).flatten ++ ((css.drop i).flatten ++ tail) := by rw [← List.append_assoc, ← List.flatten_append, List.take_append_drop]
      rw [e, ← hti]
      simp
    have t2 : (css.flatten ++ tail).drop (i * 2 + (m + 1) * 2) = tail := by
      rw [show i * 2 + (m + 1) * 2 = css.flatten.length by rw [hl]; omega]
      simp
    rw [setRow_heap w g _ _ _ _ h.r_blk, hzl, t1, t2, List.append_assoc]
  · rw [List.length_append, hzl, List.length_take]
    omega
/-- 'copy' into the row. -/
theorem rowC_copy (h : RowC w g cap css tail) {o dLen dCap sLen sCap : Nat} {a : Addr} {cs : List Value} (ty : TypeId) (hs : (Tryz.prog.info? 68).map (·.size) = some 2) (hn : cs.length = Nat.min sLen dLen * 2) (hsrc : ∀ j v, cs[j]? = some v → w.cell? (a.add j) = some v) (hfit : o + cs.length ≤ cap * 2) (h1 : ∀ v ∈ cs, v.oneCell' = true) :
    (Builtin.copy_ #[30, 30] ty #[.slice (some ⟨g, o, none⟩) dLen dCap, .slice (some a) sLen sCap]).run Tryz.prog w = .ok (goInt (Nat.min sLen dLen)) (w.setRow g (((css.flatten ++ tail).take o ++ cs ++ (css.flatten ++ tail).drop (o + cs.length)).toArray)) := by
  have hl := run_loadCells_list (P := Tryz.prog) w a cs hsrc
  have hst := rowC_store h hfit h1
  cases hq : Tryz.prog.info? 68 with
  | none => simp [hq] at hs
  | some i =>
    have hi : i.size = 2 := by simpa [hq] using hs
    simp [Builtin.copy_, run_underlying Tryz.underlying30, Builtin.lenOf, Builtin.firstCells, sizeOf, typeInfo, hq, hi, ← hn, hl, hst]
/-- These slots written from place p on, as far as the row went, or further. -/
theorem rowC_write (h : RowC w g cap css tail) {p : Nat} {ds : List (List Value)} (h2 : ∀ c ∈ ds, c.length = 2) (h1 : ∀ c ∈ ds, ∀ u ∈ c, u.oneCell' = true) (hp : p ≤ css.length) (hl : css.length ≤ p + ds.length) (hc : p + ds.length ≤ cap) :
    RowC (w.setRow g (((css.flatten ++ tail).take (p * 2) ++ ds.flatten ++ (css.flatten ++ tail).drop (p * 2 + ds.flatten.length)).toArray)) g cap (css.take p ++ ds) (tail.drop ((p + ds.length - css.length) * 2)) := by
  have hf := flat_two h.r_two
  have hd := flat_two h2
  have hcap := h.r_cap
  refine ⟨?_, fun c hc => ?_, fun c hc => ?_, ?_, h.r_max⟩
  · have hti : (css.take p).flatten.length = p * 2 := by rw [flat_two (fun c hc => h.r_two c (List.mem_of_mem_take hc)), List.length_take]; omega
    have t1 : (css.flatten ++ tail).take (p * 2) = (css.take p).flatten := by
      have e : css.flatten ++ tail = (css.take p).flatten ++ ((css.drop p).flatten ++ tail) := by rw [← List.append_assoc, ← List.flatten_append, List.take_append_drop]
      rw [e, ← hti]
      simp
    have t2 : (css.flatten ++ tail).drop (p * 2 + ds.flatten.length) = tail.drop ((p + ds.length - css.length) * 2) := by
      rw [List.drop_append, List.drop_of_length_le (by rw [hf, hd]; omega), List.nil_append]
      congr 1
      rw [hf, hd]
      omega
    rw [setRow_heap w g _ _ _ _ h.r_blk, t1, t2, List.flatten_append]
  · rcases List.mem_append.mp hc with hc | hc
    · exact h.r_two c (List.mem_of_mem_take hc)
    · exact h2 c hc
  · rcases List.mem_append.mp hc with hc | hc
    · exact h.r_one c (List.mem_of_mem_take hc)
    · exact h1 c hc
  · rw [List.length_append, List.length_take, List.length_drop]
    omega
/-- One slot written. -/
theorem rowC_put (h : RowC w g cap css tail) {i : Nat} (hi : i < css.length) {a b : Value} (h1 : a.oneCell' = true) (h2 : b.oneCell' = true) :
    RowC (w.setRow g (((css.flatten ++ tail).take (i * 2) ++ [a, b] ++ (css.flatten ++ tail).drop (i * 2 + 2)).toArray)) g cap (css.set i [a, b]) tail := by
  have hf := flat_two h.r_two
  have hcap := h.r_cap
  refine ⟨?_, fun c hc => ?_, fun c hc => ?_, by rw [List.length_set]; exact h.r_cap, h.r_max⟩
  · rw [setRow_heap w g _ _ _ _ h.r_blk, ← flat_set2 a b tail h.r_two hi]
    congr 2
    have hlen : i * 2 + 1 < (css.flatten ++ tail).length := by rw [List.length_append, hf]; omega
    obtain ⟨L, hL⟩ : ∃ L, L = css.flatten ++ tail := ⟨_, rfl⟩
    rw [← hL] at hlen ⊢
    refine congrArg List.toArray (List.ext_getElem? fun j => ?_)
    simp only [List.getElem?_append, List.length_take, List.length_append, List.getElem?_take, List.getElem?_drop, List.getElem?_set, List.length_set, List.length_cons, List.length_nil]
    have hm : min (i * 2) L.length = i * 2 := by omega
    rw [hm]
    by_cases h0 : j < i * 2
    · simp [h0, show j < i * 2 + 2 by omega, show ¬ i * 2 + 1 = j by omega, show ¬ i * 2 = j by omega]
    · by_cases h3 : j = i * 2
      · subst h3
        simp [show i * 2 < L.length by omega]
      · by_cases h4 : j = i * 2 + 1
        · subst h4
          simp [show i * 2 + 1 < L.length by omega, show ¬ i * 2 + 1 < i * 2 by omega]
        · simp [show ¬ j < i * 2 + 2 by omega, show ¬ i * 2 + 1 = j by omega, show ¬ i * 2 = j by omega]
          congr 1
          omega
  · rcases List.mem_or_eq_of_mem_set hc with hc | rfl
    · exact h.r_two c hc
    · rfl
  · rcases List.mem_or_eq_of_mem_set hc with hc | rfl
    · exact h.r_one c hc
    · intro u hu
      simp at hu
      rcases hu with rfl | rfl <;> assumption
end
section
variable {α : Type} {R : List Value → α → Prop}
theorem zip_app {a b : List (List Value)} {l m : List α} (h : Zip R a l) (k : Zip R b m) : Zip R (a ++ b) (l ++ m) := by
  refine ⟨by rw [List.length_append, List.length_append, h.1, k.1], fun j c x hc hx => ?_⟩
  by_cases hj : j < l.length
  · rw [List.getElem?_append_left (by rw [h.1]; exact hj)] at hc
    rw [List.getElem?_append_left hj] at hx
    exact h.2 j c x hc hx
  · rw [List.getElem?_append_right (by rw [h.1]; omega)] at hc
    rw [List.getElem?_append_right (by omega)] at hx
    rw [h.1] at hc
    exact k.2 _ c x hc hx
theorem zip_one {c : List Value} {x : α} (h : R c x) : Zip R [c] [x] := ⟨rfl, fun j d y hd hy => by
  match j, hd, hy with
  | 0, hd, hy =>
    simp at hd hy
    rw [← hd, ← hy]
    exact h
  | j + 1, hd, hy => simp at hd⟩
theorem zip_take {a : List (List Value)} {l : List α} (h : Zip R a l) (n : Nat) : Zip R (a.take n) (l.take n) := by
  refine ⟨by rw [List.length_take, List.length_take, h.1], fun j c x hc hx => ?_⟩
  rw [List.getElem?_take] at hc hx
  split at hc
  · rename_i hj
    rw [if_pos hj] at hx
    exact h.2 j c x hc hx
  · cases hc
theorem zip_drop {a : List (List Value)} {l : List α} (h : Zip R a l) (n : Nat) : Zip R (a.drop n) (l.drop n) := by
  refine ⟨by rw [List.length_drop, List.length_drop, h.1], fun j c x hc hx => ?_⟩
  rw [List.getElem?_drop] at hc hx
  exact h.2 _ c x hc hx
end
end Go.Proofs.YtpfdnggacpehdaaGreatDoor

/- A row of the call's own that grows, each thing with fresh lists of its own (no program's function here). Conditions: those that each theorem names. -/
namespace Go.Proofs.YtpfdnggacpehdaaGreatDoor
open Go.RowKit
set_option linter.unusedVariables false
set_option maxRecDepth 100000

section
variable {α : Type} {F : (Nat → Prop) → World → List Value → α → Prop} {c b k : Nat} {t : TypeId} {w0 wr w2 : World} {v : Value} {l : List α}
end
theorem lt_of_some {w : World} {q : Nat} {o : Obj} (h : w.heap[q]? = some o) : q < w.heap.size := by
  rcases Nat.lt_or_ge q w.heap.size with h9 | h9
  · exact h9
  · rw [Array.getElem?_eq_none h9] at h; cases h
end Go.Proofs.YtpfdnggacpehdaaGreatDoor

/- The landed layer 22: where a slot stands, or would stand. Conditions: those that each theorem names. -/
namespace Go.Proofs.YtpfdnggacpehdaaGreatDoor
open Go.RowKit
set_option linter.unusedVariables false
set_option maxRecDepth 100000

/-- The slots' numbers rise. -/
def Rise (l : List Slt) : Prop := (l.map (·.snum)).Pairwise (· < ·)
theorem rise_lt {l : List Slt} (h : Rise l) {i j : Nat} {x y : Slt} (hij : i < j) (hx : l[i]? = some x) (hy : l[j]? = some y) : x.snum < y.snum := by
  unfold Rise at h
  rw [List.pairwise_map] at h
  obtain ⟨hi, ex⟩ := List.getElem?_eq_some_iff.mp hx
  obtain ⟨hj, ey⟩ := List.getElem?_eq_some_iff.mp hy
  have := List.pairwise_iff_getElem.mp h i j hi hj hij
  rw [ex, ey] at this
  exact this
def PlaceAt (num : Int) (l : List Slt) (i : Nat) (b : Bool) : Prop :=
  i ≤ l.length ∧ (∀ (j : Nat) y, j < i → l[j]? = some y → y.snum < num) ∧ (b = true → ∃ y, l[i]? = some y ∧ y.snum = num) ∧ (b = false → ∀ (j : Nat) y, i ≤ j → l[j]? = some y → num < y.snum)
set_option maxHeartbeats 2000000 in
theorem plc_any (sn num : Int) {A : Option Addr} {n c : Nat} (u : World) :
    Calls Tryz.prog 161 #[.agg #[.int .i64 sn, .slice A n c], .int .i64 num] u fun e w' => e = .returned (.int .i64 (cmpI sn num)) ∧ Below u.heap.size u w' := by
  have HBX := Lib.hid (bx_start u #[.int .i64 sn, .slice A n c] 68)
  have r0 := obj_cell (HBX.out).b_blk 0
  go_enter Tryz.func161, Tryz.ntmps161
  go_wp2_with (go_at_call 162; refine (pcmp_int _ _ _).mono ?_; rintro e w1 ⟨rfl, rfl⟩)
  go_ret
  exact ⟨rfl, HBX.out.b_bel⟩
theorem cmpI_ways (a b : Int) : (a < b ∧ decide (cmpI a b < 0) = true ∧ (cmpI a b == 0) = false) ∨ (a = b ∧ decide (cmpI a b < 0) = false ∧ (cmpI a b == 0) = true) ∨ (b < a ∧ decide (cmpI a b < 0) = false ∧ (cmpI a b == 0) = false) := by
  unfold cmpI
  by_cases h1 : a < b
  · rw [if_pos h1]; exact .inl ⟨h1, rfl, rfl⟩
  · rw [if_neg h1]
    by_cases h2 : b < a
    · rw [if_pos h2]; exact .inr (.inr ⟨h2, rfl, rfl⟩)
    · rw [if_neg h2]; exact .inr (.inl ⟨by omega, rfl, rfl⟩)

set_option maxHeartbeats 8000000 in
theorem search_slt {S : Nat → Prop} {RR : World → List Value → Slt → Prop} (hRR : ∀ w cs x, RR w cs x → ∃ A1 n1 c1, cs = [.int .i64 x.snum, .slice A1 n1 c1]) (w : World) {A : Option Addr} {cap n : Nat} {l : List Slt} (h : Lst 2 S RR w A cap l) (hn : n = l.length) (hr : Rise l) (hm : n ≤ 1000000) (num : Int) :
    Calls Tryz.prog 160 #[.slice A n cap, .int .i64 num, .func (.func 161) #[] #[]] w fun e w' => ∃ (i : Nat) (b : Bool), e = .returned (.tuple #[.int .i64 (i : Int), .bool b]) ∧ PlaceAt num l i b ∧ Below w.heap.size w w' := by
  have q1 : n ≤ cap := by have := h.l_le; omega
  have q2 := h.l_max
  unfold maxLen at q2
  have H := Lib.hid h
  have HN := Lib.hid hn
  have HR := Lib.hid hr
  have HRR := Lib.hid hRR
  clear h hn hr hRR
  go_enter Tryz.func160, Tryz.ntmps160
  go_wp2
  go_loopg [9, 10, 11] n (fun gz x9 x10 x11 wr => ∃ i j : Nat, x9 = .int .i64 (i : Int) ∧ x10 = .int .i64 (j : Int) ∧ i ≤ j ∧ j ≤ n ∧ j - i ≤ gz ∧ (∀ (q : Nat) y, q < i → l[q]? = some y → y.snum < num) ∧ (∀ (q : Nat) y, j ≤ q → l[q]? = some y → num ≤ y.snum) ∧ Below w.heap.size w wr)
  case atStart => exact ⟨0, n, rfl, rfl, by omega, by omega, by omega, fun q y hq => absurd hq (Nat.not_lt_zero _), fun q y hq hy => by have := (List.getElem?_eq_some_iff.mp hy).1; have := HN.out; omega, Below.refl _ _⟩
  case round =>
    obtain ⟨i, j, rfl, rfl, hij, hjn, hgz, hlo, hhi, hbel⟩ := hrel
    have HLO := Lib.hid hlo
    have HHI := Lib.hid hhi
    have HB := Lib.hid hbel
    clear hlo hhi hbel
    obtain ⟨g0, hg0⟩ : ∃ g0, g0 = gk := ⟨_, rfl⟩
    subst hg0
    by_cases hlt : i < j
    · have g1 : decide ((i : Int) < (j : Int)) = true := decide_eq_true (by omega)
      obtain ⟨m, hm2⟩ : ∃ m, m = (i + j) / 2 := ⟨_, rfl⟩
      have hmj : m < j := by omega
      have him : i ≤ m := by omega
      have hmn : m < n := by omega
      obtain ⟨x, hx⟩ : ∃ x, l[m]? = some x := ⟨_, List.getElem?_eq_getElem (by have := HN.out; omega)⟩
      obtain ⟨ge, oe, cs, rfl, _, _, hr, hc⟩ := H.out.l_at m x hx
      obtain ⟨A1, n1, c1, rfl⟩ := HRR.out _ _ _ hr
      have HXM := Lib.hid hx
      have c0 : wr.cell? ⟨ge, oe + m * 2, none⟩ = some (.int .i64 x.snum) := cell_under HB.out (hc 0 _ rfl)
      have c1' : wr.cell? ⟨ge, oe + m * 2 + 1, none⟩ = some (.slice A1 n1 c1) := cell_under HB.out (hc 1 _ rfl)
      have HCK := Lib.hid (plc_any x.snum num (A := A1) (n := n1) (c := c1) wr)
      obtain ⟨sn, hsn⟩ : ∃ z, z = x.snum := ⟨_, rfl⟩
      rw [← hsn] at c0 HCK
      have HSN := Lib.hid hsn
      have hways := cmpI_ways sn num
      obtain ⟨ci, hci⟩ : ∃ z, z = cmpI sn num := ⟨_, rfl⟩
      rw [← hci] at HCK hways
      have HM := Lib.hid hm2
      rw [hm2] at c0 c1'
      clear hx hc hr hsn hci hm2
      have e1 : IntKind.i64.wrap ((i : Int) + (j : Int)) = ((i + j : Nat) : Int) := by rw [IntKind.wrap_i64]; omega
      rcases hways with ⟨h1, g2, g3⟩ | ⟨h1, g2, g3⟩ | ⟨h1, g2, g3⟩
      · have H1 := Lib.hid h1
        clear h1
        go_wp2_with (go_at_call 161; refine HCK.out.mono ?_; rintro e w2 ⟨rfl, hb⟩; have HB2 := Lib.hid (HB.out.trans (hb.mono HB.out.size)); clear hb)
        go_roundg (j - (m + 1))
        case measure => omega
        case rel => exact ⟨m + 1, j, by have := HM.out; go_num, rfl, by omega, hjn, by omega, fun q y hq hy => by
              by_cases hqm : q = m
              · subst hqm
                have e := HXM.out.symm.trans hy
                injection e with e
                rw [← e, ← HSN.out]; exact H1.out
              · have := rise_lt HR.out (show q < m by omega) hy HXM.out
                rw [← HSN.out] at this
                have := H1.out
                omega, HHI.out, HB2.out⟩
      · have H1 := Lib.hid h1
        clear h1
        go_wp2_with (go_at_call 161; refine HCK.out.mono ?_; rintro e w2 ⟨rfl, hb⟩; have HB2 := Lib.hid (HB.out.trans (hb.mono HB.out.size)); clear hb)
        go_roundg (m - i)
        case measure => omega
        case rel => exact ⟨i, m, rfl, by have := HM.out; go_num, by omega, by omega, by omega, HLO.out, fun q y hq hy => by
              by_cases hqm : q = m
              · subst hqm
                have e := HXM.out.symm.trans hy
                injection e with e
                have := H1.out; rw [← e, ← HSN.out]; omega
              · have := rise_lt HR.out (show m < q by omega) HXM.out hy
                rw [← HSN.out] at this
                have := H1.out
                omega, HB2.out⟩
      · have H1 := Lib.hid h1
        clear h1
        go_wp2_with (go_at_call 161; refine HCK.out.mono ?_; rintro e w2 ⟨rfl, hb⟩; have HB2 := Lib.hid (HB.out.trans (hb.mono HB.out.size)); clear hb)
        go_roundg (m - i)
        case measure => omega
        case rel => exact ⟨i, m, rfl, by have := HM.out; go_num, by omega, by omega, by omega, HLO.out, fun q y hq hy => by
              by_cases hqm : q = m
              · subst hqm
                have e := HXM.out.symm.trans hy
                injection e with e
                have := H1.out; rw [← e, ← HSN.out]; omega
              · have := rise_lt HR.out (show m < q by omega) HXM.out hy
                rw [← HSN.out] at this
                have := H1.out
                omega, HB2.out⟩
    · have g1 : decide ((i : Int) < (j : Int)) = false := decide_eq_false (by omega)
      obtain rfl : i = j := by omega
      by_cases hin : i < n
      · have g4 : decide ((i : Int) < (n : Int)) = true := decide_eq_true (by omega)
        obtain ⟨x, hx⟩ : ∃ x, l[i]? = some x := ⟨_, List.getElem?_eq_getElem (by have := HN.out; omega)⟩
        obtain ⟨ge, oe, cs, rfl, _, _, hr, hc⟩ := H.out.l_at i x hx
        obtain ⟨A1, n1, c1, rfl⟩ := HRR.out _ _ _ hr
        have HXM := Lib.hid hx
        have c0 : wr.cell? ⟨ge, oe + i * 2, none⟩ = some (.int .i64 x.snum) := cell_under HB.out (hc 0 _ rfl)
        have c1' : wr.cell? ⟨ge, oe + i * 2 + 1, none⟩ = some (.slice A1 n1 c1) := cell_under HB.out (hc 1 _ rfl)
        have HCK := Lib.hid (plc_any x.snum num (A := A1) (n := n1) (c := c1) wr)
        obtain ⟨sn, hsn⟩ : ∃ z, z = x.snum := ⟨_, rfl⟩
        rw [← hsn] at c0 HCK
        have HSN := Lib.hid hsn
        have hways := cmpI_ways sn num
        obtain ⟨ci, hci⟩ : ∃ z, z = cmpI sn num := ⟨_, rfl⟩
        rw [← hci] at HCK hways
        clear hx hc hr hsn hci
        have HX2 : Hid (∀ y, l[i]? = some y → y.snum = sn) := Lib.hid (fun y hy => by
          have e := HXM.out.symm.trans hy
          injection e with e
          rw [← e, ← HSN.out])
        rcases hways with ⟨h1, g2, g3⟩ | ⟨h1, g2, g3⟩ | ⟨h1, g2, g3⟩
        · exact absurd (HHI.out i x (Nat.le_refl _) HXM.out) (by rw [← HSN.out]; omega)
        · have H1 := Lib.hid h1
          clear h1
          go_wp2_with (go_at_call 161; refine HCK.out.mono ?_; rintro e w2 ⟨rfl, hb⟩; have HB2 := Lib.hid (HB.out.trans (hb.mono HB.out.size)); clear hb)
          go_ret2
          exact ⟨i, true, rfl, ⟨by have := HN.out; omega, HLO.out, fun _ => ⟨x, HXM.out, by rw [← HSN.out]; exact H1.out⟩, fun h => by cases h⟩, HB2.out⟩
        · have H1 := Lib.hid h1
          clear h1
          go_wp2_with (go_at_call 161; refine HCK.out.mono ?_; rintro e w2 ⟨rfl, hb⟩; have HB2 := Lib.hid (HB.out.trans (hb.mono HB.out.size)); clear hb)
          go_ret2
          exact ⟨i, false, rfl, ⟨by have := HN.out; omega, HLO.out, (fun h => by cases h), fun _ q y hq hy => by
              by_cases hqi : q = i
              · subst hqi
                rw [HX2.out y hy]; exact H1.out
              · have := rise_lt HR.out (show i < q by omega) HXM.out hy
                rw [← HSN.out] at this
                have := H1.out
                omega⟩, HB2.out⟩
      · have g4 : decide ((i : Int) < (n : Int)) = false := decide_eq_false (by omega)
        go_wp2
        go_ret2
        exact ⟨i, false, rfl, ⟨by have := HN.out; omega, HLO.out, (fun h => by cases h), fun _ q y hq hy => by have := (List.getElem?_eq_some_iff.mp hy).1; have := HN.out; omega⟩, HB.out⟩
end Go.Proofs.YtpfdnggacpehdaaGreatDoor

/- The program's With of trees, in parts: a list of slots without some, and with one more. Conditions: those that each theorem names. -/
namespace Go.Proofs.YtpfdnggacpehdaaGreatDoor
open Go.RowKit
set_option linter.unusedVariables false
set_option maxRecDepth 100000

theorem zero_slt : ∀ w, (zeroValue 68).run Tryz.prog w = .ok (.agg #[.int .i64 0, .slice none 0 0]) w := fun w => by
  obtain ⟨i, i1, i2, i3, i4⟩ := info_ofs info_slt
  simp [zeroValue, typeInfo, i1, i2]
end Go.Proofs.YtpfdnggacpehdaaGreatDoor
