/- Several texts in one: TpF, TpG. What each proves, and its conditions, stands at its own head. -/
import Derived.Test.YtakdkocobcicdaaPkTL18
import Derived.Test.YtakdkocobcicdaaPkTL14
import Derived.Lib.AppendZerosOnto
import Derived.Laws.CopyRow
import Derived.Test.YtakdkocobcicdaaPkTL16
import Derived.Test.YtakdkocobcicdaaPkTL19
import Derived.Shelf.Abstract
import Derived.Deep.RegionHeld3
/- Rows of slots of the call's own, known whole: a slot written, cleared, copied (no program's function here). Conditions: those that each theorem names. -/
namespace Go.Proofs.Ytakdkocobcicdaa
open Go.RowKit
set_option linter.unusedVariables false
set_option maxRecDepth 100000

/-- These cells, two each, and what lies behind them. -/
structure RowC (w : World) (g cap : Nat) (css : List (List Value)) (tail : List Value) : Prop where
  r_blk : w.heap[g]? = some (.cells (css.flatten ++ tail).toArray 32 (0, 0))
  r_two : ∀ c ∈ css, c.length = 2
  r_one : ∀ c ∈ css, ∀ u ∈ c, u.oneCell' = true
  r_cap : css.length * 2 + tail.length = cap * 2
  r_max : cap ≤ maxLen
/-- The cells read as these. -/
def Zip {α : Type} (R : List Value → α → Prop) (css : List (List Value)) (l : List α) : Prop := css.length = l.length ∧ ∀ (j : Nat) c x, css[j]? = some c → l[j]? = some x → R c x
theorem flat_two : ∀ {css : List (List Value)}, (∀ c ∈ css, c.length = 2) → css.flatten.length = css.length * 2
  | [], _ => rfl
  | c :: css, h => by
    rw [List.flatten_cons, List.length_append, h c (by simp), flat_two (fun d hd => h d (by simp [hd])), List.length_cons]; omega
theorem flat_set2 : ∀ {css : List (List Value)} {i : Nat} (a b : Value) (tail : List Value), (∀ c ∈ css, c.length = 2) → i < css.length → (((css.flatten ++ tail).set (i * 2) a).set (i * 2 + 1) b) = (css.set i [a, b]).flatten ++ tail
  | [], i, a, b, tail, _, h => absurd h (Nat.not_lt_zero _)
  | c :: css, 0, a, b, tail, h, _ => by
    have hc := h c (by simp)
    match c, hc with
    | [x, y], _ => simp
  | c :: css, i + 1, a, b, tail, h, hi => by
    have hc := h c (by simp)
    match c, hc with
    | [x, y], _ =>
      have ih := flat_set2 a b tail (fun d hd => h d (by simp [hd])) (show i < css.length by simpa using hi)
      rw [List.flatten_cons, List.set_cons_succ, List.flatten_cons]
      show (([x, y] ++ css.flatten ++ tail).set ((i + 1) * 2) a).set ((i + 1) * 2 + 1) b = [x, y] ++ (css.set i [a, b]).flatten ++ tail
      rw [show (i + 1) * 2 = i * 2 + 1 + 1 by omega]
      show x :: y :: (((css.flatten ++ tail).set (i * 2) a).set (i * 2 + 1) b) = x :: y :: ((css.set i [a, b]).flatten ++ tail)
      rw [ih]
section
variable {w w' : World} {g cap : Nat} {css : List (List Value)} {tail : List Value}
theorem rowC_bel (h : RowC w g cap css tail) (hb : Below w.heap.size w w') : RowC w' g cap css tail := ⟨(hb.block _ (lt_of_block h.r_blk)).trans h.r_blk, h.r_two, h.r_one, h.r_cap, h.r_max⟩
theorem rowC_cell (h : RowC w g cap css tail) {j : Nat} {c : List Value} (hc : css[j]? = some c) {i : Nat} {u : Value} (hu : c[i]? = some u) : w.cell? ⟨g, j * 2 + i, none⟩ = some u := by
  have h2 := h.r_two c (List.mem_of_getElem? hc)
  have hi : i < 2 := by have := (List.getElem?_eq_some_iff.mp hu).1; omega
  rw [obj_cell h.r_blk]
  have hf := flatten_get h.r_two j c i hc hi
  rw [hu] at hf
  have hlt := (List.getElem?_eq_some_iff.mp hf).1
  rw [List.getElem?_toArray, List.getElem?_append_left hlt]
  exact hf
theorem rowC_free (h : RowC w g cap css tail) (o : Nat) : w.frozen? ⟨g, o, none⟩ = false := obj_free h.r_blk o
theorem rowC_le (h : RowC w g cap css tail) : css.length ≤ cap := by have := h.r_cap; omega
theorem rowC_set (h : RowC w g cap css tail) {i : Nat} (hi : i < css.length) {a b : Value} (h1 : a.oneCell' = true) (h2 : b.oneCell' = true) : RowC ((w.setCell ⟨g, i * 2, none⟩ a).setCell ⟨g, i * 2 + 1, none⟩ b) g cap (css.set i [a, b]) tail := by
  refine ⟨?_, fun c hc => ?_, fun c hc => ?_, by rw [List.length_set]; exact h.r_cap, h.r_max⟩
  · rw [obj_set (obj_set h.r_blk (i * 2) a) (i * 2 + 1) b]
    congr 2
    rw [← flat_set2 a b tail h.r_two hi, List.setIfInBounds_toArray, List.setIfInBounds_toArray]
  · rcases List.mem_or_eq_of_mem_set hc with hc | rfl
    · exact h.r_two c hc
    · rfl
  · rcases List.mem_or_eq_of_mem_set hc with hc | rfl
    · exact h.r_one c hc
    · intro u hu
      simp at hu
      rcases hu with rfl | rfl <;> assumption
theorem rowC_of {base n : Nat} {R : List Value → Slt → Prop} {l : List Slt} (h : OwnL base 32 2 R w (.slice (some ⟨g, 0, none⟩) n cap) l) : n = l.length ∧ base ≤ g ∧ ∃ css tail, RowC w g cap css tail ∧ Zip R css l := by
  obtain ⟨css, e1, e2, e3⟩ := h
  obtain ⟨A, c, ev, _, _⟩ := own_form e3
  have hn : n = l.length := by cases ev; rfl
  rcases e3.2 with ⟨h0, _⟩ | ⟨g', cap', cur, h0, h3, h4, h5, h6, h7, h8⟩
  · cases h0
  · cases h0
    have hk : ∀ c ∈ css, c.length = 2 := fun c hc => by
      obtain ⟨q, hq, e⟩ := List.mem_iff_getElem.mp hc
      exact (e2 q c l[q] (by rw [List.getElem?_eq_getElem hq, e]) (List.getElem?_eq_getElem (by omega))).1
    have ho : ∀ c ∈ css, ∀ u ∈ c, u.oneCell' = true := fun c hc => by
      obtain ⟨q, hq, e⟩ := List.mem_iff_getElem.mp hc
      exact (e2 q c l[q] (by rw [List.getElem?_eq_getElem hq, e]) (List.getElem?_eq_getElem (by omega))).2.1
    refine ⟨rfl, h3, css, cur.toList.drop (l.length * 2), ⟨?_, hk, ho, ?_, h6⟩, e1, fun j c x hc hx => (e2 j c x hc hx).2.2⟩
    · rw [h4, ← h8, List.take_append_drop]
    · rw [List.length_drop, e1]
      have : cur.toList.length = cap * 2 := by simpa using h7
      omega
theorem ownL_of_row {base : Nat} {R : List Value → Slt → Prop} {l : List Slt} (h : RowC w g cap css tail) (hz : Zip R css l) (hb : base ≤ g) : OwnL base 32 2 R w (.slice (some ⟨g, 0, none⟩) l.length cap) l := by
  have hf := flat_two h.r_two
  refine ⟨css, hz.1, fun j c x hc hx => ⟨h.r_two c (List.mem_of_getElem? hc), h.r_one c (List.mem_of_getElem? hc), hz.2 j c x hc hx⟩, by rw [hf, hz.1], .inr ⟨g, cap, (css.flatten ++ tail).toArray, rfl, hb, h.r_blk, by have := rowC_le h; have := hz.1; omega, h.r_max, ?_, ?_⟩⟩
  · have := h.r_cap
    simp only [List.size_toArray, List.length_append]
    omega
  · rw [← hz.1, ← hf]
    simp
/-- The row's cells from a place on written anew. -/
theorem rowC_store (h : RowC w g cap css tail) {o : Nat} {vs : List Value} (ho : o + vs.length ≤ cap * 2) (h1 : ∀ v ∈ vs, v.oneCell' = true) :
    (storeCells ⟨g, o, none⟩ vs).run Try.prog w = .ok () (w.setRow g (((css.flatten ++ tail).take o ++ vs ++ (css.flatten ++ tail).drop (o + vs.length)).toArray)) := by
  have hsz : (css.flatten ++ tail).toArray.size = cap * 2 := by
    rw [List.size_toArray, List.length_append, flat_two h.r_two]; exact h.r_cap
  have := run_storeCells_at Try.prog g o 32 vs 0 (css.flatten ++ tail).toArray w h.r_blk (by rw [hsz]; omega) h1
  simpa using this
theorem bel_setRow {base : Nat} {a : World} (hb : Below base a w) (hg : base ≤ g) (cs : Array Value) (hz : base ≤ w.heap.size) : Below base a (w.setRow g cs) :=
  hb.trans ⟨rfl, rfl, rfl, by simp [World.setRow], fun k hk => by simp only [World.setRow, Array.getElem?_modify]; rw [if_neg (by omega)]⟩
theorem size_setRow (w : World) (g : Nat) (cs : Array Value) : (w.setRow g cs).heap.size = w.heap.size := by simp [World.setRow]
theorem zeros_two (a b : Value) (n : Nat) : (Builtin.zeroCells #[a, b] n).toList = (List.replicate n [a, b]).flatten := by
  apply List.ext_getElem?
  intro j
  have hz : ∀ c ∈ List.replicate n [a, b], c.length = 2 := fun c hc => by rw [List.eq_of_mem_replicate hc]; rfl
  by_cases hj : j < n * 2
  · have h1 : (List.replicate n [a, b]).flatten[j]? = ([a, b] : List Value)[j % 2]? := by
      have := flatten_get hz (j / 2) [a, b] (j % 2) (by rw [List.getElem?_replicate, if_pos (by omega)]) (Nat.mod_lt _ (by decide))
      rw [Nat.div_add_mod' j 2] at this
      exact this
    rw [h1]
    simp only [Builtin.zeroCells, Array.toList_map, List.getElem?_map, Array.toList_range]
    rw [List.getElem?_range (by simpa using hj)]
    have hm : j % 2 < 2 := Nat.mod_lt _ (by decide)
    simp only [Option.map_some]
    rcases Nat.lt_or_ge (j % 2) 1 with h | h
    · have : j % 2 = 0 := by omega
      simp [this]
    · have : j % 2 = 1 := by omega
      simp [this]
  · rw [List.getElem?_eq_none (by simp [Builtin.zeroCells]; omega), List.getElem?_eq_none (by rw [flat_two hz, List.length_replicate]; omega)]
/-- 'clear' of what lies behind the first i. -/
theorem rowC_clear (h : RowC w g cap css tail) {i : Nat} (hi : i < css.length) (hv : ∀ w, (zeroValue 32).run Try.prog w = .ok (.agg #[.int .i64 0, .slice none 0 0]) w) :
    ∃ w', (∀ (ty : TypeId) (c : Nat), (Builtin.clear_ #[22] ty #[.slice (some ⟨g, i * 2, none⟩) (css.length - i) c]).run Try.prog w = .ok (.tuple #[]) w') ∧ (∃ tail', RowC w' g cap (css.take i) tail') ∧ (∀ base a, Below base a w → base ≤ g → base ≤ w.heap.size → Below base a w') := by
  have hl := flat_two h.r_two
  have hcap := h.r_cap
  obtain ⟨m, hm⟩ : ∃ m, css.length - i = m + 1 := ⟨css.length - i - 1, by omega⟩
  have hz := zeros_two (.int .i64 0) (.slice none 0 0) (m + 1)
  have hzl : (List.replicate (m + 1) [Value.int .i64 0, Value.slice none 0 0]).flatten.length = (m + 1) * 2 := by
    rw [flat_two (fun c hc => by rw [List.eq_of_mem_replicate hc]; rfl), List.length_replicate]
  have hst := rowC_store h (o := i * 2) (vs := (List.replicate (m + 1) [Value.int .i64 0, Value.slice none 0 0]).flatten) (by rw [hzl]; omega) (fun v hv => by
    obtain ⟨c, hc, hvc⟩ := List.mem_flatten.mp hv
    rw [List.eq_of_mem_replicate hc] at hvc
    simp at hvc
    rcases hvc with rfl | rfl <;> rfl)
  refine ⟨w.setRow g (((css.flatten ++ tail).take (i * 2) ++ (List.replicate (m + 1) [Value.int .i64 0, Value.slice none 0 0]).flatten ++ (css.flatten ++ tail).drop (i * 2 + (List.replicate (m + 1) [Value.int .i64 0, Value.slice none 0 0]).flatten.length)).toArray), ?_, ⟨(List.replicate (m + 1) [Value.int .i64 0, Value.slice none 0 0]).flatten ++ tail, ?_, fun c hc => h.r_two c (List.mem_of_mem_take hc), fun c hc => h.r_one c (List.mem_of_mem_take hc), ?_, h.r_max⟩, fun base a hb hg hs => bel_setRow hb hg _ hs⟩
  · intro ty c
    rw [hm]
    simp [Builtin.clear_, run_underlying Try.underlying22, hv, Value.cells, hz, hst]
  · have hti : (css.take i).flatten.length = i * 2 := by rw [flat_two (fun c hc => h.r_two c (List.mem_of_mem_take hc)), List.length_take]; omega
    have t1 : (css.flatten ++ tail).take (i * 2) = (css.take i).flatten := by
      have e : css.flatten ++ tail = (css.take i).flatten ++ ((css.drop i).flatten ++ tail) := by rw [← List.append_assoc, ← List.flatten_append, List.take_append_drop]
      rw [e, ← hti]
      simp
    have t2 : (css.flatten ++ tail).drop (i * 2 + (m + 1) * 2) = tail := by
      rw [show i * 2 + (m + 1) * 2 = css.flatten.length by rw [hl]; omega]
      simp
    rw [setRow_heap w g _ _ _ _ h.r_blk, hzl, t1, t2, List.append_assoc]
  · rw [List.length_append, hzl, List.length_take]
    omega
/-- 'copy' into the row. -/
theorem rowC_copy (h : RowC w g cap css tail) {o dLen dCap sLen sCap : Nat} {a : Addr} {cs : List Value} (ty : TypeId) (hs : (Try.prog.info? 32).map (·.size) = some 2) (hn : cs.length = Nat.min sLen dLen * 2) (hsrc : ∀ j v, cs[j]? = some v → w.cell? (a.add j) = some v) (hfit : o + cs.length ≤ cap * 2) (h1 : ∀ v ∈ cs, v.oneCell' = true) :
    (Builtin.copy_ #[22, 22] ty #[.slice (some ⟨g, o, none⟩) dLen dCap, .slice (some a) sLen sCap]).run Try.prog w = .ok (goInt (Nat.min sLen dLen)) (w.setRow g (((css.flatten ++ tail).take o ++ cs ++ (css.flatten ++ tail).drop (o + cs.length)).toArray)) := by
  have hl := run_loadCells_list (P := Try.prog) w a cs hsrc
  have hst := rowC_store h hfit h1
  cases hq : Try.prog.info? 32 with
  | none => simp [hq] at hs
  | some i =>
    have hi : i.size = 2 := by simpa [hq] using hs
    simp [Builtin.copy_, run_underlying Try.underlying22, Builtin.lenOf, Builtin.firstCells, sizeOf, typeInfo, hq, hi, ← hn, hl, hst]
/-- These slots written from place p on, as far as the row went, or further. -/
theorem rowC_write (h : RowC w g cap css tail) {p : Nat} {ds : List (List Value)} (h2 : ∀ c ∈ ds, c.length = 2) (h1 : ∀ c ∈ ds, ∀ u ∈ c, u.oneCell' = true) (hp : p ≤ css.length) (hl : css.length ≤ p + ds.length) (hc : p + ds.length ≤ cap) :
    RowC (w.setRow g (((css.flatten ++ tail).take (p * 2) ++ ds.flatten ++ (css.flatten ++ tail).drop (p * 2 + ds.flatten.length)).toArray)) g cap (css.take p ++ ds) (tail.drop ((p + ds.length - css.length) * 2)) := by
  have hf := flat_two h.r_two
  have hd := flat_two h2
  have hcap := h.r_cap
  refine ⟨?_, fun c hc => ?_, fun c hc => ?_, ?_, h.r_max⟩
  · have hti : (css.take p).flatten.length = p * 2 := by rw [flat_two (fun c hc => h.r_two c (List.mem_of_mem_take hc)), List.length_take]; omega
    have t1 : (css.flatten ++ tail).take (p * 2) = (css.take p).flatten := by
      have e : css.flatten ++ tail = (css.take p).flatten ++ ((css.drop p).flatten ++ tail) := by rw [← List.append_assoc, ← List.flatten_append, List.take_append_drop]
      rw [e, ← hti]
      simp
    have t2 : (css.flatten ++ tail).drop (p * 2 + ds.flatten.length) = tail.drop ((p + ds.length - css.length) * 2) := by
      rw [List.drop_append, List.drop_of_length_le (by rw [hf, hd]; omega), List.nil_append]
      congr 1
      rw [hf, hd]
      omega
    rw [setRow_heap w g _ _ _ _ h.r_blk, t1, t2, List.flatten_append]
  · rcases List.mem_append.mp hc with hc | hc
    · exact h.r_two c (List.mem_of_mem_take hc)
    · exact h2 c hc
  · rcases List.mem_append.mp hc with hc | hc
    · exact h.r_one c (List.mem_of_mem_take hc)
    · exact h1 c hc
  · rw [List.length_append, List.length_take, List.length_drop]
    omega
/-- One slot written. -/
theorem rowC_put (h : RowC w g cap css tail) {i : Nat} (hi : i < css.length) {a b : Value} (h1 : a.oneCell' = true) (h2 : b.oneCell' = true) :
    RowC (w.setRow g (((css.flatten ++ tail).take (i * 2) ++ [a, b] ++ (css.flatten ++ tail).drop (i * 2 + 2)).toArray)) g cap (css.set i [a, b]) tail := by
  have hf := flat_two h.r_two
  have hcap := h.r_cap
  refine ⟨?_, fun c hc => ?_, fun c hc => ?_, by rw [List.length_set]; exact h.r_cap, h.r_max⟩
  · rw [setRow_heap w g _ _ _ _ h.r_blk, ← flat_set2 a b tail h.r_two hi]
    congr 2
    have hlen : i * 2 + 1 < (css.flatten ++ tail).length := by rw [List.length_append, hf]; omega
    obtain ⟨L, hL⟩ : ∃ L, L = css.flatten ++ tail := ⟨_, rfl⟩
    rw [← hL] at hlen ⊢
    refine congrArg List.toArray (List.ext_getElem? fun j => ?_)
    simp only [List.getElem?_append, List.length_take, List.length_append, List.getElem?_take, List.getElem?_drop, List.getElem?_set, List.length_set, List.length_cons, List.length_nil]
    have hm : min (i * 2) L.length = i * 2 := by omega
    rw [hm]
    by_cases h0 : j < i * 2
    · simp [h0, show j < i * 2 + 2 by omega, show ¬ i * 2 + 1 = j by omega, show ¬ i * 2 = j by omega]
    · by_cases h3 : j = i * 2
      · subst h3
        simp [show i * 2 < L.length by omega]
      · by_cases h4 : j = i * 2 + 1
        · subst h4
          simp [show i * 2 + 1 < L.length by omega, show ¬ i * 2 + 1 < i * 2 by omega]
        · simp [show ¬ j < i * 2 + 2 by omega, show ¬ i * 2 + 1 = j by omega, show ¬ i * 2 = j by omega]
          congr 1
          omega
  · rcases List.mem_or_eq_of_mem_set hc with hc | rfl
    · exact h.r_two c hc
    · rfl
  · rcases List.mem_or_eq_of_mem_set hc with hc | rfl
    · exact h.r_one c hc
    · intro u hu
      simp at hu
      rcases hu with rfl | rfl <;> assumption
end
section
variable {α : Type} {R : List Value → α → Prop}
theorem zip_app {a b : List (List Value)} {l m : List α} (h : Zip R a l) (k : Zip R b m) : Zip R (a ++ b) (l ++ m) := by
  refine ⟨by rw [List.length_append, List.length_append, h.1, k.1], fun j c x hc hx => ?_⟩
  by_cases hj : j < l.length
  · rw [List.getElem?_append_left (by rw [h.1]; exact hj)] at hc
    rw [List.getElem?_append_left hj] at hx
    exact h.2 j c x hc hx
  · rw [List.getElem?_append_right (by rw [h.1]; omega)] at hc
    rw [List.getElem?_append_right (by omega)] at hx
    rw [h.1] at hc
    exact k.2 _ c x hc hx
theorem zip_one {c : List Value} {x : α} (h : R c x) : Zip R [c] [x] := ⟨rfl, fun j d y hd hy => by
  match j, hd, hy with
  | 0, hd, hy =>
    simp at hd hy
    rw [← hd, ← hy]
    exact h
  | j + 1, hd, hy => simp at hd⟩
theorem zip_take {a : List (List Value)} {l : List α} (h : Zip R a l) (n : Nat) : Zip R (a.take n) (l.take n) := by
  refine ⟨by rw [List.length_take, List.length_take, h.1], fun j c x hc hx => ?_⟩
  rw [List.getElem?_take] at hc hx
  split at hc
  · rename_i hj
    rw [if_pos hj] at hx
    exact h.2 j c x hc hx
  · cases hc
theorem zip_drop {a : List (List Value)} {l : List α} (h : Zip R a l) (n : Nat) : Zip R (a.drop n) (l.drop n) := by
  refine ⟨by rw [List.length_drop, List.length_drop, h.1], fun j c x hc hx => ?_⟩
  rw [List.getElem?_drop] at hc hx
  exact h.2 _ c x hc hx
end
end Go.Proofs.Ytakdkocobcicdaa

/- The program's With of trees, in parts: its closures, a list of slots cloned, searched, and without those of a number. Conditions: those that each theorem names. -/
namespace Go.Proofs.Ytakdkocobcicdaa
open Go.RowKit
set_option linter.unusedVariables false
set_option maxRecDepth 100000

def eqP (num : Int) (s : Slt) : Bool := decide (s.snum = num)
def gtP (num : Int) (s : Slt) : Bool := decide (num < s.snum)
def boxI (num : Int) : Obj := .cells #[.int .i64 num] 3 (0, 0)
set_option maxHeartbeats 2000000 in
theorem peq_any (s : Slt) (num : Int) {A : Option Addr} {n c : Nat} {u : World} {b : Nat} (hb : u.heap[b]? = some (boxI num)) :
    Calls Try.prog 37 #[.agg #[.int .i64 s.snum, .slice A n c], .pointer (some ⟨b, 0, none⟩)] u fun e w' => e = .returned (.bool (eqP num s)) ∧ Below u.heap.size u w' := by
  have HBX := Lib.hid (bx_start u #[.int .i64 s.snum, .slice A n c] 32)
  have r0 := obj_cell (HBX.out).b_blk 0
  have k0 : (u.alloc (.cells #[.int .i64 s.snum, .slice A n c] 32)).cell? ⟨b, 0, none⟩ = some (.int .i64 num) := obj_cell ((HBX.out.b_bel.block _ (lt_of_some hb)).trans hb) 0
  have HO : Hid (eqP num s = (s.snum == num)) := Lib.hid (by unfold eqP; by_cases h : s.snum = num <;> simp [h])
  obtain ⟨sn, hsn⟩ : ∃ z, z = s.snum := ⟨_, rfl⟩
  rw [← hsn] at HO HBX r0 k0 ⊢
  clear hb hsn
  go_enter Try.func37, Try.ntmps37
  go_wp2
  go_ret
  exact ⟨ret_bool' HO.out.symm, HBX.out.b_bel⟩
set_option maxHeartbeats 2000000 in
theorem pgt_any (s : Slt) (num : Int) {A : Option Addr} {n c : Nat} {u : World} {b : Nat} (hb : u.heap[b]? = some (boxI num)) :
    Calls Try.prog 39 #[.agg #[.int .i64 s.snum, .slice A n c], .pointer (some ⟨b, 0, none⟩)] u fun e w' => e = .returned (.bool (gtP num s)) ∧ Below u.heap.size u w' := by
  have HBX := Lib.hid (bx_start u #[.int .i64 s.snum, .slice A n c] 32)
  have r0 := obj_cell (HBX.out).b_blk 0
  have k0 : (u.alloc (.cells #[.int .i64 s.snum, .slice A n c] 32)).cell? ⟨b, 0, none⟩ = some (.int .i64 num) := obj_cell ((HBX.out.b_bel.block _ (lt_of_some hb)).trans hb) 0
  have HO : Hid (gtP num s = decide (num < s.snum)) := Lib.hid rfl
  obtain ⟨sn, hsn⟩ : ∃ z, z = s.snum := ⟨_, rfl⟩
  rw [← hsn] at HO HBX r0 k0 ⊢
  clear hb hsn
  go_enter Try.func39, Try.ntmps39
  go_wp2
  go_ret
  exact ⟨ret_bool' HO.out.symm, HBX.out.b_bel⟩

/-- Where the first one is. -/
def IdxAt (p : Slt → Bool) (l : List Slt) (r : Int) : Prop := (r = -1 ∧ ∀ x ∈ l, p x = false) ∨ ∃ i : Nat, r = (i : Int) ∧ i < l.length ∧ (∀ (j : Nat) (x : Slt), j < i → l[j]? = some x → p x = false) ∧ ∀ x, l[i]? = some x → p x = true
/-- What a function that is handed on says of slots. -/
def SaysOf (kf : Nat) (caps : Array Value) (base : Nat) (w : World) (p : Slt → Bool) : Prop := ∀ (x : Slt) (A1 : Option Addr) (n1 c1 : Nat) (u : World), Below base w u → Calls Try.prog kf (#[.agg #[.int .i64 x.snum, .slice A1 n1 c1]] ++ caps) u fun e w' => e = .returned (.bool (p x)) ∧ Below u.heap.size u w'
set_option maxHeartbeats 4000000 in
theorem idx_slt {S : Nat → Prop} {RR : World → List Value → Slt → Prop} {base : Nat} {w0 : World} (hRR : ∀ w cs x, RR w cs x → ∃ A1 n1 c1, cs = [.int .i64 x.snum, .slice A1 n1 c1]) (w : World) {A : Option Addr} {cap n : Nat} {l : List Slt} (h : Lst 2 S RR w A cap l) (hn : n = l.length) (kf : Nat) (caps : Array Value) (henter : Enters Try.prog kf) {p : Slt → Bool} (hp : SaysOf kf caps base w0 p) (hb : Below base w0 w) (hbs : base ≤ w.heap.size) :
    Calls Try.prog 38 #[.slice A n cap, .func (.func kf) #[] caps] w fun e w' => ∃ r : Int, e = .returned (.int .i64 r) ∧ IdxAt p l r ∧ Below w.heap.size w w' := by
  have q1 : n ≤ cap := by have := h.l_le; omega
  have q2 := h.l_max
  unfold maxLen at q2
  have hent : ∀ (args : Array Value) (w : World), (callFunc kf args).run Try.prog w = .ok (.enter kf args) w := henter
  have H := Lib.hid h
  have HN := Lib.hid hn
  have HP := Lib.hid hp
  have HB0 := Lib.hid hb
  have HBS := Lib.hid hbs
  clear h hn hp henter hb hbs
  go_enter Try.func38, Try.ntmps38
  go_wp2
  go_loopw [5, 8] (fun u x wr => ∃ i : Nat, x = .int .i64 (i : Int) ∧ i ≤ n ∧ (∀ (j : Nat) (x : Slt), j < i → l[j]? = some x → p x = false) ∧ Below w.heap.size w wr) (fun u x _ => n - (intOf x).toNat)
  case atStart => exact ⟨0, rfl, Nat.zero_le _, fun j x hj => absurd hj (Nat.not_lt_zero _), Below.refl _ _⟩
  case round =>
    obtain ⟨i, rfl, hi, hall, hbel⟩ := hrel
    have HALL := Lib.hid hall
    have hb0 := Lib.hid hbel
    clear hall hbel
    by_cases hlt : i < n
    · have g1 : decide ((i : Int) < (n : Int)) = true := decide_eq_true (by omega)
      obtain ⟨x, hx⟩ : ∃ x, l[i]? = some x := ⟨_, List.getElem?_eq_getElem (by have := HN.out; omega)⟩
      obtain ⟨ge, oe, cs, rfl, _, _, hr, hc⟩ := H.out.l_at i x hx
      obtain ⟨A1, n1, c1, rfl⟩ := hRR _ _ _ hr
      have HXI := Lib.hid hx
      have c0 : wr.cell? ⟨ge, oe + i * 2, none⟩ = some (.int .i64 x.snum) := cell_under hb0.out (hc 0 _ rfl)
      have c1' : wr.cell? ⟨ge, oe + i * 2 + 1, none⟩ = some (.slice A1 n1 c1) := cell_under hb0.out (hc 1 _ rfl)
      have HCK := Lib.hid (HP.out x A1 n1 c1 wr (HB0.out.trans (hb0.out.mono HBS.out)))
      obtain ⟨sn, hsn⟩ : ∃ z, z = x.snum := ⟨_, rfl⟩
      rw [← hsn] at c0 HCK
      obtain ⟨b, hbp⟩ : ∃ b, b = p x := ⟨_, rfl⟩
      have HBP := Lib.hid hbp
      rw [← hbp] at HCK
      clear hbp hx hc hr hsn
      cases b with
      | true =>
        go_wp2_with (go_at_fn kf; refine HCK.out.mono ?_; rintro e w2 ⟨rfl, hb⟩; have HB2 := Lib.hid (hb0.out.trans (hb.mono hb0.out.size)); clear hb)
        go_ret
        exact ⟨(i : Int), rfl, .inr ⟨i, rfl, by have := HN.out; omega, HALL.out, fun y hy => by have e := HXI.out.symm.trans hy; injection e with e; rw [← e]; exact HBP.out.symm⟩, HB2.out⟩
      | false =>
        go_wp2_with (go_at_fn kf; refine HCK.out.mono ?_; rintro e w2 ⟨rfl, hb⟩; have HB2 := Lib.hid (hb0.out.trans (hb.mono hb0.out.size)); clear hb)
        go_roundw
        case rel => exact ⟨i + 1, by go_num, by omega, (fun j y hj hy => by
              by_cases hji : j < i
              · exact HALL.out j y hji hy
              · have : j = i := by omega
                subst this
                have e := HXI.out.symm.trans hy
                injection e with e
                rw [← e]
                exact HBP.out.symm), HB2.out⟩
        case measure => simp [intOf]; omega
    · have g1 : decide ((i : Int) < (n : Int)) = false := decide_eq_false (by omega)
      have HF : Hid (∀ x ∈ l, p x = false) := Lib.hid (fun x hx => by
        obtain ⟨j, hj, e⟩ := List.mem_iff_getElem.mp hx
        exact HALL.out j x (by have := HN.out; omega) (by rw [List.getElem?_eq_getElem hj, e]))
      go_wp2
      go_ret
      exact ⟨-1, rfl, .inl ⟨rfl, HF.out⟩, hb0.out⟩

theorem sl_cells {S : Nat → Prop} {k : Nat} (w : World) (cs : List Value) (x : Slt) (h : slR (trR S k) S w cs x) : ∃ A1 n1 c1, cs = [.int .i64 x.snum, .slice A1 n1 c1] := by
  obtain ⟨A, c, e, _⟩ := h
  exact ⟨A, _, c, e⟩
theorem lst_css {R : World → List Value → Slt → Prop} {S : Nat → Prop} {w : World} {A : Option Addr} {c : Nat} {l : List Slt} (h : Lst 2 S R w A c l) : ∃ css : List (List Value), css.length = l.length ∧ (∀ (j : Nat) d x, css[j]? = some d → l[j]? = some x → d.length = 2 ∧ R w d x) ∧ ∀ ad, A = some ad → ∀ j u, css.flatten[j]? = some u → w.cell? (ad.add j) = some u := by
  have one : ∀ j, j < l.length → ∃ d : List Value, d.length = 2 ∧ (∀ x, l[j]? = some x → R w d x) ∧ ∃ g off, A = some ⟨g, off, none⟩ ∧ ∀ i u, d[i]? = some u → w.cell? ⟨g, off + j * 2 + i, none⟩ = some u := by
    intro j hj
    obtain ⟨g, off, cs, e, _, hl, hr, hc⟩ := h.l_at j _ (List.getElem?_eq_getElem hj)
    exact ⟨cs, hl, fun x hx => by rw [List.getElem?_eq_getElem hj] at hx; injection hx with hx; rw [← hx]; exact hr, g, off, e, hc⟩
  obtain ⟨f, hf⟩ : ∃ f : Nat → List Value, ∀ j, j < l.length → (f j).length = 2 ∧ (∀ x, l[j]? = some x → R w (f j) x) ∧ ∃ g off, A = some ⟨g, off, none⟩ ∧ ∀ i u, (f j)[i]? = some u → w.cell? ⟨g, off + j * 2 + i, none⟩ = some u := Deep.choose_lt one
  have h2 : ∀ d ∈ (List.range l.length).map f, d.length = 2 := fun d hd => by
    obtain ⟨j, hj, rfl⟩ := List.mem_map.mp hd
    exact (hf j (by simpa using hj)).1
  refine ⟨(List.range l.length).map f, by simp, fun j d x hd hx => ?_, fun ad hA j u hu => ?_⟩
  · have hj := (List.getElem?_eq_some_iff.mp hx).1
    have : d = f j := by simp [hj] at hd; exact hd.symm
    rw [this]
    exact ⟨(hf j hj).1, (hf j hj).2.1 x hx⟩
  · have hjl := (List.getElem?_eq_some_iff.mp hu).1
    rw [flat_two h2, List.length_map, List.length_range] at hjl
    have hq : j / 2 < l.length := by omega
    obtain ⟨_, _, g, off, e, hc⟩ := hf (j / 2) hq
    rw [hA] at e
    injection e with e
    subst e
    have h3 := flatten_get h2 (j / 2) (f (j / 2)) (j % 2) (by simp [hq]) (Nat.mod_lt _ (by decide))
    rw [show j / 2 * 2 + j % 2 = j by omega, hu] at h3
    have h4 := hc (j % 2) u h3.symm
    have hplain : (⟨g, off, none⟩ : Addr).add j = ⟨g, off + j, none⟩ := by unfold Addr.add; split <;> simp_all
    rw [hplain, show off + j = off + j / 2 * 2 + j % 2 by omega]
    exact h4
set_option maxHeartbeats 4000000 in
theorem clone_slt {S : Nat → Prop} {k : Nat} (w : World) {A : Option Addr} {c n : Nat} {l : List Slt} (h : Lst 2 S (slR (trR S k) S) w A c l) (hn : n = l.length) (hm : n ≤ 1000) :
    Calls Try.prog 36 #[.slice A n c] w fun e w' => ∃ v, e = .returned v ∧ OwnL w.heap.size 32 2 (slR (trR S k) S w) w' v l ∧ Below w.heap.size w w' := by
  have q1 : n ≤ c := by have := h.l_le; omega
  have q2 := h.l_max
  unfold maxLen at q2
  rcases A with _ | a
  · have h0 := h.l_nil rfl
    have hl : l = [] := List.eq_nil_of_length_eq_zero (by omega)
    subst hl h0
    have hn0 : n = 0 := hn
    subst hn0
    have hnil : (binOp .eql 22 (.slice none 0 0) (.slice none 0 0)).run Try.prog w = .ok (.bool true) w := rfl
    clear h hn
    go_enter Try.func36, Try.ntmps36
    go_wp2
    go_ret
    exact ⟨_, rfl, ownL_nil _ _ _ _ _, Below.refl _ _⟩
  · obtain ⟨i, i1, i2, i3, i4⟩ := info_ofs info_slt
    obtain ⟨css, e1, e2, e3⟩ := lst_css h
    have hk2 : ∀ d ∈ css, d.length = 2 := fun d hd => by
      obtain ⟨q, hq, e⟩ := List.mem_iff_getElem.mp hd
      exact (e2 q d l[q] (by rw [List.getElem?_eq_getElem hq, e]) (List.getElem?_eq_getElem (by omega))).1
    have ho1 : ∀ d ∈ css, ∀ u ∈ d, u.oneCell' = true := fun d hd => by
      obtain ⟨q, hq, e⟩ := List.mem_iff_getElem.mp hd
      obtain ⟨A1, n1, c1, ec⟩ := sl_cells _ _ _ (e2 q d l[q] (by rw [List.getElem?_eq_getElem hq, e]) (List.getElem?_eq_getElem (by omega))).2
      subst ec
      intro u hu
      simp at hu
      rcases hu with rfl | rfl <;> rfl
    have HB1 : Hid (Below w.heap.size w (w.alloc (.cells #[] 32))) := Lib.hid ((Below.refl _ w).alloc (Nat.le_refl _) _)
    have HRA : Hid (∃ v' w', (Builtin.append_ #[22, 22] 22 #[.slice (some ⟨w.heap.size, 0, none⟩) 0 0, .slice (some a) n c]).run Try.prog (w.alloc (.cells #[] 32)) = .ok v' w' ∧ (OwnL w.heap.size 32 2 (slR (trR S k) S w) w' v' l ∧ Below w.heap.size w w')) := Lib.hid (by
      have hrow : (w.alloc (.cells #[] 32)).ownsRow w.heap.size 32 2 (.slice (some ⟨w.heap.size, 0, none⟩) 0 0) 0 [] := ⟨by simp, .inr ⟨w.heap.size, 0, #[], rfl, Nat.le_refl _, heap_alloc_new _ _, Nat.le_refl _, by decide, by simp, by simp⟩⟩
      obtain ⟨v', w', hr, ho, hg, hmv⟩ := run_append_own2 (P := Try.prog) (w.alloc (.cells #[] 32)) w.heap.size 22 22 32 i _ 2 32 Try.underlying22 i1 i2 i3 i4 rfl (by decide) _ 0 [] hrow a n c css.flatten (by rw [flat_two hk2, e1, hn]) (fun j u hu => cell_under HB1.out (e3 a rfl j u hu)) (fun u hu => by
        obtain ⟨d, hd, hud⟩ := List.mem_flatten.mp hu
        exact ho1 d hd u hud) (by unfold maxLen; omega) (by omega) (by simp)
      rw [Nat.zero_add, List.nil_append] at ho
      refine ⟨v', w', hr, ⟨css, e1, fun j d x hd hx => ⟨(e2 j d x hd hx).1, ho1 d (List.mem_of_getElem? hd), (e2 j d x hd hx).2⟩, by rw [← hn]; exact ho⟩, HB1.out.grown hg HB1.out.size (fun q hq => by simp [Value.ownBlock] at hq; omega)⟩)
    have hnil : ∀ n c, (binOp .eql 22 (.slice (some a) n c) (.slice none 0 0)).run Try.prog w = .ok (.bool false) w := fun _ _ => rfl
    clear h hn e1 e2 e3 hk2 ho1 i1 i2 i3 i4
    go_enter Try.func36, Try.ntmps36
    go_wp2_with (at_builtin; refine wpList_append_x rfl _ _ rfl rfl rfl HRA.out ?_; rintro v2 w2 ⟨ho, hb⟩; have HO := Lib.hid ho; have HB := Lib.hid hb; clear ho hb)
    go_ret
    exact ⟨_, rfl, HO.out, HB.out⟩
end Go.Proofs.Ytakdkocobcicdaa
