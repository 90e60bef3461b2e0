/- Several texts in one: TrRow. What each proves, and its conditions, stands at its own head. -/
import Derived.Test.YtakdkocobcicdaaPkTL15
import Derived.Test.YtakdkocobcicdaaPkTL2
import Derived.Test.YtakdkocobcicdaaChecked
import Derived.Test.YtakdkocobcicdaaPkTL0
import Derived.WalkKit
import Derived.RowKitTokens
import Derived.OwnWalk
import Derived.Deep.AppendLies
/- Rows of the call's own that hold things with lists of their own (no program's function here): what they hold, one thing more, what they read as. Conditions: those that each theorem names. -/
namespace Go.Proofs.Ytakdkocobcicdaa
open Go.RowKit
set_option linter.unusedVariables false
set_option maxRecDepth 100000

/-- A row of the call's own, from 'base' on: one thing for each of l; R says how a thing's cells read. -/
def OwnL {α : Type} (base : Nat) (t : TypeId) (k : Nat) (R : List Value → α → Prop) (w : World) (v : Value) (l : List α) : Prop :=
  ∃ css : List (List Value), css.length = l.length ∧ (∀ (j : Nat) c x, css[j]? = some c → l[j]? = some x → c.length = k ∧ (∀ u ∈ c, u.oneCell' = true) ∧ R c x) ∧ w.ownsRow base t k v l.length css.flatten
section
variable {α : Type} {base k : Nat} {t : TypeId} {R R' : List Value → α → Prop} {w w' : World} {v : Value} {l : List α}
theorem ownL_nil (base : Nat) (t : TypeId) (k : Nat) (R : List Value → α → Prop) (w : World) : OwnL base t k R w (.slice none 0 0) ([] : List α) :=
  ⟨[], rfl, fun j c x h => by simp at h, World.ownsRow_nil _ _ _ _⟩
theorem ownL_keep (h : OwnL base t k R w v l) (hR : ∀ c x, R c x → R' c x) (hb : ∀ g, v.ownBlock = some g → w'.heap[g]? = w.heap[g]?) : OwnL base t k R' w' v l := by
  obtain ⟨css, h1, h2, h3⟩ := h
  exact ⟨css, h1, fun j c x hc hx => ⟨(h2 j c x hc hx).1, (h2 j c x hc hx).2.1, hR c x (h2 j c x hc hx).2.2⟩, own_block h3 hb⟩
theorem ownL_blk (h : OwnL base t k R w v l) : ∀ g, v.ownBlock = some g → base ≤ g ∧ g < w.heap.size := by
  obtain ⟨css, h1, h2, h3⟩ := h
  exact fun g hg => h3.lt g hg
theorem ownL_bel (h : OwnL base t k R w v l) (hR : ∀ c x, R c x → R' c x) (hb : Below w.heap.size w w') : OwnL base t k R' w' v l :=
  ownL_keep h hR (fun g hg => hb.block g (ownL_blk h g hg).2)
theorem ownL_form (h : OwnL base t k R w v l) : ∃ A c, v = .slice A l.length c ∧ l.length ≤ c ∧ c ≤ maxLen := by
  obtain ⟨css, h1, h2, h3⟩ := h
  obtain ⟨A, c, e, a, b, _⟩ := own_form h3
  exact ⟨A, c, e, a, b⟩
theorem ownL_slc (h : OwnL base t k R w v l) : ∃ A n c, v = .slice A n c := by
  obtain ⟨A, c, e, _⟩ := ownL_form h
  exact ⟨A, _, c, e⟩
theorem flatten_get {β : Type} {k : Nat} : ∀ {css : List (List β)}, (∀ c ∈ css, c.length = k) → ∀ (j : Nat) (c : List β) (i : Nat), css[j]? = some c → i < k → css.flatten[j * k + i]? = c[i]?
  | [], _, j, c, i, h, _ => by simp at h
  | b :: css, hk, 0, c, i, h, hi => by
    obtain rfl : b = c := by simpa using h
    rw [List.flatten_cons, List.getElem?_append_left (by rw [hk b (by simp)]; omega)]; simp
  | b :: css, hk, j + 1, c, i, h, hi => by
    have hb := hk b (by simp)
    rw [List.flatten_cons, List.getElem?_append_right (by rw [hb, Nat.succ_mul]; omega), hb, show (j + 1) * k + i - k = j * k + i by rw [Nat.succ_mul]; omega]
    exact flatten_get (fun c hc => hk c (List.mem_cons_of_mem _ hc)) j c i (by simpa using h) hi
/-- One thing's cells. -/
theorem ownL_at (h : OwnL base t k R w v l) {j : Nat} {x : α} (hx : l[j]? = some x) : ∃ g cap c, v = .slice (some ⟨g, 0, none⟩) l.length cap ∧ base ≤ g ∧ g < w.heap.size ∧ c.length = k ∧ R c x ∧ ∀ i u, c[i]? = some u → w.cell? ⟨g, j * k + i, none⟩ = some u := by
  obtain ⟨css, h1, h2, h3⟩ := h
  have hj := (List.getElem?_eq_some_iff.mp hx).1
  obtain ⟨g, cap, rfl, hb, _, _, hg⟩ := own_pos h3 (by omega)
  have hc : ∃ c, css[j]? = some c := ⟨_, List.getElem?_eq_getElem (by omega)⟩
  obtain ⟨c, hc⟩ := hc
  refine ⟨g, cap, c, rfl, hb, hg, (h2 j c x hc hx).1, (h2 j c x hc hx).2.2, fun i u hu => ?_⟩
  have hi : i < k := by have := (List.getElem?_eq_some_iff.mp hu).1; rw [(h2 j c x hc hx).1] at this; exact this
  refine own_cell h3 rfl ?_
  rw [flatten_get (fun c' hc' => ?_) j c i hc hi, hu]
  obtain ⟨q, hq, e⟩ := List.mem_iff_getElem.mp hc'
  exact (h2 q c' l[q] (by rw [List.getElem?_eq_getElem hq, e]) (List.getElem?_eq_getElem (by omega))).1
theorem ownL_lst {RR : World → List Value → α → Prop} (h : OwnL base t k (RR w) w v l) : ∃ A c, v = .slice A l.length c ∧ ∀ S : Nat → Prop, (∀ g, v.ownBlock = some g → S g) → Lst k S RR w A c l := by
  obtain ⟨A, c, e, a, b⟩ := ownL_form h
  subst e
  have hn : A = none → c = 0 := by
    obtain ⟨css, h1, h2, h3⟩ := h
    obtain ⟨A', c', e, _, _, h0, _⟩ := own_form h3
    cases e
    exact fun hA => (h0 hA).1
  refine ⟨A, c, rfl, fun S hS => ⟨a, b, hn, fun j x hx => ?_⟩⟩
  obtain ⟨g, cap, cs, e, hb, hg, hl, hr, hc⟩ := ownL_at h hx
  injection e with e1 e2 e3
  subst e1 e3
  exact ⟨g, 0, cs, rfl, hS g rfl, hl, hr, fun i u hu => by rw [Nat.zero_add]; exact hc i u hu⟩
/-- One thing more. -/
theorem ownL_append {P : Program} {u : World} {T : TypeId} {bytes : Nat} {i : TypeInfo} {z : Value} {c : List Value} {x : α} {a : Addr} (ty : TypeId) (ht : P.underlying T = some (.slice t)) (hi : P.info? t = some i) (hz : i.zero = some z)
    (hsize : i.size = k) (hby : i.bytes = bytes) (hzs : z.cells.size = k) (hk : 0 < k) (h : OwnL base t k R u v l) (hx : R c x) (hc : c.length = k) (h1 : ∀ u ∈ c, u.oneCell' = true) (hnews : ∀ j z, c[j]? = some z → u.cell? (a.add j) = some z)
    (hb1 : l.length ≤ 100000) (hb2 : bytes ≤ 1000) (hbase : base ≤ u.heap.size) :
    ∃ v' w', (Builtin.append_ #[T, T] ty #[v, .slice (some a) 1 1]).run P u = .ok v' w' ∧ OwnL base t k R w' v' (l ++ [x]) ∧ u.grownBy w' v.ownBlock ∧ Moved u v v' := by
  obtain ⟨css, e1, e2, e3⟩ := h
  obtain ⟨v', w', hr, ho, hg, hm⟩ := run_append_own2 (P := P) u base T ty t i z k bytes ht hi hz hsize hby hzs hk v l.length css.flatten e3 a 1 1 c (by omega) hnews h1 (by unfold maxLen; omega) (by
    have : (l.length + 1) * bytes ≤ 100001 * 1000 := Nat.mul_le_mul (by omega) hb2
    omega) hbase
  refine ⟨v', w', hr, ⟨css ++ [c], by simp [e1], fun j c' x' hc' hx' => ?_, by rw [List.flatten_append, List.flatten_cons, List.flatten_nil, List.append_nil, List.length_append]; exact ho⟩, hg, hm⟩
  by_cases hj : j < l.length
  · rw [List.getElem?_append_left (by omega)] at hc'
    rw [List.getElem?_append_left hj] at hx'
    exact e2 j c' x' hc' hx'
  · have hj2 := (List.getElem?_eq_some_iff.mp hx').1
    rw [List.length_append] at hj2
    have hj3 : j = l.length := by simp at hj2; omega
    subst hj3
    rw [List.getElem?_append_right (by omega), e1, Nat.sub_self] at hc'
    rw [List.getElem?_append_right (by omega), Nat.sub_self] at hx'
    simp at hc' hx'
    subst hc' hx'
    exact ⟨hc, h1, hx⟩
end
theorem info_trs : (Try.prog.info? 25).map (fun i => (i.zero, i.size, i.bytes)) = some (some (.agg #[.slice none 0 0, .slice none 0 0]), 2, 48) := by kernel_rfl
theorem info_slt : (Try.prog.info? 32).map (fun i => (i.zero, i.size, i.bytes)) = some (some (.agg #[.int .i64 0, .slice none 0 0]), 2, 32) := by kernel_rfl
theorem info_val : (Try.prog.info? 45).map (fun i => (i.zero, i.size, i.bytes)) = some (some (.agg #[.int .u64 0, .string ⟨#[]⟩, .slice none 0 0]), 3, 48) := by kernel_rfl
theorem info_rws : (Try.prog.info? 65).map (fun i => (i.zero, i.size, i.bytes)) = some (some (.agg #[.int .i64 0, .int .i64 0, .int .u64 0, .string ⟨#[]⟩]), 4, 40) := by kernel_rfl
theorem info_ofs {P : Program} {t : TypeId} {z : Value} {n b : Nat} (h : (P.info? t).map (fun i => (i.zero, i.size, i.bytes)) = some (some z, n, b)) : ∃ i, P.info? t = some i ∧ i.zero = some z ∧ i.size = n ∧ i.bytes = b := by
  cases hi : P.info? t with
  | none => rw [hi] at h; cases h
  | some i =>
    rw [hi] at h
    simp at h
    exact ⟨i, rfl, h.1, h.2.1, h.2.2⟩
theorem cells_new (w : World) (cs : Array Value) (t : TypeId) : ∀ j u, cs.toList[j]? = some u → (w.alloc (.cells cs t)).cell? ((⟨w.heap.size, 0, none⟩ : Addr).add j) = some u := fun j u hu => World.news_of_block (heap_alloc_new w _) j u hu

/-- The values of the first slot of that number. -/
def getT : List Slt → Int → List Va
  | [], _ => []
  | s :: l, num => if s.snum = num then s.svals else getT l num
theorem getT_at {num : Int} : ∀ {l : List Slt} {i : Nat} {s : Slt}, l[i]? = some s → s.snum = num → (∀ (j : Nat) (y : Slt), j < i → l[j]? = some y → y.snum ≠ num) → getT l num = s.svals
  | [], i, s, h, _, _ => by simp at h
  | y :: l, 0, s, h, hn, _ => by
    obtain rfl : y = s := by simpa using h
    rw [getT, if_pos hn]
  | y :: l, i + 1, s, h, hn, hj => by
    rw [getT, if_neg (hj 0 y (by omega) rfl)]
    exact getT_at (by simpa using h) hn (fun j z hjl hz => hj (j + 1) z (by omega) (by simpa using hz))
theorem getT_none {num : Int} : ∀ {l : List Slt}, (∀ (j : Nat) (y : Slt), l[j]? = some y → y.snum ≠ num) → getT l num = []
  | [], _ => rfl
  | y :: l, h => by
    rw [getT, if_neg (h 0 y rfl)]
    exact getT_none (fun j z hz => h (j + 1) z (by simpa using hz))
def dropN (num : Int) (l : List Slt) : List Slt := l.filter fun s => !decide (s.snum = num)
def putN (num : Int) (vals : List Va) : List Slt → List Slt
  | [] => [⟨num, vals⟩]
  | s :: l => if num < s.snum then ⟨num, vals⟩ :: s :: l else s :: putN num vals l
/-- The slots, with those values as the only ones of that number. -/
def withT (num : Int) (vals : List Va) (l : List Slt) : List Slt := if vals = [] then dropN num l else putN num vals (dropN num l)
theorem getT_drop (num : Int) : ∀ l, getT (dropN num l) num = []
  | [] => rfl
  | s :: l => by
    unfold dropN
    rw [List.filter_cons]
    by_cases h : s.snum = num
    · rw [decide_eq_true h]; exact getT_drop num l
    · rw [decide_eq_false h]
      show getT (s :: dropN num l) num = []
      rw [getT, if_neg h, getT_drop]
theorem getT_put (num : Int) (vals : List Va) : ∀ l, (∀ s ∈ l, s.snum ≠ num) → getT (putN num vals l) num = vals
  | [], _ => by simp [putN, getT]
  | s :: l, h => by
    rw [putN]
    split
    · simp [getT]
    · rw [getT, if_neg (h s (by simp)), getT_put num vals l (fun s hs => h s (by simp [hs]))]
theorem drop_ne {num : Int} {l : List Slt} : ∀ s ∈ dropN num l, s.snum ≠ num := fun s hs => by
  have := (List.mem_filter.mp hs).2
  simpa using this
theorem getT_with (num : Int) (vals : List Va) (l : List Slt) : getT (withT num vals l) num = vals := by
  unfold withT
  split
  · rename_i h; rw [getT_drop, h]
  · exact getT_put num vals _ drop_ne
theorem getT_other {num k : Int} (hk : num ≠ k) (vals : List Va) (l : List Slt) : getT (withT num vals l) k = getT l k := by
  have hd : ∀ l : List Slt, getT (dropN num l) k = getT l k := fun l => by
    induction l with
    | nil => rfl
    | cons s l ih =>
      unfold dropN
      rw [List.filter_cons]
      by_cases h : s.snum = num
      · have h9 : ¬ s.snum = k := by rw [h]; exact hk
        rw [decide_eq_true h, getT, if_neg h9]
        exact ih
      · rw [decide_eq_false h]
        show getT (s :: dropN num l) k = _
        rw [getT, getT, ih]
  have hp : ∀ l : List Slt, getT (putN num vals l) k = getT l k := fun l => by
    induction l with
    | nil => simp [putN, getT, hk]
    | cons s l ih =>
      rw [putN]
      split
      · rw [getT, if_neg hk]
      · rw [getT, getT, ih]
  unfold withT
  split
  · exact hd l
  · rw [hp, hd]
theorem drop_drop (num : Int) (l : List Slt) : dropN num (dropN num l) = dropN num l := by
  unfold dropN; rw [List.filter_filter]; simp
theorem drop_put (num : Int) (vals : List Va) : ∀ l, (∀ s ∈ l, s.snum ≠ num) → dropN num (putN num vals l) = l
  | [], _ => by simp [putN, dropN]
  | s :: l, h => by
    have h0 := h s (by simp)
    have hl : dropN num l = l := List.filter_eq_self.mpr (fun s hs => by simpa using h s (by simp [hs]))
    rw [putN]
    split
    · show List.filter _ (⟨num, vals⟩ :: s :: l) = _
      rw [List.filter_cons, List.filter_cons]
      simp [h0]
      exact fun s hs => h s (by simp [hs])
    · show List.filter _ (s :: putN num vals l) = _
      rw [List.filter_cons]
      simp [h0]
      exact drop_put num vals l (fun s hs => h s (by simp [hs]))
theorem drop_with (num : Int) (vals : List Va) (l : List Slt) : dropN num (withT num vals l) = dropN num l := by
  unfold withT
  split
  · exact drop_drop num l
  · exact drop_put num vals _ drop_ne
theorem with_with (num : Int) (vals vals' : List Va) (l : List Slt) : withT num vals' (withT num vals l) = withT num vals' l := by
  show (if vals' = [] then dropN num (withT num vals l) else putN num vals' (dropN num (withT num vals l))) = if vals' = [] then dropN num l else putN num vals' (dropN num l)
  rw [drop_with]
end Go.Proofs.Ytakdkocobcicdaa
