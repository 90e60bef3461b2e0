/- Several texts in one: TrRow, DecMath, DecBack, DecVal, DecSize, DecFit, DecUnp, DecFr. What each proves, and its conditions, stands at its own head. -/
import Derived.Test.YtpfdnggacpehdaaGreatDoorPkDU35
import Derived.Test.YtpfdnggacpehdaaGreatDoorPkDU7
import Derived.Test.YtpfdnggacpehdaaGreatDoorPkDU0
import Derived.Deep.AppendLies
import Derived.Test.YtpfdnggacpehdaaGreatDoorPkDU24
import Derived.Test.YtpfdnggacpehdaaGreatDoorPkDU23
import Derived.Test.YtpfdnggacpehdaaGreatDoorPkDU15
import Derived.Test.YtpfdnggacpehdaaGreatDoorPkDU4
import Derived.Test.YtpfdnggacpehdaaGreatDoorPkDU1
/- Rows of the call's own that hold things with lists of their own (no program's function here): what they hold, one thing more, what they read as. Conditions: those that each theorem names. -/
namespace Go.Proofs.YtpfdnggacpehdaaGreatDoor
open Go.RowKit
set_option linter.unusedVariables false
set_option maxRecDepth 100000

/-- A row of the call's own, from 'base' on: one thing for each of l; R says how a thing's cells read. -/
def OwnL {α : Type} (base : Nat) (t : TypeId) (k : Nat) (R : List Value → α → Prop) (w : World) (v : Value) (l : List α) : Prop :=
  ∃ css : List (List Value), css.length = l.length ∧ (∀ (j : Nat) c x, css[j]? = some c → l[j]? = some x → c.length = k ∧ (∀ u ∈ c, u.oneCell' = true) ∧ R c x) ∧ w.ownsRow base t k v l.length css.flatten
section
variable {α : Type} {base k : Nat} {t : TypeId} {R R' : List Value → α → Prop} {w w' : World} {v : Value} {l : List α}
theorem ownL_nil (base : Nat) (t : TypeId) (k : Nat) (R : List Value → α → Prop) (w : World) : OwnL base t k R w (.slice none 0 0) ([] : List α) :=
  ⟨[], rfl, fun j c x h => by simp at h, World.ownsRow_nil _ _ _ _⟩
theorem ownL_keep (h : OwnL base t k R w v l) (hR : ∀ c x, R c x → R' c x) (hb : ∀ g, v.ownBlock = some g → w'.heap[g]? = w.heap[g]?) : OwnL base t k R' w' v l := by
  obtain ⟨css, h1, h2, h3⟩ := h
  exact ⟨css, h1, fun j c x hc hx => ⟨(h2 j c x hc hx).1, (h2 j c x hc hx).2.1, hR c x (h2 j c x hc hx).2.2⟩, own_block h3 hb⟩
theorem ownL_blk (h : OwnL base t k R w v l) : ∀ g, v.ownBlock = some g → base ≤ g ∧ g < w.heap.size := by
  obtain ⟨css, h1, h2, h3⟩ := h
  exact fun g hg => h3.lt g hg
theorem ownL_bel (h : OwnL base t k R w v l) (hR : ∀ c x, R c x → R' c x) (hb : Below w.heap.size w w') : OwnL base t k R' w' v l :=
  ownL_keep h hR (fun g hg => hb.block g (ownL_blk h g hg).2)
theorem ownL_form (h : OwnL base t k R w v l) : ∃ A c, v = .slice A l.length c ∧ l.length ≤ c ∧ c ≤ maxLen := by
  obtain ⟨css, h1, h2, h3⟩ := h
  obtain ⟨A, c, e, a, b, _⟩ := own_form h3
  exact ⟨A, c, e, a, b⟩
theorem ownL_slc (h : OwnL base t k R w v l) : ∃ A n c, v = .slice A n c := by
  obtain ⟨A, c, e, _⟩ := ownL_form h
  exact ⟨A, _, c, e⟩
theorem ownL_less {b : Nat} (h : OwnL base t k R w v l) (hb : b ≤ base) : OwnL b t k R w v l := by
  obtain ⟨css, h1, h2, h3⟩ := h
  exact ⟨css, h1, h2, own_mono h3 hb⟩
theorem flatten_get {β : Type} {k : Nat} : ∀ {css : List (List β)}, (∀ c ∈ css, c.length = k) → ∀ (j : Nat) (c : List β) (i : Nat), css[j]? = some c → i < k → css.flatten[j * k + i]? = c[i]?
  | [], _, j, c, i, h, _ => by simp at h
  | b :: css, hk, 0, c, i, h, hi => by
    obtain rfl : b = c := by simpa using h
    rw [List.flatten_cons, List.getElem?_append_left (by rw [hk b (by simp)]; omega)]; simp
  | b :: css, hk, j + 1, c, i, h, hi => by
    have hb := hk b (by simp)
    rw [List.flatten_cons, List.getElem?_append_right (by rw [hb, Nat.succ_mul]; omega), hb, show (j + 1) * k + i - k = j * k + i by rw [Nat.succ_mul]; omega]
    exact flatten_get (fun c hc => hk c (List.mem_cons_of_mem _ hc)) j c i (by simpa using h) hi
/-- One thing's cells. -/
theorem ownL_at (h : OwnL base t k R w v l) {j : Nat} {x : α} (hx : l[j]? = some x) : ∃ g cap c, v = .slice (some ⟨g, 0, none⟩) l.length cap ∧ base ≤ g ∧ g < w.heap.size ∧ c.length = k ∧ R c x ∧ ∀ i u, c[i]? = some u → w.cell? ⟨g, j * k + i, none⟩ = some u := by
  obtain ⟨css, h1, h2, h3⟩ := h
  have hj := (List.getElem?_eq_some_iff.mp hx).1
  obtain ⟨g, cap, rfl, hb, _, _, hg⟩ := own_pos h3 (by omega)
  have hc : ∃ c, css[j]? = some c := ⟨_, List.getElem?_eq_getElem (by omega)⟩
  obtain ⟨c, hc⟩ := hc
  refine ⟨g, cap, c, rfl, hb, hg, (h2 j c x hc hx).1, (h2 j c x hc hx).2.2, fun i u hu => ?_⟩
  have hi : i < k := by have := (List.getElem?_eq_some_iff.mp hu).1; rw [(h2 j c x hc hx).1] at this; exact this
  refine own_cell h3 rfl ?_
  rw [flatten_get (fun c' hc' => ?_) j c i hc hi, hu]
  obtain ⟨q, hq, e⟩ := List.mem_iff_getElem.mp hc'
  exact (h2 q c' l[q] (by rw [List.getElem?_eq_getElem hq, e]) (List.getElem?_eq_getElem (by omega))).1
theorem ownL_lst {RR : World → List Value → α → Prop} (h : OwnL base t k (RR w) w v l) : ∃ A c, v = .slice A l.length c ∧ ∀ S : Nat → Prop, (∀ g, v.ownBlock = some g → S g) → Lst k S RR w A c l := by
  obtain ⟨A, c, e, a, b⟩ := ownL_form h
  subst e
  have hn : A = none → c = 0 := by
    obtain ⟨css, h1, h2, h3⟩ := h
    obtain ⟨A', c', e, _, _, h0, _⟩ := own_form h3
    cases e
    exact fun hA => (h0 hA).1
  refine ⟨A, c, rfl, fun S hS => ⟨a, b, hn, fun j x hx => ?_⟩⟩
  obtain ⟨g, cap, cs, e, hb, hg, hl, hr, hc⟩ := ownL_at h hx
  injection e with e1 e2 e3
  subst e1 e3
  exact ⟨g, 0, cs, rfl, hS g rfl, hl, hr, fun i u hu => by rw [Nat.zero_add]; exact hc i u hu⟩
/-- One thing more. -/
theorem ownL_append {P : Program} {u : World} {T : TypeId} {bytes : Nat} {i : TypeInfo} {z : Value} {c : List Value} {x : α} {a : Addr} (ty : TypeId) (ht : P.underlying T = some (.slice t)) (hi : P.info? t = some i) (hz : i.zero = some z)
    (hsize : i.size = k) (hby : i.bytes = bytes) (hzs : z.cells.size = k) (hk : 0 < k) (h : OwnL base t k R u v l) (hx : R c x) (hc : c.length = k) (h1 : ∀ u ∈ c, u.oneCell' = true) (hnews : ∀ j z, c[j]? = some z → u.cell? (a.add j) = some z)
    (hb1 : l.length ≤ 100000) (hb2 : bytes ≤ 1000) (hbase : base ≤ u.heap.size) :
    ∃ v' w', (Builtin.append_ #[T, T] ty #[v, .slice (some a) 1 1]).run P u = .ok v' w' ∧ OwnL base t k R w' v' (l ++ [x]) ∧ u.grownBy w' v.ownBlock ∧ Moved u v v' := by
  obtain ⟨css, e1, e2, e3⟩ := h
  obtain ⟨v', w', hr, ho, hg, hm⟩ := run_append_own2 (P := P) u base T ty t i z k bytes ht hi hz hsize hby hzs hk v l.length css.flatten e3 a 1 1 c (by omega) hnews h1 (by unfold maxLen; omega) (by
    have : (l.length + 1) * bytes ≤ 100001 * 1000 := Nat.mul_le_mul (by omega) hb2
    omega) hbase
  refine ⟨v', w', hr, ⟨css ++ [c], by simp [e1], fun j c' x' hc' hx' => ?_, by rw [List.flatten_append, List.flatten_cons, List.flatten_nil, List.append_nil, List.length_append]; exact ho⟩, hg, hm⟩
  by_cases hj : j < l.length
  · rw [List.getElem?_append_left (by omega)] at hc'
    rw [List.getElem?_append_left hj] at hx'
    exact e2 j c' x' hc' hx'
  · have hj2 := (List.getElem?_eq_some_iff.mp hx').1
    rw [List.length_append] at hj2
    have hj3 : j = l.length := by simp at hj2; omega
    subst hj3
    rw [List.getElem?_append_right (by omega), e1, Nat.sub_self] at hc'
    rw [List.getElem?_append_right (by omega), Nat.sub_self] at hx'
    simp at hc' hx'
    subst hc' hx'
    exact ⟨hc, h1, hx⟩
end
theorem info_trs : (Tryz.prog.info? 33).map (fun i => (i.zero, i.size, i.bytes)) = some (some (.agg #[.slice none 0 0, .slice none 0 0]), 2, 48) := by kernel_rfl
theorem info_slt : (Tryz.prog.info? 68).map (fun i => (i.zero, i.size, i.bytes)) = some (some (.agg #[.int .i64 0, .slice none 0 0]), 2, 32) := by kernel_rfl
theorem info_val : (Tryz.prog.info? 65).map (fun i => (i.zero, i.size, i.bytes)) = some (some (.agg #[.int .u64 0, .string ⟨#[]⟩, .slice none 0 0]), 3, 48) := by kernel_rfl
theorem info_rws : (Tryz.prog.info? 98).map (fun i => (i.zero, i.size, i.bytes)) = some (some (.agg #[.int .i64 0, .int .i64 0, .int .u64 0, .string ⟨#[]⟩]), 4, 40) := by kernel_rfl
theorem info_ofs {P : Program} {t : TypeId} {z : Value} {n b : Nat} (h : (P.info? t).map (fun i => (i.zero, i.size, i.bytes)) = some (some z, n, b)) : ∃ i, P.info? t = some i ∧ i.zero = some z ∧ i.size = n ∧ i.bytes = b := by
  cases hi : P.info? t with
  | none => rw [hi] at h; cases h
  | some i =>
    rw [hi] at h
    simp at h
    exact ⟨i, rfl, h.1, h.2.1, h.2.2⟩
theorem cells_new (w : World) (cs : Array Value) (t : TypeId) : ∀ j u, cs.toList[j]? = some u → (w.alloc (.cells cs t)).cell? ((⟨w.heap.size, 0, none⟩ : Addr).add j) = some u := fun j u hu => World.news_of_block (heap_alloc_new w _) j u hu

/-- The values of the first slot of that number. -/
def getT : List Slt → Int → List Va
  | [], _ => []
  | s :: l, num => if s.snum = num then s.svals else getT l num
theorem getT_at {num : Int} : ∀ {l : List Slt} {i : Nat} {s : Slt}, l[i]? = some s → s.snum = num → (∀ (j : Nat) (y : Slt), j < i → l[j]? = some y → y.snum ≠ num) → getT l num = s.svals
  | [], i, s, h, _, _ => by simp at h
  | y :: l, 0, s, h, hn, _ => by
    obtain rfl : y = s := by simpa using h
    rw [getT, if_pos hn]
  | y :: l, i + 1, s, h, hn, hj => by
    rw [getT, if_neg (hj 0 y (by omega) rfl)]
    exact getT_at (by simpa using h) hn (fun j z hjl hz => hj (j + 1) z (by omega) (by simpa using hz))
theorem getT_none {num : Int} : ∀ {l : List Slt}, (∀ (j : Nat) (y : Slt), l[j]? = some y → y.snum ≠ num) → getT l num = []
  | [], _ => rfl
  | y :: l, h => by
    rw [getT, if_neg (h 0 y rfl)]
    exact getT_none (fun j z hz => h (j + 1) z (by simpa using hz))
def dropN (num : Int) (l : List Slt) : List Slt := l.filter fun s => !decide (s.snum = num)
def putN (num : Int) (vals : List Va) : List Slt → List Slt
  | [] => [⟨num, vals⟩]
  | s :: l => if num < s.snum then ⟨num, vals⟩ :: s :: l else s :: putN num vals l
/-- The slots, with those values as the only ones of that number. -/
def withT (num : Int) (vals : List Va) (l : List Slt) : List Slt := if vals = [] then dropN num l else putN num vals (dropN num l)
theorem getT_drop (num : Int) : ∀ l, getT (dropN num l) num = []
  | [] => rfl
  | s :: l => by
    unfold dropN
    rw [List.filter_cons]
    by_cases h : s.snum = num
    · rw [decide_eq_true h]; exact getT_drop num l
    · rw [decide_eq_false h]
      show getT (s :: dropN num l) num = []
      rw [getT, if_neg h, getT_drop]
theorem getT_put (num : Int) (vals : List Va) : ∀ l, (∀ s ∈ l, s.snum ≠ num) → getT (putN num vals l) num = vals
  | [], _ => by simp [putN, getT]
  | s :: l, h => by
    rw [putN]
    split
    · simp [getT]
    · rw [getT, if_neg (h s (by simp)), getT_put num vals l (fun s hs => h s (by simp [hs]))]
theorem drop_ne {num : Int} {l : List Slt} : ∀ s ∈ dropN num l, s.snum ≠ num := fun s hs => by
  have := (List.mem_filter.mp hs).2
  simpa using this
theorem getT_with (num : Int) (vals : List Va) (l : List Slt) : getT (withT num vals l) num = vals := by
  unfold withT
  split
  · rename_i h; rw [getT_drop, h]
  · exact getT_put num vals _ drop_ne
theorem drop_drop (num : Int) (l : List Slt) : dropN num (dropN num l) = dropN num l := by
  unfold dropN; rw [List.filter_filter]; simp
theorem drop_put (num : Int) (vals : List Va) : ∀ l, (∀ s ∈ l, s.snum ≠ num) → dropN num (putN num vals l) = l
  | [], _ => by simp [putN, dropN]
  | s :: l, h => by
    have h0 := h s (by simp)
    have hl : dropN num l = l := List.filter_eq_self.mpr (fun s hs => by simpa using h s (by simp [hs]))
    rw [putN]
    split
    · show List.filter _ (⟨num, vals⟩ :: s :: l) = _
      rw [List.filter_cons, List.filter_cons]
      simp [h0]
      exact fun s hs => h s (by simp [hs])
    · show List.filter _ (s :: putN num vals l) = _
      rw [List.filter_cons]
      simp [h0]
      exact drop_put num vals l (fun s hs => h s (by simp [hs]))
theorem drop_with (num : Int) (vals : List Va) (l : List Slt) : dropN num (withT num vals l) = dropN num l := by
  unfold withT
  split
  · exact drop_drop num l
  · exact drop_put num vals _ drop_ne
theorem with_with (num : Int) (vals vals' : List Va) (l : List Slt) : withT num vals' (withT num vals l) = withT num vals' l := by
  show (if vals' = [] then dropN num (withT num vals l) else putN num vals' (dropN num (withT num vals l))) = if vals' = [] then dropN num l else putN num vals' (dropN num l)
  rw [drop_with]
end Go.Proofs.YtpfdnggacpehdaaGreatDoor

/- Layer 22 in plain words (no program here): which value whatever bytes are. Conditions: those that each theorem names. -/
namespace Go.Proofs.YtpfdnggacpehdaaGreatDoor
open Go.RowKit Go.Lib
set_option linter.unusedVariables false

/-- One number of a type on the wire. -/
def takeT (ty : Int) : List UInt8 → Nat × Nat := if wireT ty = 1 then tFix 8 else if wireT ty = 5 then tFix 4 else tVar
/-- Numbers one behind the other, up to the first that is none. -/
def numsS (ty : Int) (bs : List UInt8) : Nat → St → List Nat × Bool
  | 0, _ => ([], true)
  | f + 1, s => if s.more = true then (if (s.rd (takeT ty) 0 bs).2.fr = [] then ([], false) else (fromT ty (s.rd (takeT ty) 0 bs).1 :: (numsS ty bs f (s.rd (takeT ty) 0 bs).2).1, (numsS ty bs f (s.rd (takeT ty) 0 bs).2).2)) else ([], true)
def unpS (ty : Int) (bs : List UInt8) : List Nat × Bool := numsS ty bs (bs.length + 1) ⟨0, [bs.length]⟩
def unpackO (f : Fd) (bs : List UInt8) : Option (List Nat) := if numberT f.ty = true then (if (unpS f.ty bs).2 = true then some (unpS f.ty bs).1 else none) else none
/-- A field's values, as they stand on the wire. -/
def valsD (f : Fd) (x : Rw) : Option (List Va) :=
  if (f.rep && numberT f.ty && decide (x.wire = 2)) = true then (unpackO f x.s).map (fun l => l.map (fun n => (⟨n, [], []⟩ : Va)))
  else if x.wire ≠ wireT f.ty ∨ (f.ty = 12 ∧ Lib.validD x.s = false) then none
  else if numberT f.ty = true then some [⟨fromT f.ty x.n, [], []⟩] else some [⟨0, x.s, []⟩]
/-- Without the other fields of a oneof. -/
def othersD (m : Ms) (f : Fd) (sl : List Slt) : List Slt := m.fields.foldl (fun sl g => if f.one ≠ [] ∧ g.one = f.one ∧ g.num ≠ f.num then withT g.num [] sl else sl) sl
def layD (m : Ms) (f : Fd) (l : List Va) (sl : List Slt) : List Slt :=
  if f.rep = true then withT f.num (getT (othersD m f sl) f.num ++ l) (othersD m f sl)
  else withT f.num (if (hiddenT f && (decide ((l.headD default).vn = 0) && decide ((l.headD default).vs = []))) = true then [] else l) (othersD m f sl)
def oneD (f : Fd) (had : List Va) : Bool := !f.rep && !had.isEmpty
/-- What a message is read into. -/
def wasD (f : Fd) (had : List Va) : Tr := cond (oneD f had) ((had.headD default).vm.headD default) default
def endD (f : Fd) (sl : List Slt) (rest : List Rw) (had : List Va) (q : Tr × Nat) : Tr × Nat := if q.2 ≠ 0 then (.mk sl rest, q.2) else (.mk (withT f.num (cond (oneD f had) [] had ++ [⟨0, [], [q.1]⟩]) sl) rest, 0)
def msgD (E : List UInt8 → Tr → List UInt8 → Tr × Nat) (f : Fd) (sl : List Slt) (rest : List Rw) (bs : List UInt8) : Tr × Nat := endD f sl rest (getT sl f.num) (E f.ref (wasD f (getT sl f.num)) bs)
/-- One field laid into a tree; the trees within are read by E. -/
def stepD (E : List UInt8 → Tr → List UInt8 → Tr × Nat) (m : Ms) (t : Tr) (x : Rw) : Tr × Nat := match vFld m x.num with
  | none => (.mk t.slots (t.rest ++ [x]), 0)
  | some f => match valsD f x with
    | none => (t, 8)
    | some l => if f.ty ≠ 15 then (.mk (layD m f l t.slots) t.rest, 0) else msgD E f (othersD m f t.slots) t.rest x.s
def foldD (E : List UInt8 → Tr → List UInt8 → Tr × Nat) (m : Ms) : Tr → List Rw → Tr × Nat
  | t, [] => (t, 0)
  | t, x :: l => if (stepD E m t x).2 ≠ 0 then stepD E m t x else foldD E m (stepD E m t x).1 l
/-- Bytes read into a tree; so many messages may still lie in one another. -/
def intoN (s : Sc) : Nat → List UInt8 → Tr → List UInt8 → Tr × Nat
  | 0, _, t, _ => (t, 3)
  | k + 1, name, t, bs => match vMsg s name with
    | none => (t, 5)
    | some m => if (foldD (intoN s k) m t ((getR bs).1.map Prod.fst)).2 ≠ 0 then foldD (intoN s k) m t ((getR bs).1.map Prod.fst) else if (getR bs).2 = true then foldD (intoN s k) m t ((getR bs).1.map Prod.fst) else ((foldD (intoN s k) m t ((getR bs).1.map Prod.fst)).1, 8)
def getCD (s : Sc) (name bs : List UInt8) : Nat := if messageT s name < 0 then 5 else if 65536 < bs.length then 3 else (intoN s 16 name default bs).2
def getTD (s : Sc) (name bs : List UInt8) : Tr := if getCD s name bs = 0 then (intoN s 16 name default bs).1 else default

/-! ### Folds -/
section
variable {E : List UInt8 → Tr → List UInt8 → Tr × Nat} {m : Ms}
theorem foldD_append : ∀ (a b : List Rw) (t : Tr), foldD E m t (a ++ b) = if (foldD E m t a).2 ≠ 0 then foldD E m t a else foldD E m (foldD E m t a).1 b
  | [], b, t => by rw [List.nil_append, foldD, if_neg (fun h => h rfl)]
  | x :: a, b, t => by
    rw [List.cons_append, foldD, foldD]
    by_cases h : (stepD E m t x).2 ≠ 0
    · rw [if_pos h, if_pos h, if_pos h]
    · rw [if_neg h, if_neg h, foldD_append a b]
theorem foldD_more {a b : List Rw} {t u : Tr} (h : foldD E m t a = (u, 0)) : foldD E m t (a ++ b) = foldD E m u b := by
  rw [foldD_append, h, if_neg (fun h => h rfl)]
theorem foldD_one {t u : Tr} {x : Rw} (h : stepD E m t x = (u, 0)) (l : List Rw) : foldD E m t (x :: l) = foldD E m u l := by
  rw [foldD, h, if_neg (fun h => h rfl)]
end

/-! ### Slots -/
/-! ### Numbers that were packed -/
end Go.Proofs.YtpfdnggacpehdaaGreatDoor

/- Layer 22 in plain words (no program here): what was written of a value is read as it. Conditions: those that each theorem names. -/
namespace Go.Proofs.YtpfdnggacpehdaaGreatDoor
open Go.RowKit Go.Lib
set_option linter.unusedVariables false

theorem supB_mem' {α : Type} {f : α → Nat} : ∀ {l : List α} {x : α}, x ∈ l → f x ≤ supB f l
  | y :: l, x, h => by
    rw [supB]
    rcases List.mem_cons.mp h with rfl | h
    · omega
    · have := supB_mem' (f := f) h; omega
section
variable {V : List UInt8 → Tr → Bool} {E : List UInt8 → Tr → List UInt8} {G : List UInt8 → Tr → List UInt8 → Tr × Nat} {m : Ms} {f : Fd} {v : Va} {done : List Slt} {part : List Va}
theorem wire_2 {ty : Int} (h : numberT ty = true) : wireT ty ≠ 2 := by
  intro hw
  unfold wireT at hw
  have : ty = 12 ∨ ty = 13 ∨ ty = 15 := by
    by_cases a : ty = 8 ∨ ty = 10
    · rw [if_pos a] at hw; cases hw
    · rw [if_neg a] at hw
      by_cases b : ty = 9 ∨ ty = 11
      · rw [if_pos b] at hw; cases hw
      · rw [if_neg b] at hw
        by_cases c : ty = 12 ∨ ty = 13 ∨ ty = 15
        · exact c
        · rw [if_neg c] at hw; cases hw
  rcases this with e | e | e <;> rw [e] at h <;> revert h <;> decide
end
theorem slotT_more {V : List UInt8 → Tr → Bool} {m : Ms} {x : Slt} (h : slotT V m x = true) : ∃ f, vFld m x.snum = some f ∧ x.svals ≠ [] ∧ (f.rep = true ∨ x.svals.length ≤ 1) ∧ ∀ v ∈ x.svals, eachV V f v = true := by
  unfold slotT at h
  cases hf : vFld m x.snum with
  | none => rw [hf] at h; cases h
  | some f =>
    rw [hf] at h
    have h' : slotF V f x = true := h
    unfold slotF manyS at h'
    simp only [Bool.and_eq_true, Bool.or_eq_true, decide_eq_true_eq, List.all_eq_true] at h'
    refine ⟨f, rfl, ?_, ?_, h'.2⟩
    · intro e
      rw [e] at h'
      simp at h'
    · rcases h'.1 with h1 | h1
      · exact .inr (by omega)
      · exact .inl h1.1
end Go.Proofs.YtpfdnggacpehdaaGreatDoor

/- Layer 22 in plain words (no program here): what is read is a value, and not larger than the bytes. Conditions: those that each theorem names. -/
namespace Go.Proofs.YtpfdnggacpehdaaGreatDoor
open Go.RowKit Go.Lib
set_option linter.unusedVariables false

/-! ### Slots that stay a value -/
/-- Slots that a message's value may have. -/
structure OkS (V : List UInt8 → Tr → Bool) (m : Ms) (l : List Slt) : Prop where
  o_rise : (l.map (·.snum)).Pairwise (· < ·)
  o_slot : ∀ z ∈ l, slotT V m z = true
  o_one : l.Pairwise (fun a b => oneAt m b = [] ∨ oneAt m a ≠ oneAt m b)
section
variable {V : List UInt8 → Tr → Bool} {m : Ms} {l l2 : List Slt}
theorem OkS.sub (h : OkS V m l) (hs : l2.Sublist l) : OkS V m l2 :=
  ⟨h.o_rise.sublist (hs.map _), fun z hz => h.o_slot z (hs.subset hz), h.o_one.sublist hs⟩
theorem dropN_sub (num : Int) (l : List Slt) : (dropN num l).Sublist l := by unfold dropN; exact List.filter_sublist
theorem dropN_ne {num : Int} {l : List Slt} : ∀ z ∈ dropN num l, z.snum ≠ num := by
  intro z hz
  unfold dropN at hz
  have := (List.mem_filter.mp hz).2
  simpa using this
theorem putN_mem {num : Int} {vals : List Va} : ∀ {l : List Slt} {z : Slt}, z ∈ putN num vals l → z = ⟨num, vals⟩ ∨ z ∈ l
  | [], z, h => by rw [putN] at h; exact .inl (List.mem_singleton.mp h)
  | s :: l, z, h => by
    rw [putN] at h
    split at h
    · rcases List.mem_cons.mp h with h | h
      · exact .inl h
      · exact .inr h
    · rcases List.mem_cons.mp h with h | h
      · exact .inr (by rw [h]; exact List.mem_cons_self)
      · rcases putN_mem h with h | h
        · exact .inl h
        · exact .inr (List.mem_cons_of_mem _ h)
theorem putN_rise {num : Int} {vals : List Va} : ∀ {l : List Slt}, (l.map (·.snum)).Pairwise (· < ·) → (∀ z ∈ l, z.snum ≠ num) → ((putN num vals l).map (·.snum)).Pairwise (· < ·)
  | [], _, _ => by simp [putN]
  | s :: l, h, hn => by
    rw [List.map_cons, List.pairwise_cons] at h
    have hs := hn s List.mem_cons_self
    rw [putN]
    split
    · rename_i hlt
      rw [List.map_cons, List.map_cons, List.pairwise_cons, List.pairwise_cons]
      refine ⟨fun a ha => ?_, h.1, h.2⟩
      rcases List.mem_cons.mp ha with rfl | ha
      · exact hlt
      · have := h.1 a ha; exact Int.lt_trans hlt this
    · rename_i hlt
      rw [List.map_cons, List.pairwise_cons]
      refine ⟨fun a ha => ?_, putN_rise h.2 (fun z hz => hn z (List.mem_cons_of_mem _ hz))⟩
      obtain ⟨z, hz, rfl⟩ := List.mem_map.mp ha
      rcases putN_mem hz with rfl | hz
      · show s.snum < num; omega
      · exact h.1 z.snum (List.mem_map.mpr ⟨z, hz, rfl⟩)
/-- Values laid at a number. -/
theorem OkS.with_ (h : OkS V m l) {num : Int} {vals : List Va} (hv : vals ≠ [] → slotT V m ⟨num, vals⟩ = true) (ho : ∀ z ∈ l, z.snum ≠ num → oneAt m ⟨num, vals⟩ = [] ∨ oneAt m z ≠ oneAt m ⟨num, vals⟩) : OkS V m (withT num vals l) := by
  have hd := h.sub (dropN_sub num l)
  unfold withT
  by_cases e : vals = []
  · rw [if_pos e]; exact hd
  · rw [if_neg e]
    have hone : ∀ z ∈ dropN num l, oneAt m ⟨num, vals⟩ = [] ∨ oneAt m z ≠ oneAt m ⟨num, vals⟩ := fun z hz => ho z ((dropN_sub num l).subset hz) (dropN_ne z hz)
    refine ⟨putN_rise hd.o_rise dropN_ne, fun z hz => ?_, ?_⟩
    · rcases putN_mem hz with rfl | hz
      · exact hv e
      · exact hd.o_slot z hz
    · have hsym : ∀ z ∈ dropN num l, oneAt m z = [] ∨ oneAt m ⟨num, vals⟩ ≠ oneAt m z := fun z hz => by
        by_cases h0 : oneAt m z = []
        · exact .inl h0
        · refine .inr (fun e2 => ?_)
          rcases hone z hz with h1 | h1
          · rw [h1] at e2; exact h0 e2.symm
          · exact h1 e2.symm
      have key : ∀ {q : List Slt}, q.Pairwise (fun a b => oneAt m b = [] ∨ oneAt m a ≠ oneAt m b) → (∀ z ∈ q, (oneAt m ⟨num, vals⟩ = [] ∨ oneAt m z ≠ oneAt m ⟨num, vals⟩) ∧ (oneAt m z = [] ∨ oneAt m ⟨num, vals⟩ ≠ oneAt m z)) → (putN num vals q).Pairwise (fun a b => oneAt m b = [] ∨ oneAt m a ≠ oneAt m b) := by
        intro q
        induction q with
        | nil => intro _ _; simp [putN]
        | cons s q ih =>
          intro h hn
          rw [List.pairwise_cons] at h
          rw [putN]
          split
          · rw [List.pairwise_cons, List.pairwise_cons]
            exact ⟨fun a ha => (hn a ha).2, h.1, h.2⟩
          · rw [List.pairwise_cons]
            refine ⟨fun a ha => ?_, ih h.2 (fun z hz => hn z (List.mem_cons_of_mem _ hz))⟩
            rcases putN_mem ha with rfl | ha
            · exact (hn s List.mem_cons_self).1
            · exact h.1 a ha
      exact key hd.o_one (fun z hz => ⟨hone z hz, hsym z hz⟩)
/-- Without the other fields of the oneof. -/
theorem othersD_sub (m : Ms) (f : Fd) (l : List Slt) : (othersD m f l).Sublist l := by
  unfold othersD
  have : ∀ (fs : List Fd) (l : List Slt), (fs.foldl (fun sl g => if f.one ≠ [] ∧ g.one = f.one ∧ g.num ≠ f.num then withT g.num [] sl else sl) l).Sublist l := by
    intro fs
    induction fs with
    | nil => intro l; exact List.Sublist.refl _
    | cons g fs ih =>
      intro l
      rw [List.foldl_cons]
      by_cases hc : f.one ≠ [] ∧ g.one = f.one ∧ g.num ≠ f.num
      · rw [if_pos hc]
        refine (ih _).trans ?_
        unfold withT
        rw [if_pos rfl]
        exact dropN_sub _ _
      · rw [if_neg hc]; exact ih l
  exact this m.fields l
theorem othersD_no {f g : Fd} (hg : g ∈ m.fields) (h1 : f.one ≠ []) (h2 : g.one = f.one) (h3 : g.num ≠ f.num) : ∀ z ∈ othersD m f l, z.snum ≠ g.num := by
  unfold othersD
  have : ∀ (fs : List Fd) (l : List Slt), (g ∈ fs ∨ ∀ z ∈ l, z.snum ≠ g.num) → ∀ z ∈ fs.foldl (fun sl g => if f.one ≠ [] ∧ g.one = f.one ∧ g.num ≠ f.num then withT g.num [] sl else sl) l, z.snum ≠ g.num := by
    intro fs
    induction fs with
    | nil =>
      intro l h
      rcases h with h | h
      · cases h
      · exact h
    | cons g' fs ih =>
      intro l h
      rw [List.foldl_cons]
      apply ih
      rcases h with h | h
      · rcases List.mem_cons.mp h with h | h
        · refine .inr ?_
          subst h
          rw [if_pos ⟨h1, h2, h3⟩]
          unfold withT
          rw [if_pos rfl]
          exact dropN_ne
        · exact .inl h
      · refine .inr (fun z hz => ?_)
        by_cases hc : f.one ≠ [] ∧ g'.one = f.one ∧ g'.num ≠ f.num
        · rw [if_pos hc] at hz
          unfold withT at hz
          rw [if_pos rfl] at hz
          exact h z ((dropN_sub _ _).subset hz)
        · rw [if_neg hc] at hz; exact h z hz
  exact this m.fields l (.inl hg)
theorem getT_mem {num : Int} : ∀ {l : List Slt}, getT l num = [] ∨ ∃ z ∈ l, z.snum = num ∧ z.svals = getT l num
  | [] => .inl rfl
  | s :: l => by
    rw [getT]
    split
    · rename_i h; exact .inr ⟨s, List.mem_cons_self, h, rfl⟩
    · rcases getT_mem (num := num) (l := l) with h | ⟨z, hz, h1, h2⟩
      · exact .inl h
      · exact .inr ⟨z, List.mem_cons_of_mem _ hz, h1, h2⟩
end

/-! ### Values that are read -/
theorem take_lt (ty : Int) (b : List UInt8) : (takeT ty b).1 < 18446744073709551616 := by
  unfold takeT
  split
  · exact getN_lt 8 b
  · split
    · exact Nat.lt_trans (getN_lt 4 b) (by decide)
    · exact tVar_lt b
theorem rd_lt {ty : Int} {bs : List UInt8} {s : St} : (s.rd (takeT ty) 0 bs).1 < 18446744073709551616 := by
  unfold St.rd
  split
  · show 0 < 18446744073709551616; decide
  · split
    · show 0 < 18446744073709551616; decide
    · exact take_lt ty _
theorem nums_may {ty : Int} (hty : 1 ≤ ty ∧ ty ≤ 15) {bs : List UInt8} : ∀ (f : Nat) (s : St), ∀ n ∈ (numsS ty bs f s).1, mayT ty n = true ∧ n < 18446744073709551616
  | 0, _, n, h => by cases h
  | f + 1, s, n, h => by
    rw [numsS] at h
    split at h
    · split at h
      · cases h
      · rcases List.mem_cons.mp h with rfl | h
        · exact ⟨may_from ty _ hty rd_lt, from_lt ty _ rd_lt⟩
        · exact nums_may hty f _ n h
    · cases h
section
variable {V : List UInt8 → Tr → Bool} {m : Ms} {f : Fd}
/-- What stands on the wire is the field's value, but for messages. -/
theorem vals_ok (hty : 1 ≤ f.ty ∧ f.ty ≤ 15) (h15 : f.ty ≠ 15) {x : Rw} (hx : x.n < 18446744073709551616) {l : List Va} (h : valsD f x = some l) : (f.rep = true ∨ ∃ v, l = [v]) ∧ ∀ v ∈ l, valT V f v = true ∧ v.vn < 18446744073709551616 := by
  unfold valsD at h
  split at h
  · rename_i hc
    simp only [Bool.and_eq_true, decide_eq_true_eq] at hc
    refine ⟨.inl hc.1.1, ?_⟩
    unfold unpackO at h
    rw [if_pos hc.1.2] at h
    split at h
    · have e := Option.some.inj h
      intro v hv
      rw [← e] at hv
      obtain ⟨n, hn, rfl⟩ := List.mem_map.mp hv
      have := nums_may hty (x.s.length + 1) ⟨0, [x.s.length]⟩ n hn
      rw [val_num hc.1.2, this.1]
      exact ⟨rfl, this.2⟩
    · cases h
  · split at h
    · cases h
    · rename_i h2
      split at h
      · rename_i hnum
        have e := Option.some.inj h
        refine ⟨.inr ⟨_, e.symm⟩, fun v hv => ?_⟩
        rw [← e] at hv
        obtain rfl := List.mem_singleton.mp hv
        rw [val_num hnum, may_from f.ty x.n hty hx]
        exact ⟨rfl, from_lt f.ty x.n hx⟩
      · rename_i hnum
        have e := Option.some.inj h
        refine ⟨.inr ⟨_, e.symm⟩, fun v hv => ?_⟩
        rw [← e] at hv
        obtain rfl := List.mem_singleton.mp hv
        have h12 : f.ty = 12 ∨ f.ty = 13 := by
          have hb : numberT f.ty = false := by simpa using hnum
          unfold numberT wholeT at hb
          simp only [Bool.or_eq_false_iff, decide_eq_false_iff_not] at hb
          omega
        refine ⟨?_, show 0 < 18446744073709551616 by decide⟩
        rcases h12 with h12 | h12
        · rw [val_12 h12]
          cases hv : Lib.validD x.s with
          | true => simp
          | false => exact absurd (.inr ⟨h12, hv⟩) h2
        · rw [val_13 h12]; rfl
theorem others_one {s : Sc} (hc : checkT s = 0) (hm : m ∈ s.msgs) {l : List Slt} (h : OkS V m l) (hf : f ∈ m.fields) : ∀ z ∈ othersD m f l, z.snum ≠ f.num → f.one = [] ∨ oneAt m z ≠ f.one := by
  intro z hz hne
  by_cases h0 : f.one = []
  · exact .inl h0
  · refine .inr (fun e => ?_)
    have hzl := (othersD_sub m f l).subset hz
    obtain ⟨g, g1, _⟩ := slotT_parts (h.o_slot z hzl)
    have hgn := vFld_num g1
    have hg1 : g.one = f.one := by unfold oneAt at e; rw [g1] at e; exact e
    exact othersD_no (vFld_mem g1) h0 hg1 (by rw [hgn]; exact hne) z hz hgn.symm
/-- A list of values put at a field: the slot is one that may be, if it has any. -/
theorem slot_made (hf : vFld m f.num = some f) {l : List Va} (hne : l ≠ []) (hr : f.rep = true ∨ ∃ v, l = [v]) (h : ∀ v ∈ l, eachV V f v = true) : slotT V m ⟨f.num, l⟩ = true := by
  unfold slotT
  rw [hf]
  show slotF V f _ = true
  unfold slotF manyS
  simp only [Bool.and_eq_true, Bool.or_eq_true, decide_eq_true_eq, List.all_eq_true]
  refine ⟨?_, h⟩
  rcases hr with hr | ⟨v, rfl⟩
  · have : 0 < l.length := List.length_pos_iff.mpr hne
    by_cases h1 : l.length = 1
    · exact .inl h1
    · exact .inr ⟨hr, by omega⟩
  · exact .inl rfl
theorem each_rep (hr : f.rep = true) {v : Va} (h : valT V f v = true) : eachV V f v = true := by
  unfold eachV
  rw [h]
  cases hh : hiddenT f with
  | false => rfl
  | true => rw [hid_rep hh] at hr; cases hr
theorem got_each {l : List Slt} (h : OkS V m l) (hf : vFld m f.num = some f) : ∀ v ∈ getT l f.num, eachV V f v = true := by
  intro v hv
  rcases getT_mem (num := f.num) (l := l) with e | ⟨z, hz, h1, h2⟩
  · rw [e] at hv; cases hv
  · obtain ⟨g, g1, _, _, g4⟩ := slotT_more (h.o_slot z hz)
    rw [h1, hf] at g1
    obtain rfl := Option.some.inj g1
    exact g4 v (by rw [h2]; exact hv)
theorem lay_ok {s : Sc} (hc : checkT s = 0) (hm : m ∈ s.msgs) (hf : vFld m f.num = some f) {sl : List Slt} (h : OkS V m sl) {l : List Va} (hr : f.rep = true ∨ ∃ v, l = [v]) (hv : ∀ v ∈ l, valT V f v = true) : OkS V m (layD m f l sl) := by
  have ho := h.sub (othersD_sub m f sl)
  have hone : ∀ vals, oneAt m ⟨f.num, vals⟩ = f.one := fun vals => by unfold oneAt; dsimp only; rw [hf]
  unfold layD
  split
  · rename_i hrep
    refine ho.with_ (fun hne => slot_made hf hne (.inl hrep) (fun v hvm => ?_)) (fun z hz hne => by rw [hone]; exact others_one hc hm h (vFld_mem hf) z hz hne)
    rcases List.mem_append.mp hvm with h1 | h1
    · exact got_each ho hf v h1
    · exact each_rep hrep (hv v h1)
  · rename_i hrep
    obtain ⟨v, rfl⟩ := hr.resolve_left hrep
    refine ho.with_ (fun hne => ?_) (fun z hz hne => by rw [hone]; exact others_one hc hm h (vFld_mem hf) z hz hne)
    rw [show ([v].headD default) = v from rfl] at hne ⊢
    split at hne
    · exact absurd rfl hne
    · rename_i hz
      rw [if_neg hz]
      refine slot_made hf (by simp) (.inr ⟨v, rfl⟩) (fun u hu => ?_)
      obtain rfl := List.mem_singleton.mp hu
      unfold eachV zeroT
      rw [hv u List.mem_cons_self]
      have hz' : (hiddenT f && (decide (u.vn = 0) && decide (u.vs = []))) = false := by simpa using hz
      rw [hz']
      rfl
end
def OkT2 (s : Sc) (K : Nat) (m : Ms) (t : Tr) : Prop := OkS (treeN s K) m t.slots ∧ ∀ r ∈ t.rest, restT m r = true
theorem treeN_iff {s : Sc} {K : Nat} {name : List UInt8} {t : Tr} {m : Ms} (h : vMsg s name = some m) : treeN s (K + 1) name t = true ↔ OkT2 s K m t := by
  rw [treeN_some h]
  simp only [Bool.and_eq_true, decide_eq_true_eq, List.all_eq_true]
  rw [rises_pair, allS_iff]
  exact ⟨fun ⟨a, ⟨b, c⟩, d⟩ => ⟨⟨a, b, c⟩, d⟩, fun ⟨⟨a, b, c⟩, d⟩ => ⟨a, ⟨b, c⟩, d⟩⟩
theorem ref_there {s : Sc} (hc : checkT s = 0) {m : Ms} (hm : m ∈ s.msgs) {f : Fd} (hf : f ∈ m.fields) (h15 : f.ty = 15) : 0 ≤ messageT s f.ref := by
  obtain ⟨_, _, _, _, _, _, _, h8⟩ := check_parts hc
  unfold refsT at h8
  have h := List.any_eq_false.mp h8 m hm
  unfold refsM at h
  have h2 := List.any_eq_false.mp (by simpa using h) f hf
  unfold refF at h2
  rw [h15] at h2
  simp at h2
  omega
/-- One field laid into a value. -/
theorem step_ok {s : Sc} (hc : checkT s = 0) {m : Ms} (hm : m ∈ s.msgs) {K : Nat} {E : List UInt8 → Tr → List UInt8 → Tr × Nat} (hE : ∀ name u bs, treeN s K name u = true → (E name u bs).2 = 0 → treeN s K name (E name u bs).1 = true) (hK : ∀ name u bs, (E name u bs).2 = 0 → 0 < K) {t : Tr} (ht : OkT2 s K m t) {x : Rw} (hx : okR x = true ∧ x.n < 18446744073709551616) (h0 : (stepD E m t x).2 = 0) : OkT2 s K m (stepD E m t x).1 := by
  unfold stepD at h0 ⊢
  cases hf : vFld m x.num with
  | none =>
    refine ⟨ht.1, fun r hr => ?_⟩
    rcases List.mem_append.mp hr with h | h
    · exact ht.2 r h
    · obtain rfl := List.mem_singleton.mp h
      unfold restT
      rw [hx.1, Bool.true_and]
      unfold vFld at hf
      split at hf
      · rename_i h; exact decide_eq_true h
      · rcases fld_way m r.num with ⟨h1, _⟩ | ⟨i, f, h1, h2, h3⟩
        · exact decide_eq_true (by omega)
        · unfold vFld at h3
          rename_i h9
          rw [if_neg h9] at h3
          rw [h3] at hf; cases hf
  | some f =>
    have hn := vFld_num hf
    have hf' : vFld m f.num = some f := by rw [hn]; exact hf
    obtain ⟨_, _, _, _, c2, c3, _, _⟩ := fcheck_ok (sch_field hc hm (vFld_mem hf))
    rw [hf] at h0
    dsimp only at h0 ⊢
    cases hv : valsD f x with
    | none => rw [hv] at h0; cases h0
    | some l =>
      rw [hv] at h0
      dsimp only at h0 ⊢
      by_cases h15 : f.ty ≠ 15
      · rw [if_pos h15]
        obtain ⟨q1, q2⟩ := vals_ok (V := treeN s K) ⟨c2, c3⟩ h15 hx.2 hv
        exact ⟨lay_ok hc hm hf' ht.1 q1 (fun v hvm => (q2 v hvm).1), ht.2⟩
      · rw [if_neg h15] at h0 ⊢
        have h15' : f.ty = 15 := by omega
        have ho := ht.1.sub (othersD_sub m f t.slots)
        generalize hsl : othersD m f t.slots = sl at *
        unfold msgD at h0 ⊢
        generalize hq : E f.ref (wasD f (getT sl f.num)) x.s = q at *
        unfold endD at h0 ⊢
        by_cases hq0 : q.2 ≠ 0
        · rw [if_pos hq0] at h0; exact absurd h0 hq0
        · rw [if_neg hq0]
          have hz : q.2 = 0 := by omega
          have hKp := hK f.ref (wasD f (getT sl f.num)) x.s (by rw [hq]; exact hz)
          have hgot := got_each ho hf'
          have hkid : ∀ v ∈ getT sl f.num, ∃ u, v.vm = [u] ∧ treeN s K f.ref u = true := fun v hv' => by
            have := hgot v hv'
            unfold eachV at this
            rw [Bool.and_eq_true] at this
            rcases val_parts this.1 with ⟨a, _⟩ | ⟨_, _, _, _, u, a, b⟩ | ⟨_, a, _⟩
            · rw [h15'] at a; exact absurd a (by decide)
            · exact ⟨u, a, b⟩
            · omega
          have hwas : treeN s K f.ref (wasD f (getT sl f.num)) = true := by
            unfold wasD
            cases hone : oneD f (getT sl f.num) with
            | false =>
              obtain ⟨k, rfl⟩ : ∃ k, K = k + 1 := ⟨K - 1, by omega⟩
              show treeN s (k + 1) f.ref (.mk [] []) = true
              rw [tree_empty]
              exact decide_eq_true (ref_there hc hm (vFld_mem hf) h15')
            | true =>
              show treeN s K f.ref (((getT sl f.num).headD default).vm.headD default) = true
              unfold oneD at hone
              simp only [Bool.and_eq_true, Bool.not_eq_true'] at hone
              cases hg : getT sl f.num with
              | nil => rw [hg] at hone; cases hone.2
              | cons v r =>
                obtain ⟨u, h1, h2⟩ := hkid v (by rw [hg]; exact List.mem_cons_self)
                show treeN s K f.ref (v.vm.headD default) = true
                rw [h1]
                exact h2
          have hnew := hE f.ref _ x.s hwas (by rw [hq]; exact hz)
          rw [hq] at hnew
          have hnv : valT (treeN s K) f ⟨0, [], [q.1]⟩ = true := by
            rw [val_15 h15']
            simp [soleT, hnew]
          have hhid : hiddenT f = false := by unfold hiddenT; rw [h15']; simp
          have hnew2 : eachV (treeN s K) f ⟨0, [], [q.1]⟩ = true := by unfold eachV; rw [hnv, hhid]; rfl
          have hone : ∀ vals, oneAt m ⟨f.num, vals⟩ = f.one := fun vals => by unfold oneAt; dsimp only; rw [hf']
          refine ⟨?_, ht.2⟩
          refine ho.with_ (fun hne => slot_made hf' hne ?_ (fun v hvm => ?_)) (fun z hz hne => by rw [hone, ← hsl] at *; exact others_one hc hm ht.1 (vFld_mem hf) z hz hne)
          · by_cases hrep : f.rep = true
            · exact .inl hrep
            · refine .inr ⟨⟨0, [], [q.1]⟩, ?_⟩
              have : cond (oneD f (getT sl f.num)) [] (getT sl f.num) = [] := by
                unfold oneD
                cases hg : getT sl f.num with
                | nil => simp
                | cons v r => simp [hrep]
              rw [this]; rfl
          · rcases List.mem_append.mp hvm with h | h
            · cases hone2 : oneD f (getT sl f.num) with
              | true => rw [hone2] at h; cases h
              | false => rw [hone2] at h; exact hgot v h
            · obtain rfl := List.mem_singleton.mp h
              exact hnew2
theorem fold_ok {s : Sc} (hc : checkT s = 0) {m : Ms} (hm : m ∈ s.msgs) {K : Nat} {E : List UInt8 → Tr → List UInt8 → Tr × Nat} (hE : ∀ name u bs, treeN s K name u = true → (E name u bs).2 = 0 → treeN s K name (E name u bs).1 = true) (hK : ∀ name u bs, (E name u bs).2 = 0 → 0 < K) : ∀ (l : List Rw) (t : Tr), OkT2 s K m t → (∀ x ∈ l, okR x = true ∧ x.n < 18446744073709551616) → (foldD E m t l).2 = 0 → OkT2 s K m (foldD E m t l).1
  | [], t, ht, _, _ => by rw [foldD]; exact ht
  | x :: l, t, ht, hx, h0 => by
    rw [foldD] at h0 ⊢
    by_cases hs : (stepD E m t x).2 ≠ 0
    · rw [if_pos hs] at h0; exact absurd h0 hs
    · rw [if_neg hs] at h0 ⊢
      exact fold_ok hc hm hE hK l _ (step_ok hc hm hE hK ht (hx x List.mem_cons_self) (by omega)) (fun y hy => hx y (List.mem_cons_of_mem _ hy)) h0
/-- What is read is a value. -/
theorem into_valid {s : Sc} (hc : checkT s = 0) : ∀ (j K : Nat) (name : List UInt8) (t : Tr) (bs : List UInt8), j ≤ K → treeN s K name t = true → (intoN s j name t bs).2 = 0 → treeN s K name (intoN s j name t bs).1 = true
  | 0, _, _, _, _, _, _, h => by cases h
  | j + 1, 0, _, _, _, h, _, _ => by omega
  | j + 1, K + 1, name, t, bs, hjK, ht, h0 => by
    cases hmv : vMsg s name with
    | none => rw [treeN_none hmv] at ht; cases ht
    | some m =>
      have hm := vMsg_mem hmv
      rw [intoN, hmv] at h0 ⊢
      dsimp only at h0 ⊢
      generalize hfd : foldD (intoN s j) m t ((getR bs).1.map Prod.fst) = q at *
      by_cases hq : q.2 ≠ 0
      · rw [if_pos hq] at h0; exact absurd h0 hq
      · rw [if_neg hq] at h0 ⊢
        by_cases hg : (getR bs).2 = true
        · rw [if_pos hg] at h0 ⊢
          obtain ⟨g1, _⟩ := get_right hg
          rw [treeN_iff hmv] at ht ⊢
          have := fold_ok hc hm (K := K) (E := intoN s j) (fun n u b hu hz => into_valid hc j K n u b (by omega) hu hz) (fun n u b hz => by
            cases j with
            | zero => cases hz
            | succ j => omega) _ t ht (fun x hx => ⟨(g1 x hx).1, (g1 x hx).2.1⟩) (by rw [hfd]; omega)
          rw [hfd] at this
          exact this
        · rw [if_neg hg] at h0; cases h0
end Go.Proofs.YtpfdnggacpehdaaGreatDoor

/- Layer 22 in plain words (no program here): what is read is not larger than the bytes, nor deeper than may be. Conditions: those that each theorem names. -/
namespace Go.Proofs.YtpfdnggacpehdaaGreatDoor
open Go.RowKit Go.Lib
set_option linter.unusedVariables false

def wtV (wt : Tr → Nat) (l : List Va) : Nat := sumB (fun v : Va => 1 + v.vs.length + sumB wt v.vm) l
def wtS (wt : Tr → Nat) (l : List Slt) : Nat := sumB (fun z : Slt => 1 + wtV wt z.svals) l
/-- How much a tree has. -/
def wtN : Nat → Tr → Nat
  | 0, _ => 0
  | k + 1, t => sumB (fun r : Rw => 1 + r.s.length) t.rest + wtS (wtN k) t.slots
def dpV (dp : Tr → Nat) (l : List Va) : Nat := supB (fun v : Va => supB dp v.vm) l
def dpS (dp : Tr → Nat) (l : List Slt) : Nat := supB (fun z : Slt => dpV dp z.svals) l
theorem deep_S (k : Nat) (t : Tr) : deepN (k + 1) t = dpS (deepN k) t.slots + 1 := rfl
def nm64V (nm : Tr → Prop) (v : Va) : Prop := v.vn < 18446744073709551616 ∧ ∀ u ∈ v.vm, nm u
/-- All numbers are of 64 bits. -/
def numN : Nat → Tr → Prop
  | 0, _ => True
  | k + 1, t => (∀ r ∈ t.rest, r.n < 18446744073709551616) ∧ ∀ z ∈ t.slots, ∀ v ∈ z.svals, nm64V (numN k) v
section
variable {wt dp : Tr → Nat} {nm : Tr → Prop} {num : Int} {vals : List Va}
theorem sumB_sub' {α : Type} {f : α → Nat} {l m : List α} (h : l.Sublist m) : sumB f l ≤ sumB f m := by
  induction h with
  | slnil => exact Nat.le_refl _
  | cons a _ ih => rw [sumB]; omega
  | cons_cons a _ ih => rw [sumB, sumB]; omega
theorem sumB_app {α : Type} (f : α → Nat) : ∀ a b : List α, sumB f (a ++ b) = sumB f a + sumB f b
  | [], b => by rw [List.nil_append, sumB]; omega
  | x :: a, b => by rw [List.cons_append, sumB, sumB, sumB_app f a b]; omega
theorem wtV_app (a b : List Va) : wtV wt (a ++ b) = wtV wt a + wtV wt b := sumB_app _ a b
theorem wtS_put : ∀ l, wtS wt (putN num vals l) = 1 + wtV wt vals + wtS wt l
  | [] => rfl
  | s :: l => by
    have ih := wtS_put l
    rw [putN]
    split
    · rfl
    · unfold wtS at ih ⊢
      rw [sumB, sumB, ih]
      omega
theorem wtS_drop : ∀ l : List Slt, wtS wt (dropN num l) ≤ wtS wt l ∧ (getT l num ≠ [] → wtS wt (dropN num l) + (1 + wtV wt (getT l num)) ≤ wtS wt l)
  | [] => ⟨Nat.le_refl _, fun h => absurd rfl h⟩
  | s :: l => by
    obtain ⟨h1, h2⟩ := wtS_drop l
    have hw : wtS wt (s :: l) = (1 + wtV wt s.svals) + wtS wt l := rfl
    by_cases hs : s.snum = num
    · have e : dropN num (s :: l) = dropN num l := by unfold dropN; rw [List.filter_cons_of_neg (by simp [hs])]
      rw [e, hw, getT, if_pos hs]
      exact ⟨by omega, fun _ => by omega⟩
    · have e : dropN num (s :: l) = s :: dropN num l := by unfold dropN; rw [List.filter_cons_of_pos (by simp [hs])]
      have hw2 : wtS wt (s :: dropN num l) = (1 + wtV wt s.svals) + wtS wt (dropN num l) := rfl
      rw [e, hw, hw2, getT, if_neg hs]
      exact ⟨by omega, fun h => by have := h2 h; omega⟩
theorem wtS_with (l : List Slt) : wtS wt (withT num vals l) ≤ wtS wt l + (1 + wtV wt vals) := by
  have h := (wtS_drop (wt := wt) (num := num) l).1
  unfold withT
  split
  · omega
  · rw [wtS_put]; omega
theorem wtS_more (l : List Slt) : wtS wt (withT num (getT l num ++ vals) l) ≤ wtS wt l + (1 + wtV wt vals) := by
  obtain ⟨h1, h2⟩ := wtS_drop (wt := wt) (num := num) l
  unfold withT
  split
  · omega
  · rw [wtS_put, wtV_app]
    by_cases hg : getT l num = []
    · rw [hg]
      show 1 + (0 + wtV wt vals) + _ ≤ _
      omega
    · have := h2 hg; omega
theorem wtS_over (l : List Slt) (hg : getT l num ≠ []) : wtS wt (withT num vals l) + wtV wt (getT l num) ≤ wtS wt l + wtV wt vals := by
  have h2 := (wtS_drop (wt := wt) (num := num) l).2 hg
  unfold withT
  split
  · omega
  · rw [wtS_put]; omega
theorem withT_mem {l : List Slt} {z : Slt} (h : z ∈ withT num vals l) : z ∈ l ∨ z = ⟨num, vals⟩ := by
  unfold withT at h
  split at h
  · exact .inl ((dropN_sub _ _).subset h)
  · rcases putN_mem h with h | h
    · exact .inr h
    · exact .inl ((dropN_sub _ _).subset h)
theorem supB_all {α : Type} {f : α → Nat} {n : Nat} : ∀ {l : List α}, (∀ x ∈ l, f x ≤ n) → supB f l ≤ n
  | [], _ => Nat.zero_le _
  | x :: l, h => by
    rw [supB]
    have h1 := h x List.mem_cons_self
    have h2 := supB_all (f := f) (l := l) (fun y hy => h y (List.mem_cons_of_mem _ hy))
    omega
theorem dpS_with {n : Nat} {l : List Slt} (h : dpS dp l ≤ n) (hv : dpV dp vals ≤ n) : dpS dp (withT num vals l) ≤ n := by
  refine supB_all (fun z hz => ?_)
  rcases withT_mem hz with h1 | h1
  · exact Nat.le_trans (supB_mem' (f := fun z : Slt => dpV dp z.svals) h1) h
  · rw [h1]; exact hv
theorem dpS_sub {n : Nat} {l m : List Slt} (h : dpS dp m ≤ n) (hs : l.Sublist m) : dpS dp l ≤ n :=
  supB_all (fun z hz => Nat.le_trans (supB_mem' (f := fun z : Slt => dpV dp z.svals) (hs.subset hz)) h)
theorem dpS_get {n : Nat} {l : List Slt} (h : dpS dp l ≤ n) : dpV dp (getT l num) ≤ n := by
  rcases getT_mem (num := num) (l := l) with e | ⟨z, hz, _, h2⟩
  · rw [e]; exact Nat.zero_le _
  · rw [← h2]
    exact Nat.le_trans (supB_mem' (f := fun z : Slt => dpV dp z.svals) hz) h
theorem dpV_app {n : Nat} {a b : List Va} (h1 : dpV dp a ≤ n) (h2 : dpV dp b ≤ n) : dpV dp (a ++ b) ≤ n := by
  refine supB_all (fun v hv => ?_)
  rcases List.mem_append.mp hv with h | h
  · exact Nat.le_trans (supB_mem' (f := fun v : Va => supB dp v.vm) h) h1
  · exact Nat.le_trans (supB_mem' (f := fun v : Va => supB dp v.vm) h) h2
def numS (nm : Tr → Prop) (l : List Slt) : Prop := ∀ z ∈ l, ∀ v ∈ z.svals, nm64V nm v
theorem numS_with {l : List Slt} (h : numS nm l) (hv : ∀ v ∈ vals, nm64V nm v) : numS nm (withT num vals l) := fun z hz => by
  rcases withT_mem hz with h1 | h1
  · exact h z h1
  · rw [h1]; exact hv
theorem numS_get {l : List Slt} (h : numS nm l) : ∀ v ∈ getT l num, nm64V nm v := fun v hv => by
  rcases getT_mem (num := num) (l := l) with e | ⟨z, hz, _, h2⟩
  · rw [e] at hv; cases hv
  · exact h z hz v (by rw [h2]; exact hv)
end

/-! ### One field -/
theorem nums64_len {ty : Int} {bs : List UInt8} : ∀ (f : Nat) (s : St), s.fr = [bs.length] → (numsS ty bs f s).1.length ≤ bs.length - s.at_
  | 0, _, _ => Nat.zero_le _
  | f + 1, s, h => by
    rw [numsS]
    split
    · rename_i hm
      have hlt : s.at_ < bs.length := by
        unfold St.more at hm
        rw [h] at hm
        exact of_decide_eq_true hm
      split
      · exact Nat.zero_le _
      · rename_i hf
        rcases rd_on (takeT ty) 0 bs s with h1 | ⟨h1, h2⟩
        · exact absurd h1 hf
        · have := nums64_len (ty := ty) f (s.rd (takeT ty) 0 bs).2 (h1.trans h)
          rw [List.length_cons]
          omega
    · exact Nat.zero_le _
theorem bytes_lo {x : Rw} (hx : okR x = true) : 2 + x.s.length ≤ (bytesR x).length := by
  have h1 := uvarint_pos' (tagN x.num x.wire)
  unfold okR at hx
  rw [Bool.and_eq_true] at hx
  obtain ⟨ha, hb⟩ := hx
  rw [rightB_iff] at ha
  unfold bytesR valR
  rw [List.length_append]
  by_cases w2 : x.wire = 2
  · rw [if_neg (by omega), if_neg (by omega), if_neg (by omega), List.length_append]
    have := uvarint_pos' x.s.length
    omega
  · rw [if_neg w2, Bool.and_eq_true, decide_eq_true_eq] at hb
    rw [hb.1]
    have h0 := uvarint_pos' x.n
    show 2 + 0 ≤ _
    split
    · omega
    · split
      · rw [le_length]; omega
      · split
        · rw [le_length]; omega
        · omega
/-- What stands on the wire, but for messages: how much it is. -/
theorem vals_wt {f : Fd} {x : Rw} {l : List Va} (wt : Tr → Nat) (h : valsD f x = some l) (hx : okR x = true) : 1 + wtV wt l ≤ (bytesR x).length ∧ dpV wt l = 0 := by
  have hb := bytes_lo hx
  unfold valsD at h
  split at h
  · rename_i hc
    simp only [Bool.and_eq_true, decide_eq_true_eq] at hc
    unfold unpackO at h
    rw [if_pos hc.1.2] at h
    split at h
    · have e := Option.some.inj h
      have hl := nums64_len (ty := f.ty) (bs := x.s) (x.s.length + 1) ⟨0, [x.s.length]⟩ rfl
      have key : ∀ q : List Nat, wtV wt (q.map (fun n => (⟨n, [], []⟩ : Va))) = q.length ∧ dpV wt (q.map (fun n => (⟨n, [], []⟩ : Va))) = 0 := by
        intro q
        induction q with
        | nil => exact ⟨rfl, rfl⟩
        | cons n q ih =>
          rw [List.map_cons]
          refine ⟨?_, ?_⟩
          · show (1 + 0 + 0) + wtV wt _ = _
            rw [ih.1, List.length_cons]; omega
          · show max 0 (dpV wt _) = 0
            rw [ih.2]; rfl
      have k := key (unpS f.ty x.s).1
      rw [← e]
      refine ⟨?_, k.2⟩
      rw [show wtV wt ((fun l => List.map (fun n => (⟨n, [], []⟩ : Va)) l) (unpS f.ty x.s).1) = _ from k.1]
      have : (unpS f.ty x.s).1.length ≤ x.s.length - 0 := hl
      omega
    · cases h
  · split at h
    · cases h
    · split at h
      · have e := Option.some.inj h
        rw [← e]
        exact ⟨by show 1 + (1 + 0 + 0 + 0) ≤ _; omega, rfl⟩
      · have e := Option.some.inj h
        rw [← e]
        exact ⟨by show 1 + (1 + x.s.length + 0 + 0) ≤ _; omega, rfl⟩
theorem lay_wt {m : Ms} {f : Fd} {l : List Va} (wt : Tr → Nat) (sl : List Slt) : wtS wt (layD m f l sl) ≤ wtS wt sl + (1 + wtV wt l) := by
  have h := sumB_sub' (f := fun z : Slt => 1 + wtV wt z.svals) (othersD_sub m f sl)
  unfold layD
  split
  · exact Nat.le_trans (wtS_more _) (Nat.add_le_add_right h _)
  · split
    · refine Nat.le_trans (wtS_with _) (Nat.le_trans (Nat.add_le_add_right h _) ?_)
      show wtS wt sl + (1 + 0) ≤ _
      omega
    · exact Nat.le_trans (wtS_with _) (Nat.add_le_add_right h _)
theorem lay_dp {m : Ms} {f : Fd} {l : List Va} {dp : Tr → Nat} {n : Nat} {sl : List Slt} (h : dpS dp sl ≤ n) (hv : dpV dp l ≤ n) : dpS dp (layD m f l sl) ≤ n := by
  have ho := dpS_sub h (othersD_sub m f sl)
  unfold layD
  split
  · exact dpS_with ho (dpV_app (dpS_get ho) hv)
  · split
    · exact dpS_with ho (Nat.zero_le _)
    · exact dpS_with ho hv
theorem lay_num {m : Ms} {f : Fd} {l : List Va} {nm : Tr → Prop} {sl : List Slt} (h : numS nm sl) (hv : ∀ v ∈ l, nm64V nm v) : numS nm (layD m f l sl) := by
  have ho : numS nm (othersD m f sl) := fun z hz => h z ((othersD_sub m f sl).subset hz)
  unfold layD
  split
  · refine numS_with ho (fun v hvm => ?_)
    rcases List.mem_append.mp hvm with h1 | h1
    · exact numS_get ho v h1
    · exact hv v h1
  · split
    · exact numS_with ho (fun v hvm => by cases hvm)
    · exact numS_with ho hv
end Go.Proofs.YtpfdnggacpehdaaGreatDoor

/- Layer 22 in plain words (no program here): what is read of few bytes is small, and its bytes are read as it. Conditions: those that each theorem names. -/
namespace Go.Proofs.YtpfdnggacpehdaaGreatDoor
open Go.RowKit Go.Lib
set_option linter.unusedVariables false

theorem wt_default (k : Nat) : wtN k default = 0 := by cases k <;> rfl
theorem dp_default (k : Nat) : deepN k default ≤ 1 := by
  cases k with
  | zero => exact Nat.zero_le _
  | succ k => exact Nat.le_refl _
theorem num_default (k : Nat) : numN k default := by
  cases k with
  | zero => trivial
  | succ k =>
    show numN (k + 1) (.mk [] [])
    unfold numN
    exact ⟨fun r h => by simp [Tr.rest] at h, fun z h => by simp [Tr.slots] at h⟩
/-- What reading adds. -/
structure Adds (K j : Nat) (t u : Tr) (n : Nat) : Prop where
  a_wt : wtN K u ≤ wtN K t + n
  a_dp : deepN K u ≤ max (deepN K t) j
  a_nm : numN K t → numN K u
theorem step_adds {s : Sc} (hc : checkT s = 0) {m : Ms} (hm : m ∈ s.msgs) {K j : Nat} {E : List UInt8 → Tr → List UInt8 → Tr × Nat} (hE : ∀ name u bs, treeN s K name u = true → (E name u bs).2 = 0 → Adds K j u (E name u bs).1 bs.length) (hK : ∀ name u bs, (E name u bs).2 = 0 → 0 < j ∧ 0 < K) {t : Tr} (ht : OkT2 s K m t) {x : Rw} (hx : okR x = true ∧ x.n < 18446744073709551616) (h0 : (stepD E m t x).2 = 0) : Adds (K + 1) (j + 1) t (stepD E m t x).1 (bytesR x).length := by
  have hb := bytes_lo hx.1
  unfold stepD at h0 ⊢
  cases hf : vFld m x.num with
  | none =>
    dsimp only
    refine ⟨?_, by rw [deep_S, deep_S]; exact Nat.le_max_left _ _, fun hn => ⟨fun r hr => ?_, hn.2⟩⟩
    · rw [wtN, wtN]
      show sumB _ (t.rest ++ [x]) + wtS _ t.slots ≤ _
      rw [sumB_app]
      show _ + (1 + x.s.length + 0) + _ ≤ _
      omega
    · rcases List.mem_append.mp hr with h | h
      · exact hn.1 r h
      · rw [List.mem_singleton.mp h]; exact hx.2
  | some f =>
    have hn := vFld_num hf
    have hf' : vFld m f.num = some f := by rw [hn]; exact hf
    obtain ⟨_, _, _, _, c2, c3, _, _⟩ := fcheck_ok (sch_field hc hm (vFld_mem hf))
    rw [hf] at h0
    dsimp only at h0 ⊢
    cases hv : valsD f x with
    | none => rw [hv] at h0; cases h0
    | some l =>
      rw [hv] at h0
      dsimp only at h0 ⊢
      by_cases h15 : f.ty ≠ 15
      · rw [if_pos h15]
        obtain ⟨q1, q2⟩ := vals_ok (V := treeN s K) ⟨c2, c3⟩ h15 hx.2 hv
        have w1 := (vals_wt (wtN K) hv hx.1).1
        have w2 := (vals_wt (deepN K) hv hx.1).2
        refine ⟨?_, ?_, fun hn => ⟨hn.1, ?_⟩⟩
        · rw [wtN, wtN]
          show _ + wtS _ (layD m f l t.slots) ≤ _
          have := lay_wt (m := m) (f := f) (l := l) (wtN K) t.slots
          show sumB _ t.rest + _ ≤ _
          omega
        · rw [deep_S, deep_S]
          have := lay_dp (m := m) (f := f) (l := l) (dp := deepN K) (n := dpS (deepN K) t.slots) (sl := t.slots) (Nat.le_refl _) (by rw [w2]; exact Nat.zero_le _)
          exact Nat.le_trans (Nat.succ_le_succ this) (Nat.le_max_left _ _)
        · refine lay_num (nm := numN K) hn.2 (fun v hvm => ⟨(q2 v hvm).2, fun u hu => ?_⟩)
          rcases val_parts (q2 v hvm).1 with ⟨_, _, _, a⟩ | ⟨_, a, _⟩ | ⟨_, _, _, a⟩
          · rw [a] at hu; cases hu
          · exact absurd a h15
          · rw [a] at hu; cases hu
      · rw [if_neg h15] at h0 ⊢
        have h15' : f.ty = 15 := by omega
        have ho := ht.1.sub (othersD_sub m f t.slots)
        have hws := sumB_sub' (f := fun z : Slt => 1 + wtV (wtN K) z.svals) (othersD_sub m f t.slots)
        have hds := dpS_sub (dp := deepN K) (n := dpS (deepN K) t.slots) (Nat.le_refl _) (othersD_sub m f t.slots)
        have hns : numS (numN K) t.slots → numS (numN K) (othersD m f t.slots) := fun h z hz => h z ((othersD_sub m f t.slots).subset hz)
        generalize hsl : othersD m f t.slots = sl at *
        unfold msgD at h0 ⊢
        generalize hq : E f.ref (wasD f (getT sl f.num)) x.s = q at *
        unfold endD at h0 ⊢
        by_cases hq0 : q.2 ≠ 0
        · rw [if_pos hq0] at h0; exact absurd h0 hq0
        · rw [if_neg hq0]
          have hz : q.2 = 0 := by omega
          have hKp := hK f.ref (wasD f (getT sl f.num)) x.s (by rw [hq]; exact hz)
          have hgot := got_each ho hf'
          have hkid : ∀ v ∈ getT sl f.num, ∃ u, v.vm = [u] ∧ treeN s K f.ref u = true := fun v hv' => by
            have := hgot v hv'
            unfold eachV at this
            rw [Bool.and_eq_true] at this
            rcases val_parts this.1 with ⟨a, _⟩ | ⟨_, _, _, _, u, a, b⟩ | ⟨_, a, _⟩
            · rw [h15'] at a; exact absurd a (by decide)
            · exact ⟨u, a, b⟩
            · omega
          have hone : oneD f (getT sl f.num) = false ∨ ∃ v r u, getT sl f.num = v :: r ∧ v.vm = [u] ∧ treeN s K f.ref u = true ∧ oneD f (getT sl f.num) = true := by
            cases h1 : oneD f (getT sl f.num) with
            | false => exact .inl rfl
            | true =>
              unfold oneD at h1
              simp only [Bool.and_eq_true, Bool.not_eq_true'] at h1
              cases hg : getT sl f.num with
              | nil => rw [hg] at h1; cases h1.2
              | cons v r =>
                obtain ⟨u, a, b⟩ := hkid v (by rw [hg]; exact List.mem_cons_self)
                exact .inr ⟨v, r, u, rfl, a, b, rfl⟩
          rcases hone with h1 | ⟨v, r, u, hg, hvm, htu, h1⟩
          · have hwas : wasD f (getT sl f.num) = default := by unfold wasD; rw [h1]; rfl
            have hdef : treeN s K f.ref default = true := by
              obtain ⟨k, rfl⟩ : ∃ k, K = k + 1 := ⟨K - 1, by omega⟩
              show treeN s (k + 1) f.ref (.mk [] []) = true
              rw [tree_empty]
              exact decide_eq_true (ref_there hc hm (vFld_mem hf) h15')
            rw [hwas] at hq
            have ha := hE f.ref default x.s hdef (by rw [hq]; exact hz)
            rw [hq] at ha
            have a1 := ha.a_wt
            have a2 := ha.a_dp
            rw [wt_default] at a1
            have a3 := dp_default K
            rw [h1]
            refine ⟨?_, ?_, fun hn => ⟨hn.1, ?_⟩⟩
            · rw [wtN, wtN]
              show _ + wtS _ (withT f.num (getT sl f.num ++ [⟨0, [], [q.1]⟩]) sl) ≤ _
              have := wtS_more (wt := wtN K) (num := f.num) (vals := [⟨0, [], [q.1]⟩]) sl
              have e : wtV (wtN K) [⟨0, [], [q.1]⟩] = 1 + 0 + (wtN K q.1 + 0) + 0 := rfl
              have e2 : wtS (wtN K) sl ≤ wtS (wtN K) t.slots := hws
              show sumB _ t.rest + _ ≤ _
              omega
            · rw [deep_S, deep_S]
              have : dpS (deepN K) (withT f.num (getT sl f.num ++ [⟨0, [], [q.1]⟩]) sl) ≤ max (dpS (deepN K) t.slots) j := by
                refine dpS_with (Nat.le_trans hds (Nat.le_max_left _ _)) (dpV_app (dpS_get (Nat.le_trans hds (Nat.le_max_left _ _))) ?_)
                show max (max (deepN K q.1) 0) 0 ≤ _
                omega
              show dpS (deepN K) (withT f.num (getT sl f.num ++ [⟨0, [], [q.1]⟩]) sl) + 1 ≤ _
              omega
            · refine numS_with (hns hn.2) (fun w hw => ?_)
              rcases List.mem_append.mp hw with h | h
              · exact numS_get (hns hn.2) w h
              · rw [List.mem_singleton.mp h]
                exact ⟨show 0 < 18446744073709551616 by decide, fun y hy => by rw [List.mem_singleton.mp hy]; exact ha.a_nm (num_default K)⟩
          · have hwas : wasD f (getT sl f.num) = u := by
              unfold wasD
              rw [h1, hg]
              show v.vm.headD default = u
              rw [hvm]; rfl
            rw [hwas] at hq
            have ha := hE f.ref u x.s htu (by rw [hq]; exact hz)
            rw [hq] at ha
            have a1 := ha.a_wt
            have a2 := ha.a_dp
            have hvin : v ∈ getT sl f.num := by rw [hg]; exact List.mem_cons_self
            rw [h1]
            refine ⟨?_, ?_, fun hn => ⟨hn.1, ?_⟩⟩
            · rw [wtN, wtN]
              show _ + wtS _ (withT f.num ([] ++ [⟨0, [], [q.1]⟩]) sl) ≤ _
              have := wtS_over (wt := wtN K) (num := f.num) (vals := [⟨0, [], [q.1]⟩]) sl (by rw [hg]; simp)
              have e : wtV (wtN K) [⟨0, [], [q.1]⟩] = 1 + 0 + (wtN K q.1 + 0) + 0 := rfl
              have e3 : wtV (wtN K) (getT sl f.num) = (1 + v.vs.length + (wtN K u + 0)) + wtV (wtN K) r := by rw [hg]; unfold wtV; rw [sumB, hvm]; rfl
              have e2 : wtS (wtN K) sl ≤ wtS (wtN K) t.slots := hws
              rw [List.nil_append]
              show sumB _ t.rest + _ ≤ _
              omega
            · rw [deep_S, deep_S]
              have du : deepN K u ≤ dpS (deepN K) t.slots := by
                have d1 := dpS_get (num := f.num) hds
                have d2 := supB_mem' (f := fun v : Va => supB (deepN K) v.vm) hvin
                have d3 := supB_mem' (f := deepN K) (show u ∈ v.vm by rw [hvm]; exact List.mem_cons_self)
                unfold dpV at d1
                omega
              have : dpS (deepN K) (withT f.num ([] ++ [⟨0, [], [q.1]⟩]) sl) ≤ max (dpS (deepN K) t.slots) j := by
                refine dpS_with (Nat.le_trans hds (Nat.le_max_left _ _)) ?_
                show max (max (deepN K q.1) 0) 0 ≤ _
                omega
              show dpS (deepN K) (withT f.num ([] ++ [⟨0, [], [q.1]⟩]) sl) + 1 ≤ _
              omega
            · refine numS_with (hns hn.2) (fun w hw => ?_)
              rw [show (cond true [] (getT sl f.num) : List Va) = [] from rfl, List.nil_append] at hw
              rw [List.mem_singleton.mp hw]
              exact ⟨show 0 < 18446744073709551616 by decide, fun y hy => by rw [List.mem_singleton.mp hy]; exact ha.a_nm ((numS_get (hns hn.2) v hvin).2 u (by rw [hvm]; exact List.mem_cons_self))⟩
theorem adds_trans {K j n m : Nat} {a b c : Tr} (h : Adds K j a b n) (k : Adds K j b c m) : Adds K j a c (n + m) :=
  ⟨by have := h.a_wt; have := k.a_wt; omega, by have := h.a_dp; have := k.a_dp; omega, fun q => k.a_nm (h.a_nm q)⟩
theorem fold_adds {s : Sc} (hc : checkT s = 0) {m : Ms} (hm : m ∈ s.msgs) {K j : Nat} {E : List UInt8 → Tr → List UInt8 → Tr × Nat} (hV : ∀ name u bs, treeN s K name u = true → (E name u bs).2 = 0 → treeN s K name (E name u bs).1 = true) (hE : ∀ name u bs, treeN s K name u = true → (E name u bs).2 = 0 → Adds K j u (E name u bs).1 bs.length) (hK : ∀ name u bs, (E name u bs).2 = 0 → 0 < j ∧ 0 < K) : ∀ (l : List Rw) (t : Tr), OkT2 s K m t → (∀ x ∈ l, okR x = true ∧ x.n < 18446744073709551616) → (foldD E m t l).2 = 0 → Adds (K + 1) (j + 1) t (foldD E m t l).1 (putR l).length
  | [], t, ht, _, _ => by rw [foldD]; exact ⟨Nat.le_refl _, Nat.le_max_left _ _, fun h => h⟩
  | x :: l, t, ht, hx, h0 => by
    rw [foldD] at h0 ⊢
    by_cases hs : (stepD E m t x).2 ≠ 0
    · rw [if_pos hs] at h0; exact absurd h0 hs
    · rw [if_neg hs] at h0 ⊢
      have hz : (stepD E m t x).2 = 0 := by omega
      have hxx := hx x List.mem_cons_self
      have h1 := step_adds hc hm hE hK ht hxx hz
      have h2 := fold_adds hc hm hV hE hK l _ (step_ok hc hm hV (fun n u b h => (hK n u b h).2) ht hxx hz) (fun y hy => hx y (List.mem_cons_of_mem _ hy)) h0
      rw [putR, List.length_append]
      exact adds_trans h1 h2
theorem into_adds {s : Sc} (hc : checkT s = 0) : ∀ (j K : Nat) (name : List UInt8) (t : Tr) (bs : List UInt8), j ≤ K → treeN s K name t = true → (intoN s j name t bs).2 = 0 → Adds K j t (intoN s j name t bs).1 bs.length
  | 0, _, _, _, _, _, _, h => by cases h
  | j + 1, 0, _, _, _, h, _, _ => by omega
  | j + 1, K + 1, name, t, bs, hjK, ht, h0 => by
    cases hmv : vMsg s name with
    | none => rw [treeN_none hmv] at ht; cases ht
    | some m =>
      have hm := vMsg_mem hmv
      rw [intoN, hmv] at h0 ⊢
      dsimp only at h0 ⊢
      generalize hfd : foldD (intoN s j) m t ((getR bs).1.map Prod.fst) = q at *
      by_cases hq : q.2 ≠ 0
      · rw [if_pos hq] at h0; exact absurd h0 hq
      · rw [if_neg hq] at h0 ⊢
        by_cases hg : (getR bs).2 = true
        · rw [if_pos hg] at h0 ⊢
          obtain ⟨g1, g2⟩ := get_right hg
          rw [treeN_iff hmv] at ht
          have := fold_adds hc hm (K := K) (j := j) (E := intoN s j) (fun n u b hu hz => into_valid hc j K n u b (by omega) hu hz) (fun n u b hu hz => into_adds hc j K n u b (by omega) hu hz) (fun n u b hz => by
            cases j with
            | zero => cases hz
            | succ j => omega) _ t ht (fun x hx => ⟨(g1 x hx).1, (g1 x hx).2.1⟩) (by rw [hfd]; omega)
          rw [hfd] at this
          exact ⟨by have := this.a_wt; omega, this.a_dp, this.a_nm⟩
        · rw [if_neg hg] at h0; cases h0

/-! ### Small trees -/
theorem sum_mem_le {α : Type} {f : α → Nat} {l : List α} {x : α} {n : Nat} (h : sumB f l ≤ n) (hx : x ∈ l) : f x ≤ n := Nat.le_trans (sumB_mem f hx) h
theorem sum_len {α : Type} {f : α → Nat} (hf : ∀ x, 1 ≤ f x) : ∀ l : List α, l.length ≤ sumB f l
  | [] => Nat.zero_le _
  | x :: l => by have := hf x; have := sum_len hf l; rw [List.length_cons, sumB]; omega
end Go.Proofs.YtpfdnggacpehdaaGreatDoor

/- Layer 22 in plain words (no program here): numbers that are read one by one. Conditions: those that each theorem names. -/
namespace Go.Proofs.YtpfdnggacpehdaaGreatDoor
open Go.RowKit Go.Lib
set_option linter.unusedVariables false

/-- So many numbers are read, and this is left. -/
structure HalfN (ty : Int) (bs : List UInt8) (s : St) (acc : List Nat) : Prop where
  n_right : Right bs s
  n_fr : s.fr = [bs.length]
  n_all : unpS ty bs = (acc ++ (numsS ty bs (bs.length + 1 - acc.length) s).1, (numsS ty bs (bs.length + 1 - acc.length) s).2)
  n_le : acc.length ≤ s.at_
theorem take_le (ty : Int) : ∀ b, (takeT ty b).2 ≤ b.length := by
  unfold takeT
  split
  · exact tFix_le 8
  · split
    · exact tFix_le 4
    · exact tVar_le
theorem halfN_start (ty : Int) (bs : List UInt8) : HalfN ty bs ⟨0, [bs.length]⟩ [] := ⟨right_start bs, rfl, rfl, Nat.le_refl _⟩
section
variable {ty : Int} {bs : List UInt8} {s : St} {acc : List Nat}
theorem HalfN.len (h : HalfN ty bs s acc) : acc.length ≤ bs.length := by
  have h1 := h.n_right
  unfold Right at h1
  rw [h.n_fr] at h1
  have := h.n_le
  omega
theorem HalfN.fuel (h : HalfN ty bs s acc) : bs.length + 1 - acc.length = (bs.length - acc.length) + 1 := by have := h.len; omega
theorem HalfN.done (h : HalfN ty bs s acc) (hm : s.more = false) : unpS ty bs = (acc, true) := by
  have := h.n_all
  rw [h.fuel, numsS, if_neg (by rw [hm]; exact Bool.false_ne_true), List.append_nil] at this
  exact this
theorem HalfN.fail (h : HalfN ty bs s acc) (hm : s.more = true) (hf : (s.rd (takeT ty) 0 bs).2.fr = []) : (unpS ty bs).2 = false := by
  have := h.n_all
  rw [h.fuel, numsS, if_pos hm, if_pos hf, List.append_nil] at this
  rw [this]
theorem HalfN.step (h : HalfN ty bs s acc) (hm : s.more = true) (hf : (s.rd (takeT ty) 0 bs).2.fr ≠ []) : HalfN ty bs (s.rd (takeT ty) 0 bs).2 (acc ++ [fromT ty (s.rd (takeT ty) 0 bs).1]) := by
  have ha := h.n_all
  rw [h.fuel, numsS, if_pos hm, if_neg hf] at ha
  have ho := rd_on (takeT ty) 0 bs s
  have hle := h.n_le
  have hl := h.len
  refine ⟨right_rd h.n_right (take_le ty), ?_, ?_, ?_⟩
  · rcases ho with h1 | h1
    · exact absurd h1 hf
    · exact h1.1.trans h.n_fr
  · rw [List.length_append, show bs.length + 1 - (acc.length + [fromT ty (s.rd (takeT ty) 0 bs).1].length) = bs.length - acc.length by simp, List.append_assoc]
    exact ha
  · rcases ho with h1 | h1
    · exact absurd h1 hf
    · rw [List.length_append]; simp; omega
end

/-! ### Fields, laid one by one -/
section
variable {E : List UInt8 → Tr → List UInt8 → Tr × Nat} {m : Ms} {bs : List UInt8} {s : St} {acc : List (Rw × Nat)} {t u : Tr}
theorem Half.ahead (h : Half bs s acc) : ∃ r, (getR bs).1.map Prod.fst = acc.map Prod.fst ++ r := by
  refine ⟨((getsR bs (bs.length + 1 - acc.length) s).1).map Prod.fst, ?_⟩
  rw [h.all, List.map_append]
def endOf (E : List UInt8 → Tr → List UInt8 → Tr × Nat) (m : Ms) (bs : List UInt8) (t : Tr) : Tr × Nat :=
  if (foldD E m t ((getR bs).1.map Prod.fst)).2 ≠ 0 then foldD E m t ((getR bs).1.map Prod.fst) else if (getR bs).2 = true then foldD E m t ((getR bs).1.map Prod.fst) else ((foldD E m t ((getR bs).1.map Prod.fst)).1, 8)
theorem intoN_end {s : Sc} {k : Nat} {name : List UInt8} (h : vMsg s name = some m) : intoN s (k + 1) name t bs = endOf (intoN s k) m bs t := by rw [intoN, h]; rfl
/-- All is read. -/
theorem end_done (h : Half bs s acc) (hm : s.more = false) (hf : foldD E m t (acc.map Prod.fst) = (u, 0)) : endOf E m bs t = (u, 0) := by
  have e := h.done hm
  unfold endOf
  rw [e, hf, if_neg (fun h => h rfl), if_pos rfl]
/-- What stands there is no field. -/
theorem end_fail (h : Half bs s acc) (hm : s.more = true) (hb : (oneS bs s).2.fr = []) (hf : foldD E m t (acc.map Prod.fst) = (u, 0)) : endOf E m bs t = (u, 8) := by
  have e := h.fail hm hb
  unfold endOf
  rw [e, hf, if_neg (fun h => h rfl), if_neg (fun h => by cases h)]
/-- A field that may not be. -/
theorem end_stop (h : Half bs s acc) (hm : s.more = true) (hb : (oneS bs s).2.fr ≠ []) (hf : foldD E m t (acc.map Prod.fst) = (u, 0)) (hx : (stepD E m u (oneS bs s).1).2 ≠ 0) : (endOf E m bs t).2 = (stepD E m u (oneS bs s).1).2 := by
  obtain ⟨r, e⟩ := (h.step hm hb).ahead
  have hfd : foldD E m t ((getR bs).1.map Prod.fst) = stepD E m u (oneS bs s).1 := by
    rw [e, List.map_append, List.append_assoc, foldD_more hf]
    show foldD E m u ((oneS bs s).1 :: ([] ++ r)) = _
    rw [foldD, if_pos hx]
  unfold endOf
  rw [hfd, if_pos hx]
theorem fold_snoc {x : Rw} {p : Nat} {v : Tr} (hf : foldD E m t (acc.map Prod.fst) = (u, 0)) (hx : stepD E m u x = (v, 0)) : foldD E m t ((acc ++ [(x, p)]).map Prod.fst) = (v, 0) := by
  rw [List.map_append, foldD_more hf]
  show foldD E m u [x] = _
  rw [foldD_one hx, foldD]
end
end Go.Proofs.YtpfdnggacpehdaaGreatDoor

/- Layer 22 in plain words (no program here): what one cursor reads within frames is what cursors of their own read of the frames' bytes. Conditions: those that each theorem names. -/
namespace Go.Proofs.YtpfdnggacpehdaaGreatDoor
open Go.RowKit Go.Lib
set_option linter.unusedVariables false

/-- A state over a part of the bytes, as the whole's. -/
def St.lift (a : Nat) (r : List Nat) (s : St) : St := match s.fr with
  | [] => St.none
  | l :: _ => ⟨a + s.at_, (a + l) :: r⟩
def Sub (n : Nat) (s : St) : Prop := s.fr = [] ∨ s.fr = [n]
theorem lift_some {a n : Nat} {r : List Nat} {s : St} (h : s.fr = [n]) : s.lift a r = ⟨a + s.at_, (a + n) :: r⟩ := by unfold St.lift; rw [h]
theorem lift_none {a : Nat} {r : List Nat} {s : St} (h : s.fr = []) : s.lift a r = St.none := by unfold St.lift; rw [h]
theorem seg_seg {bs : List UInt8} {a n i : Nat} (h : a + n ≤ bs.length) : segOf (segOf bs a (a + n)) i n = segOf bs (a + i) (a + n) := by
  unfold segOf
  rw [List.take_of_length_le (by rw [List.length_drop, List.length_take]; omega), List.drop_drop]
section
variable {bs : List UInt8} {a n : Nat} {r : List Nat} {s : St}
theorem sub_rd {α : Type} (take : List UInt8 → α × Nat) (z : α) (b : List UInt8) (h : Sub n s) : Sub n (s.rd take z b).2 := by
  rcases rd_on take z b s with h1 | h1
  · exact .inl h1
  · unfold Sub; rw [h1.1]; exact h
theorem rd_lift {α : Type} (take : List UInt8 → α × Nat) (z : α) (hl : a + n ≤ bs.length) (h : Sub n s) : (s.lift a r).rd take z bs = ((s.rd take z (segOf bs a (a + n))).1, (s.rd take z (segOf bs a (a + n))).2.lift a r) := by
  rcases h with h | h
  · rw [lift_none h]
    have h1 : s.rd take z (segOf bs a (a + n)) = (z, s) := by unfold St.rd; rw [h]
    rw [h1]
    show _ = (z, s.lift a r)
    rw [lift_none h]
    rfl
  · rw [lift_some h]
    unfold St.rd
    rw [h]
    dsimp only
    rw [seg_seg hl]
    by_cases h0 : (take (segOf bs (a + s.at_) (a + n))).2 = 0
    · rw [if_pos h0, if_pos h0]; rfl
    · rw [if_neg h0, if_neg h0]
      unfold St.lift
      dsimp only
      rw [Nat.add_assoc]
theorem more_lift (h : Sub n s) : (s.lift a r).more = s.more := by
  rcases h with h | h
  · rw [lift_none h]; unfold St.more; rw [h]; rfl
  · rw [lift_some h]
    unfold St.more
    rw [h]
    dsimp only
    by_cases hh : s.at_ < n
    · rw [decide_eq_true hh, decide_eq_true (by omega)]
    · rw [decide_eq_false hh, decide_eq_false (by omega)]
/-- What stands behind a tag of that wire type. -/
def readS (wire : Int) (bs : List UInt8) (s : St) : (Nat × List UInt8) × St :=
  if wire = 1 then (((s.rd (tFix 8) 0 bs).1, []), (s.rd (tFix 8) 0 bs).2)
  else if wire = 2 then ((0, (s.rd tText [] bs).1), (s.rd tText [] bs).2)
  else if wire = 5 then (((s.rd (tFix 4) 0 bs).1, []), (s.rd (tFix 4) 0 bs).2)
  else (((s.rd tVar 0 bs).1, []), (s.rd tVar 0 bs).2)
theorem read_lift (wire : Int) (hl : a + n ≤ bs.length) (h : Sub n s) : readS wire bs (s.lift a r) = ((readS wire (segOf bs a (a + n)) s).1, (readS wire (segOf bs a (a + n)) s).2.lift a r) := by
  unfold readS
  rw [rd_lift (tFix 8) 0 hl h, rd_lift tText [] hl h, rd_lift (tFix 4) 0 hl h, rd_lift tVar 0 hl h]
  by_cases h1 : wire = 1
  · rw [if_pos h1, if_pos h1]
  · rw [if_neg h1, if_neg h1]
    by_cases h2 : wire = 2
    · rw [if_pos h2, if_pos h2]
    · rw [if_neg h2, if_neg h2]
      by_cases h5 : wire = 5
      · rw [if_pos h5, if_pos h5]
      · rw [if_neg h5, if_neg h5]
theorem tag_wire (b : List UInt8) (s : St) : (s.rd tTag (0, 0) b).1.2 = 0 ∨ (s.rd tTag (0, 0) b).1.2 = 1 ∨ (s.rd tTag (0, 0) b).1.2 = 2 ∨ (s.rd tTag (0, 0) b).1.2 = 5 := by
  unfold St.rd
  split
  · exact .inl rfl
  · rename_i l r hf
    by_cases h0 : (tTag (segOf b s.at_ l)).2 = 0
    · rw [if_pos h0]; exact .inl rfl
    · rw [if_neg h0]
      show (tTag (segOf b s.at_ l)).1.2 = 0 ∨ _
      have hok : splitOk (getFrom 0 0 (segOf b s.at_ l)).1 = true := by
        cases hs : splitOk (getFrom 0 0 (segOf b s.at_ l)).1 with
        | true => rfl
        | false => unfold tTag at h0; rw [hs] at h0; exact absurd rfl h0
      have hk := hok
      unfold splitOk at hk
      rw [rightB_iff] at hk
      have e : (tTag (segOf b s.at_ l)).1.2 = (getFrom 0 0 (segOf b s.at_ l)).1 % 8 := by
        show splitW _ = _
        unfold splitW
        rw [if_pos hok]
      rw [e]
      omega
theorem one_read (b : List UInt8) (s : St) : oneS b s = (⟨(s.rd tTag (0, 0) b).1.1, (s.rd tTag (0, 0) b).1.2, (readS (s.rd tTag (0, 0) b).1.2 b (s.rd tTag (0, 0) b).2).1.1, (readS (s.rd tTag (0, 0) b).1.2 b (s.rd tTag (0, 0) b).2).1.2⟩, (readS (s.rd tTag (0, 0) b).1.2 b (s.rd tTag (0, 0) b).2).2) := by
  unfold oneS
  rcases tag_wire b s with h | h | h | h <;> rw [h] <;> rfl
/-- The frame of a message within: its text fails, or it is read there, and left behind it. -/
theorem open_way (hl : a + n ≤ bs.length) (h : s.fr = [n]) :
    ((s.rd tText [] (segOf bs a (a + n))).2.fr = [] ∧ (s.lift a r).opens bs = St.none) ∨
    ∃ o t, (s.rd tText [] (segOf bs a (a + n))).1 = t ∧ (s.rd tText [] (segOf bs a (a + n))).2 = ⟨o + t.length, [n]⟩ ∧ (s.lift a r).opens bs = (⟨0, [t.length]⟩ : St).lift (a + o) ((a + n) :: r) ∧ segOf bs (a + o) (a + o + t.length) = t ∧ a + o + t.length ≤ bs.length ∧ o + t.length ≤ n ∧ s.at_ < o := by
  rw [lift_some h]
  unfold St.rd St.opens
  rw [h]
  dsimp only
  rw [seg_seg hl]
  have hlen := segOf_length (i := a + s.at_) hl
  have hs := tLen_sum (segOf bs (a + s.at_) (a + n))
  by_cases h0 : (tLen (segOf bs (a + s.at_) (a + n))).2 = 0
  · have h1 := tLen_zero _ h0
    left
    rw [if_pos h0, if_pos (by unfold tText; dsimp only; omega)]
    exact ⟨rfl, rfl⟩
  · right
    rw [if_neg h0, if_neg (by unfold tText; dsimp only; omega)]
    have ht : (tText (segOf bs (a + s.at_) (a + n))).1.length = (tLen (segOf bs (a + s.at_) (a + n))).1 := by
      unfold tText
      dsimp only
      rw [List.length_take, List.length_drop]
      omega
    refine ⟨s.at_ + (tLen (segOf bs (a + s.at_) (a + n))).2, _, rfl, ?_, ?_, ?_, ?_, ?_, ?_⟩
    · rw [ht]
      unfold tText
      dsimp only
      rw [Nat.add_assoc]
    · rw [ht]
      unfold St.lift
      dsimp only
      congr 1
      · omega
      · congr 1
        omega
    · rw [ht]
      unfold segOf tText
      dsimp only
      generalize hk : (tLen (List.drop (a + s.at_) (List.take (a + n) bs))).2 = k
      generalize hm : (tLen (List.drop (a + s.at_) (List.take (a + n) bs))).1 = m
      unfold segOf at hs hlen
      rw [hk, hm] at hs
      rw [hlen] at hs
      rw [List.drop_drop, List.drop_take, List.drop_take, List.take_take, Nat.min_eq_left (by omega), Nat.add_assoc a s.at_ k]
      congr 1
      omega
    · rw [ht]; omega
    · rw [ht]; omega
    · omega
theorem shut_way {a o m n : Nat} {r : List Nat} : (((⟨m, [m]⟩ : St).lift (a + o) ((a + n) :: r)).shuts) = (true, (⟨o + m, [n]⟩ : St).lift a r) := by
  unfold St.lift St.shuts
  dsimp only
  rw [if_pos rfl, Nat.add_assoc]
end
end Go.Proofs.YtpfdnggacpehdaaGreatDoor
