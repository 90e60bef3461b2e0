/- Several texts in one: Bytes, IdMath, Ints, Strs, TagMath. What each proves, and its conditions, stands at its own head. -/
import Derived.Below
import Derived.Laws.OwnMore
import Derived.Maps.AppendAt
import Derived.Lib.Hide
import Derived.Carry
import Derived.Laws.BytesArg
import Derived.OwnWalk
/- Words for memory (no program here): what it means that a slice value reads as a list of bytes in a world, and that this is kept. Conditions: none but those that each theorem names. -/
namespace Go.Proofs.YtjogamffdbedkaaGreatDoor
open Go.RowKit

/-- The cells of bytes. -/
def cellsOf (bs : List UInt8) : List Value := bs.map fun b => Value.int .u8 (b.toNat : Int)
theorem cellsOf_length (bs : List UInt8) : (cellsOf bs).length = bs.length := by simp [cellsOf]
theorem cellsOf_append (a b : List UInt8) : cellsOf (a ++ b) = cellsOf a ++ cellsOf b := by simp [cellsOf]
/-- The slice value '.slice A bs.length cap' reads as the bytes bs in the world w. -/
structure Bs (w : World) (A : Option Addr) (cap : Nat) (bs : List UInt8) : Prop where
  le : bs.length ≤ cap
  max : cap ≤ maxLen
  nil : A = none → cap = 0
  at_ : ∀ j c, bs[j]? = some c → ∃ b off, A = some ⟨b, off, none⟩ ∧ w.cell? ⟨b, off + j, none⟩ = some (.int .u8 (c.toNat : Int))

section
variable {w w' : World} {A : Option Addr} {cap : Nat} {bs : List UInt8}
theorem Bs.keep (h : Bs w A cap bs) (hk : ∀ p : Addr, p.block < w.heap.size → w'.cell? p = w.cell? p) : Bs w' A cap bs :=
  ⟨h.le, h.max, h.nil, fun j c hj => by
    obtain ⟨b, off, e, hc⟩ := h.at_ j c hj
    exact ⟨b, off, e, (hk _ (World.block_lt_of_cell? w _ hc)).trans hc⟩⟩
theorem Bs.below (h : Bs w A cap bs) {B : Nat} (hb : Below B w w') (hB : w.heap.size ≤ B) : Bs w' A cap bs := h.keep fun _ hp => hb.cell (by omega)
theorem Bs.alloc (h : Bs w A cap bs) (o : Obj) : Bs (w.alloc o) A cap bs := h.keep fun p hp => World.cell?_alloc_lt w o p hp
theorem Bs.drew (h : Bs w A cap bs) : Bs w.drew A cap bs := ⟨h.le, h.max, h.nil, h.at_⟩
theorem Bs.lt (h : Bs w A cap bs) {j : Nat} (hj : j < bs.length) : ∃ b off, A = some ⟨b, off, none⟩ ∧ w.cell? ⟨b, off + j, none⟩ = some (.int .u8 (bs[j].toNat : Int)) :=
  h.at_ j _ (List.getElem?_eq_getElem hj)
/-- The first bytes. -/
theorem Bs.take (h : Bs w A cap bs) (k : Nat) : Bs w A cap (bs.take k) :=
  ⟨by have := h.le; simp; omega, h.max, h.nil, fun j c hj => h.at_ j c (by
    rw [List.getElem?_take] at hj
    split at hj
    · exact hj
    · cases hj)⟩
/-- What the call owns reads so. -/
theorem Bs.own {base : Nat} {e : TypeId} {v : Value} {n : Nat} (h : w.ownsRow base e 1 v n (cellsOf bs)) : n = bs.length ∧ ∃ A cap, v = .slice A bs.length cap ∧ Bs w A cap bs := by
  have hn : n = bs.length := by have := h.1; rw [cellsOf_length] at this; omega
  subst hn
  refine ⟨rfl, ?_⟩
  rcases h.2 with ⟨rfl, h0⟩ | ⟨g, cap, cur, rfl, hb, hh, hle, hm, hs, ht⟩
  · refine ⟨none, 0, by rw [h0], by omega, by decide, fun _ => rfl, fun j c hj => ?_⟩
    have := (List.getElem?_eq_some_iff.1 hj).1
    omega
  · refine ⟨_, cap, rfl, hle, hm, (fun h => by cases h), fun j c hj => ⟨g, 0, rfl, ?_⟩⟩
    have hlt := (List.getElem?_eq_some_iff.1 hj).1
    have := h.cellAt (g := g) j (by omega)
    rw [Nat.zero_add, this]
    simp [cellsOf, hj]
end

/-- A slice literal of bytes. -/
theorem Bs.lit (w : World) (cs : Array Value) (t : TypeId) (bs : List UInt8) (hc : cs.toList = cellsOf bs) (hm : bs.length ≤ maxLen) :
    Bs (w.alloc (.cells cs t)) (some ⟨w.heap.size, 0, none⟩) bs.length bs := by
  refine ⟨Nat.le_refl _, hm, (fun h => by cases h), fun j c hj => ⟨_, _, rfl, ?_⟩⟩
  rw [cell_of_row _ w.heap.size (0 + j) cs t (0, 0) (heap_alloc_new w _), Nat.zero_add, ← Array.getElem?_toList, hc]
  simp [cellsOf, hj]

/-- The text of bytes. -/
def strOf (bs : List UInt8) : ByteArray := ⟨bs.toArray⟩
theorem strOf_beq (a b : List UInt8) : ((strOf a).toList == (strOf b).toList) = decide (a = b) := by
  rw [ByteArray.toList_eq, ByteArray.toList_eq, Bool.eq_iff_iff]
  simp [strOf]
theorem foldl_push_u8 : ∀ (bs : List UInt8) (s : ByteArray), (bs.map fun b => (b.toNat : Int)).foldl (fun r n => r.push (UInt8.ofNat n.toNat)) s = ⟨s.data ++ bs.toArray⟩
  | [], s => by simp
  | b :: bs, s => by
    rw [List.map_cons, List.foldl_cons, foldl_push_u8 bs]
    simp [ByteArray.push]
/-- 'string(b)'. -/
theorem run_string_bytes {P : Program} {w : World} {A : Option Addr} {cap : Nat} {bs : List UInt8} (h : Bs w A cap bs) {src dst e : TypeId}
    (hs : P.underlying src = some (.slice e)) (he : P.underlying e = some (.int .u8)) (hd : P.underlying dst = some .string) :
    (convert src dst (.slice A bs.length cap)).run P w = .ok (.string (strOf bs)) w := by
  rcases A with _ | a
  · have h0 := h.nil rfl
    have hle := h.le
    have : bs = [] := List.eq_nil_of_length_eq_zero (by omega)
    subst this
    exact run_convert_bytes_nil w src e hs he _ _ dst hd
  · have hl : (loadCells a bs.length).run P w = .ok ((bs.map fun b => (b.toNat : Int)).map (Value.int .u8)).toArray w := by
      have h2 := run_loadCells_list (P := P) w a ((bs.map fun b => (b.toNat : Int)).map (Value.int .u8)) (fun j v hj => by
        simp only [List.getElem?_map, Option.map_eq_some_iff] at hj
        obtain ⟨n, ⟨c, hc, rfl⟩, rfl⟩ := hj
        obtain ⟨b, off, ea, hcell⟩ := h.at_ j c hc
        cases ea
        have hplain : (⟨b, off, none⟩ : Addr).add j = ⟨b, off + j, none⟩ := by unfold Addr.add; split <;> simp_all
        rw [hplain]; exact hcell)
      simpa using h2
    rw [run_convert_bytes_string w src dst e _ _ _ hs he hd, run_bytesToString w _ _ _ _ hl, foldl_push_u8]
    simp [strOf, ByteArray.empty, ByteArray.emptyWithCapacity]
    rfl

/-- The slice value '.slice A cs.length cap' reads as these cells (of elements of one cell each). -/
structure Sl (w : World) (A : Option Addr) (cap : Nat) (cs : List Value) : Prop where
  le : cs.length ≤ cap
  max : cap ≤ maxLen
  nil : A = none → cap = 0
  at_ : ∀ j u, cs[j]? = some u → ∃ b off, A = some ⟨b, off, none⟩ ∧ w.cell? ⟨b, off + j, none⟩ = some u

section
variable {w w' : World} {A : Option Addr} {cap : Nat} {cs : List Value}
theorem Sl.keep (h : Sl w A cap cs) (hk : ∀ p : Addr, p.block < w.heap.size → w'.cell? p = w.cell? p) : Sl w' A cap cs :=
  ⟨h.le, h.max, h.nil, fun j c hj => by
    obtain ⟨b, off, e, hc⟩ := h.at_ j c hj
    exact ⟨b, off, e, (hk _ (World.block_lt_of_cell? w _ hc)).trans hc⟩⟩
theorem Sl.below (h : Sl w A cap cs) {B : Nat} (hb : Below B w w') (hB : w.heap.size ≤ B) : Sl w' A cap cs := h.keep fun _ hp => hb.cell (by omega)
theorem Sl.alloc (h : Sl w A cap cs) (o : Obj) : Sl (w.alloc o) A cap cs := h.keep fun p hp => World.cell?_alloc_lt w o p hp
theorem Sl.lt (h : Sl w A cap cs) {j : Nat} (hj : j < cs.length) : ∃ b off, A = some ⟨b, off, none⟩ ∧ w.cell? ⟨b, off + j, none⟩ = some cs[j] :=
  h.at_ j _ (List.getElem?_eq_getElem hj)
theorem Sl.own {base : Nat} {e : TypeId} {v : Value} {n : Nat} (h : w.ownsRow base e 1 v n cs) : n = cs.length ∧ ∃ A cap, v = .slice A cs.length cap ∧ Sl w A cap cs := by
  have hn : n = cs.length := by have := h.1; omega
  subst hn
  refine ⟨rfl, ?_⟩
  rcases h.2 with ⟨rfl, h0⟩ | ⟨g, cap, cur, rfl, hb, hh, hle, hm, hs, ht⟩
  · refine ⟨none, 0, by rw [h0], by omega, by decide, fun _ => rfl, fun j c hj => ?_⟩
    have := (List.getElem?_eq_some_iff.1 hj).1
    omega
  · refine ⟨_, cap, rfl, hle, hm, (fun h => by cases h), fun j c hj => ⟨g, 0, rfl, ?_⟩⟩
    have hlt := (List.getElem?_eq_some_iff.1 hj).1
    have := h.cellAt (g := g) j (by omega)
    rw [Nat.zero_add, this]
    exact hj
end

/-! ### What came in -/
theorem plain_addr {w : World} {x : Addr} {v : Value} (h : w.cell? (x.add 0) = some v) : ∃ b off, x = ⟨b, off, none⟩ ∧ ∀ j, x.add j = ⟨b, off + j, none⟩ := by
  obtain ⟨b, off, spot⟩ := x
  have hs := World.cell?_spot h
  have hspot : spot = none := by simpa [Addr.add] using hs
  subst hspot
  exact ⟨b, off, rfl, fun j => by unfold Addr.add; split <;> simp_all⟩

/-- What the call owns stays owned while a callee makes memory of its own. -/
theorem own_below {w w1 : World} {base : Nat} {e : TypeId} {size n : Nat} {v : Value} {xs : List Value} (h : w.ownsRow base e size v n xs) (hb : Below w.heap.size w w1) : w1.ownsRow base e size v n xs :=
  h.kept (row := none) ⟨hb.os, hb.tape, hb.output, hb.size, fun k hk _ => hb.block k hk⟩ (by cases hv : v.ownBlock <;> simp)

end Go.Proofs.YtjogamffdbedkaaGreatDoor

/- Layer 9 in plain words (no program here): names, lists that rise, lists in which nothing is there twice. -/
namespace Go.Proofs.YtjogamffdbedkaaGreatDoor
set_option linter.unusedVariables false

/-- Is one text ahead of another, byte by byte? -/
def ahead : List UInt8 → List UInt8 → Bool
  | _, [] => false
  | [], _ :: _ => true
  | a :: r, b :: q => if a.toNat < b.toNat then true else if b.toNat < a.toNat then false else ahead r q
def riseB : List (List UInt8) → Bool
  | [] => true
  | [_] => true
  | a :: b :: r => ahead a b && riseB (b :: r)
/-- Is none there twice? -/
def onceB : List (List UInt8) → Bool
  | [] => true
  | a :: r => !(r.contains a) && onceB r
theorem riseB_off : ∀ {l : List (List UInt8)} {k : Nat} {a b : List UInt8}, l[k]? = some a → l[k + 1]? = some b → ahead a b = false → riseB l = false
  | x :: y :: r, 0, a, b, ha, hb, h => by
    simp at ha hb
    subst ha hb
    rw [riseB, h]; rfl
  | x :: y :: r, k + 1, a, b, ha, hb, h => by
    have := riseB_off (l := y :: r) (k := k) (by simpa using ha) (by simpa using hb) h
    rw [riseB, this, Bool.and_false]
  | [x], k, a, b, ha, hb, h => by simp at hb
  | [], k, a, b, ha, hb, h => by simp at hb
theorem riseB_all : ∀ {l : List (List UInt8)}, (∀ (k : Nat) a b, l[k]? = some a → l[k + 1]? = some b → ahead a b = true) → riseB l = true
  | [], _ => rfl
  | [_], _ => rfl
  | x :: y :: r, h => by
    rw [riseB, h 0 x y rfl rfl, riseB_all (l := y :: r) (fun k a b ha hb => h (k + 1) a b (by simpa using ha) (by simpa using hb))]
    rfl
theorem onceB_iff : ∀ l : List (List UInt8), onceB l = true ↔ l.Nodup
  | [] => by simp [onceB]
  | a :: r => by simp [onceB, onceB_iff r]
theorem onceB_off {l : List (List UInt8)} {i k : Nat} {a : List UInt8} (hk : k < i) (hi : l[i]? = some a) (hk' : l[k]? = some a) : onceB l = false := by
  cases h : onceB l with
  | false => rfl
  | true =>
    have hn := (onceB_iff l).mp h
    obtain ⟨h1, e1⟩ := List.getElem?_eq_some_iff.mp hi
    obtain ⟨h2, e2⟩ := List.getElem?_eq_some_iff.mp hk'
    exact absurd (e2.trans e1.symm) ((List.pairwise_iff_getElem.mp hn) k i h2 h1 hk)
theorem onceB_all {l : List (List UInt8)} (h : ∀ (i k : Nat) a b, k < i → l[i]? = some a → l[k]? = some b → a ≠ b) : onceB l = true := by
  rw [onceB_iff]
  refine List.pairwise_iff_getElem.mpr fun i j hi hj hij e => ?_
  exact h j i _ _ hij (List.getElem?_eq_getElem hj) (List.getElem?_eq_getElem hi) e.symm
theorem ahead_irrefl : ∀ a : List UInt8, ahead a a = false
  | [] => rfl
  | c :: r => by rw [ahead, if_neg (Nat.lt_irrefl _), if_neg (Nat.lt_irrefl _), ahead_irrefl r]
theorem ahead_trans : ∀ {a b c : List UInt8}, ahead a b = true → ahead b c = true → ahead a c = true
  | a, [], _, h, _ => by cases a <;> simp [ahead] at h
  | _, _ :: _, [], _, h => by simp [ahead] at h
  | [], _ :: _, _ :: _, _, _ => rfl
  | x :: a, y :: b, z :: c, h1, h2 => by
    rw [ahead] at h1 h2 ⊢
    split at h1
    · rename_i hxy
      split at h2
      · rw [if_pos (by omega)]
      · split at h2
        · cases h2
        · rw [if_pos (by omega)]
    · split at h1
      · cases h1
      · rename_i n1 n2
        split at h2
        · rw [if_pos (by omega)]
        · split at h2
          · cases h2
          · rw [if_neg (by omega), if_neg (by omega)]
            exact ahead_trans h1 h2
/-- What rises is there once. -/
theorem rise_once : ∀ {l : List (List UInt8)}, riseB l = true → onceB l = true
  | [], _ => rfl
  | [a], _ => by simp [onceB]
  | a :: b :: r, h => by
    rw [riseB] at h
    obtain ⟨h1, h2⟩ := Bool.and_eq_true_iff.mp h
    rw [onceB, rise_once h2, Bool.and_true, Bool.not_eq_true', ← Bool.not_eq_true]
    intro hc
    have hall : ∀ {l : List (List UInt8)} {x : List UInt8}, riseB (x :: l) = true → ∀ y ∈ l, ahead x y = true := by
      intro l
      induction l with
      | nil => intro x _ y hy; cases hy
      | cons z q ih =>
        intro x hr y hy
        rw [riseB] at hr
        obtain ⟨q1, q2⟩ := Bool.and_eq_true_iff.mp hr
        rcases List.mem_cons.mp hy with rfl | hy
        · exact q1
        · exact ahead_trans q1 (ih q2 y hy)
    have := hall (l := b :: r) (x := a) (by rw [riseB]; exact h) a (by simpa using hc)
    rw [ahead_irrefl] at this
    cases this
end Go.Proofs.YtjogamffdbedkaaGreatDoor

/- Numbers that came in lie between the bounds of their types (no program here). -/
namespace Go.Proofs.YtjogamffdbedkaaGreatDoor
open Go.RowKit

theorem i64_came {a : Int} (h : (Lit.int .i64 a).wf = true) : -9223372036854775808 ≤ a ∧ a < 9223372036854775808 := by
  have h1 : IntKind.i64.min = -9223372036854775808 := rfl
  have h2 : IntKind.i64.max = 9223372036854775807 := rfl
  simp only [Lit.wf, Bool.and_eq_true, decide_eq_true_eq] at h
  omega
theorem ret_int' {k : IntKind} {a b : Int} (h : a = b) : Ending.returned (.int k a) = .returned (.int k b) := by rw [h]
theorem ret_bool' {a b : Bool} (h : a = b) : Ending.returned (.bool a) = .returned (.bool b) := by rw [h]
end Go.Proofs.YtjogamffdbedkaaGreatDoor

/- Lists of texts that came in (no program here). -/
namespace Go.Proofs.YtjogamffdbedkaaGreatDoor
open Go.RowKit

/-- The cells of texts. -/
def txts (ts : List (List UInt8)) : List Value := ts.map fun t => Value.string (strOf t)
theorem txts_length (ts : List (List UInt8)) : (txts ts).length = ts.length := by simp [txts]
end Go.Proofs.YtjogamffdbedkaaGreatDoor

/- What stands ahead of a field, as plain functions (no program here). -/
namespace Go.Proofs.YtjogamffdbedkaaGreatDoor

def numOk (n : Int) : Bool := decide (1 ≤ n ∧ n ≤ 536870911)
def fieldB (n : Int) : Bool := numOk n && decide (n < 19000 ∨ 19999 < n)

theorem numOk_iff (n : Int) : numOk n = true ↔ (1 ≤ n ∧ n ≤ 536870911) := by simp [numOk]
end Go.Proofs.YtjogamffdbedkaaGreatDoor
