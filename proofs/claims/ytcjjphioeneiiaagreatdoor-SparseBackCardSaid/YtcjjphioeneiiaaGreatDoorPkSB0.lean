/- Several texts in one: Bytes, IdMath, Ints, Strs, TagMath, SlApp, TagR, TagF, TagRF, RiA, IwD, RiB. What each proves, and its conditions, stands at its own head. -/
import Derived.Below
import Derived.Laws.OwnMore
import Derived.Maps.AppendAt
import Derived.Lib.Hide
import Derived.Carry
import Derived.Laws.BytesArg
import Derived.OwnWalk
import Derived.Test.YtcjjphioeneiiaaGreatDoorChecked
import Derived.WalkKit
import Derived.RowKitTokens
import Derived.BigQuiet
import Derived.Deep.QuietTactic
import Derived.IntWalk
import Derived.Laws.Cover1
import Derived.Deep.LoopGhost
/- Words for memory (no program here): what it means that a slice value reads as a list of bytes in a world, and that this is kept. Conditions: none but those that each theorem names. -/
namespace Go.Proofs.YtcjjphioeneiiaaGreatDoor
open Go.RowKit

/-- The cells of bytes. -/
def cellsOf (bs : List UInt8) : List Value := bs.map fun b => Value.int .u8 (b.toNat : Int)
theorem cellsOf_length (bs : List UInt8) : (cellsOf bs).length = bs.length := by simp [cellsOf]
/-- The slice value '.slice A bs.length cap' reads as the bytes bs in the world w. -/
structure Bs (w : World) (A : Option Addr) (cap : Nat) (bs : List UInt8) : Prop where
 le : bs.length ≤ cap
 max : cap ≤ maxLen
 nil : A = none → cap = 0
 at_ : ∀ j c, bs[j]? = some c → ∃ b off, A = some ⟨b, off, none⟩ ∧ w.cell? ⟨b, off + j, none⟩ = some (.int .u8 (c.toNat : Int))

section
variable {w w' : World} {A : Option Addr} {cap : Nat} {bs : List UInt8}
theorem Bs.keep (h : Bs w A cap bs) (hk : ∀ p : Addr, p.block < w.heap.size → w'.cell? p = w.cell? p) : Bs w' A cap bs :=
 ⟨h.le, h.max, h.nil, fun j c hj => by
  obtain ⟨b, off, e, hc⟩ := h.at_ j c hj
  exact ⟨b, off, e, (hk _ (World.block_lt_of_cell? w _ hc)).trans hc⟩⟩
theorem Bs.below (h : Bs w A cap bs) {B : Nat} (hb : Below B w w') (hB : w.heap.size ≤ B) : Bs w' A cap bs := h.keep fun _ hp => hb.cell (by omega)
theorem Bs.alloc (h : Bs w A cap bs) (o : Obj) : Bs (w.alloc o) A cap bs := h.keep fun p hp => World.cell?_alloc_lt w o p hp
theorem Bs.drew (h : Bs w A cap bs) : Bs w.drew A cap bs := ⟨h.le, h.max, h.nil, h.at_⟩
theorem Bs.lt (h : Bs w A cap bs) {j : Nat} (hj : j < bs.length) : ∃ b off, A = some ⟨b, off, none⟩ ∧ w.cell? ⟨b, off + j, none⟩ = some (.int .u8 (bs[j].toNat : Int)) :=
 h.at_ j _ (List.getElem?_eq_getElem hj)
/-- The first bytes. -/
theorem Bs.take (h : Bs w A cap bs) (k : Nat) : Bs w A cap (bs.take k) :=
 ⟨by have := h.le; simp; omega, h.max, h.nil, fun j c hj => h.at_ j c (by
  rw [List.getElem?_take] at hj
  split at hj
  ·exact hj
  ·cases hj)⟩
/-- The bytes from k on; the address as Go cuts it. -/
theorem Bs.cut (h : Bs w A cap bs) (k : Nat) (hk : k ≤ bs.length) : Bs w (if cap = k then A else A.map (·.add k)) (cap - k) (bs.drop k) := by
 have hle := h.le
 have hmax := h.max
 refine ⟨by simp; omega, by omega, fun hA => ?_, fun j c hj => ?_⟩
 ·by_cases e : cap = k
  ·omega
  ·rw [if_neg e] at hA
   have := h.nil (by simpa using hA)
   omega
 ·rw [List.getElem?_drop] at hj
  obtain ⟨b, off, e, hc⟩ := h.at_ _ c hj
  have hlt := (List.getElem?_eq_some_iff.1 hj).1
  rw [if_neg (by omega), e]
  refine ⟨b, off + k, ?_, by rw [Nat.add_assoc]; exact hc⟩
  by_cases hk0 : k = 0
  ·subst hk0; simp [Addr.add]
  ·simp [Addr.add, hk0]
/-- What the call owns reads so. -/
theorem Bs.own {base : Nat} {e : TypeId} {v : Value} {n : Nat} (h : w.ownsRow base e 1 v n (cellsOf bs)) : n = bs.length ∧ ∃ A cap, v = .slice A bs.length cap ∧ Bs w A cap bs := by
 have hn : n = bs.length := by have := h.1; rw [cellsOf_length] at this; omega
 subst hn
 refine ⟨rfl, ?_⟩
 rcases h.2 with ⟨rfl, h0⟩ | ⟨g, cap, cur, rfl, hb, hh, hle, hm, hs, ht⟩
 ·refine ⟨none, 0, by rw [h0], by omega, by decide, fun _ => rfl, fun j c hj => ?_⟩
  have := (List.getElem?_eq_some_iff.1 hj).1
  omega
 ·refine ⟨_, cap, rfl, hle, hm, (fun h => by cases h), fun j c hj => ⟨g, 0, rfl, ?_⟩⟩
  have hlt := (List.getElem?_eq_some_iff.1 hj).1
  have := h.cellAt (g := g) j (by omega)
  rw [Nat.zero_add, this]
  simp [cellsOf, hj]
end

/-- A slice literal of bytes. -/
theorem Bs.lit (w : World) (cs : Array Value) (t : TypeId) (bs : List UInt8) (hc : cs.toList = cellsOf bs) (hm : bs.length ≤ maxLen) :
 Bs (w.alloc (.cells cs t)) (some ⟨w.heap.size, 0, none⟩) bs.length bs := by
 refine ⟨Nat.le_refl _, hm, (fun h => by cases h), fun j c hj => ⟨_, _, rfl, ?_⟩⟩
 rw [cell_of_row _ w.heap.size (0 + j) cs t (0, 0) (heap_alloc_new w _), Nat.zero_add, ← Array.getElem?_toList, hc]
 simp [cellsOf, hj]

/-- The text of bytes. -/
def strOf (bs : List UInt8) : ByteArray := ⟨bs.toArray⟩
theorem strOf_beq (a b : List UInt8) : ((strOf a).toList == (strOf b).toList) = decide (a = b) := by
 rw [ByteArray.toList_eq, ByteArray.toList_eq, Bool.eq_iff_iff]
 simp [strOf]
theorem foldl_push_u8 : ∀ (bs : List UInt8) (s : ByteArray), (bs.map fun b => (b.toNat : Int)).foldl (fun r n => r.push (UInt8.ofNat n.toNat)) s = ⟨s.data ++ bs.toArray⟩
 | [], s => by simp
 | b :: bs, s => by
   rw [List.map_cons, List.foldl_cons, foldl_push_u8 bs]
   simp [ByteArray.push]
/-- 'string(b)'. -/
theorem run_string_bytes {P : Program} {w : World} {A : Option Addr} {cap : Nat} {bs : List UInt8} (h : Bs w A cap bs) {src dst e : TypeId}
 (hs : P.underlying src = some (.slice e)) (he : P.underlying e = some (.int .u8)) (hd : P.underlying dst = some .string) :
 (convert src dst (.slice A bs.length cap)).run P w = .ok (.string (strOf bs)) w := by
 rcases A with _ | a
 ·have h0 := h.nil rfl
  have hle := h.le
  have : bs = [] := List.eq_nil_of_length_eq_zero (by omega)
  subst this
  exact run_convert_bytes_nil w src e hs he _ _ dst hd
 ·have hl : (loadCells a bs.length).run P w = .ok ((bs.map fun b => (b.toNat : Int)).map (Value.int .u8)).toArray w := by
   have h2 := run_loadCells_list (P := P) w a ((bs.map fun b => (b.toNat : Int)).map (Value.int .u8)) (fun j v hj => by
    simp only [List.getElem?_map, Option.map_eq_some_iff] at hj
    obtain ⟨n, ⟨c, hc, rfl⟩, rfl⟩ := hj
    obtain ⟨b, off, ea, hcell⟩ := h.at_ j c hc
    cases ea
    have hplain : (⟨b, off, none⟩ : Addr).add j = ⟨b, off + j, none⟩ := by unfold Addr.add; split <;> simp_all
    rw [hplain]; exact hcell)
   simpa using h2
  rw [run_convert_bytes_string w src dst e _ _ _ hs he hd, run_bytesToString w _ _ _ _ hl, foldl_push_u8]
  simp [strOf, ByteArray.empty, ByteArray.emptyWithCapacity]
  rfl

/-- The slice value '.slice A cs.length cap' reads as these cells (of elements of one cell each). -/
structure Sl (w : World) (A : Option Addr) (cap : Nat) (cs : List Value) : Prop where
 le : cs.length ≤ cap
 max : cap ≤ maxLen
 nil : A = none → cap = 0
 at_ : ∀ j u, cs[j]? = some u → ∃ b off, A = some ⟨b, off, none⟩ ∧ w.cell? ⟨b, off + j, none⟩ = some u

section
variable {w w' : World} {A : Option Addr} {cap : Nat} {cs : List Value}
theorem Sl.keep (h : Sl w A cap cs) (hk : ∀ p : Addr, p.block < w.heap.size → w'.cell? p = w.cell? p) : Sl w' A cap cs :=
 ⟨h.le, h.max, h.nil, fun j c hj => by
  obtain ⟨b, off, e, hc⟩ := h.at_ j c hj
  exact ⟨b, off, e, (hk _ (World.block_lt_of_cell? w _ hc)).trans hc⟩⟩
theorem Sl.below (h : Sl w A cap cs) {B : Nat} (hb : Below B w w') (hB : w.heap.size ≤ B) : Sl w' A cap cs := h.keep fun _ hp => hb.cell (by omega)
theorem Sl.alloc (h : Sl w A cap cs) (o : Obj) : Sl (w.alloc o) A cap cs := h.keep fun p hp => World.cell?_alloc_lt w o p hp
theorem Sl.lt (h : Sl w A cap cs) {j : Nat} (hj : j < cs.length) : ∃ b off, A = some ⟨b, off, none⟩ ∧ w.cell? ⟨b, off + j, none⟩ = some cs[j] :=
 h.at_ j _ (List.getElem?_eq_getElem hj)
theorem Sl.own {base : Nat} {e : TypeId} {v : Value} {n : Nat} (h : w.ownsRow base e 1 v n cs) : n = cs.length ∧ ∃ A cap, v = .slice A cs.length cap ∧ Sl w A cap cs := by
 have hn : n = cs.length := by have := h.1; omega
 subst hn
 refine ⟨rfl, ?_⟩
 rcases h.2 with ⟨rfl, h0⟩ | ⟨g, cap, cur, rfl, hb, hh, hle, hm, hs, ht⟩
 ·refine ⟨none, 0, by rw [h0], by omega, by decide, fun _ => rfl, fun j c hj => ?_⟩
  have := (List.getElem?_eq_some_iff.1 hj).1
  omega
 ·refine ⟨_, cap, rfl, hle, hm, (fun h => by cases h), fun j c hj => ⟨g, 0, rfl, ?_⟩⟩
  have hlt := (List.getElem?_eq_some_iff.1 hj).1
  have := h.cellAt (g := g) j (by omega)
  rw [Nat.zero_add, this]
  exact hj
end

/-! ### What came in -/
theorem plain_addr {w : World} {x : Addr} {v : Value} (h : w.cell? (x.add 0) = some v) : ∃ b off, x = ⟨b, off, none⟩ ∧ ∀ j, x.add j = ⟨b, off + j, none⟩ := by
 obtain ⟨b, off, spot⟩ := x
 have hs := World.cell?_spot h
 have hspot : spot = none := by simpa [Addr.add] using hs
 subst hspot
 exact ⟨b, off, rfl, fun j => by unfold Addr.add; split <;> simp_all⟩

/-- What the call owns stays owned while a callee makes memory of its own. -/
theorem own_below {w w1 : World} {base : Nat} {e : TypeId} {size n : Nat} {v : Value} {xs : List Value} (h : w.ownsRow base e size v n xs) (hb : Below w.heap.size w w1) : w1.ownsRow base e size v n xs :=
 h.kept (row := none) ⟨hb.os, hb.tape, hb.output, hb.size, fun k hk _ => hb.block k hk⟩ (by cases hv : v.ownBlock <;> simp)

end Go.Proofs.YtcjjphioeneiiaaGreatDoor

/- Layer 9 in plain words (no program here): names, lists that rise, lists in which nothing is there twice. -/
namespace Go.Proofs.YtcjjphioeneiiaaGreatDoor
set_option linter.unusedVariables false

/-- Is one text ahead of another, byte by byte? -/
def ahead : List UInt8 → List UInt8 → Bool
 | _, [] => false
 | [], _ :: _ => true
 | a :: r, b :: q => if a.toNat < b.toNat then true else if b.toNat < a.toNat then false else ahead r q
def riseB : List (List UInt8) → Bool
 | [] => true
 | [_] => true
 | a :: b :: r => ahead a b && riseB (b :: r)
/-- Is none there twice? -/
def onceB : List (List UInt8) → Bool
 | [] => true
 | a :: r => !(r.contains a) && onceB r
theorem riseB_off : ∀ {l : List (List UInt8)} {k : Nat} {a b : List UInt8}, l[k]? = some a → l[k + 1]? = some b → ahead a b = false → riseB l = false
 | x :: y :: r, 0, a, b, ha, hb, h => by
   simp at ha hb
   subst ha hb
   rw [riseB, h]; rfl
 | x :: y :: r, k + 1, a, b, ha, hb, h => by
   have := riseB_off (l := y :: r) (k := k) (by simpa using ha) (by simpa using hb) h
   rw [riseB, this, Bool.and_false]
 | [x], k, a, b, ha, hb, h => by simp at hb
 | [], k, a, b, ha, hb, h => by simp at hb
theorem riseB_all : ∀ {l : List (List UInt8)}, (∀ (k : Nat) a b, l[k]? = some a → l[k + 1]? = some b → ahead a b = true) → riseB l = true
 | [], _ => rfl
 | [_], _ => rfl
 | x :: y :: r, h => by
   rw [riseB, h 0 x y rfl rfl, riseB_all (l := y :: r) (fun k a b ha hb => h (k + 1) a b (by simpa using ha) (by simpa using hb))]
   rfl
theorem onceB_iff : ∀ l : List (List UInt8), onceB l = true ↔ l.Nodup
 | [] => by simp [onceB]
 | a :: r => by simp [onceB, onceB_iff r]
theorem onceB_off {l : List (List UInt8)} {i k : Nat} {a : List UInt8} (hk : k < i) (hi : l[i]? = some a) (hk' : l[k]? = some a) : onceB l = false := by
 cases h : onceB l with
 | false => rfl
 | true =>
   have hn := (onceB_iff l).mp h
   obtain ⟨h1, e1⟩ := List.getElem?_eq_some_iff.mp hi
   obtain ⟨h2, e2⟩ := List.getElem?_eq_some_iff.mp hk'
   exact absurd (e2.trans e1.symm) ((List.pairwise_iff_getElem.mp hn) k i h2 h1 hk)
theorem onceB_all {l : List (List UInt8)} (h : ∀ (i k : Nat) a b, k < i → l[i]? = some a → l[k]? = some b → a ≠ b) : onceB l = true := by
 rw [onceB_iff]
 refine List.pairwise_iff_getElem.mpr fun i j hi hj hij e => ?_
 exact h j i _ _ hij (List.getElem?_eq_getElem hj) (List.getElem?_eq_getElem hi) e.symm
theorem ahead_irrefl : ∀ a : List UInt8, ahead a a = false
 | [] => rfl
 | c :: r => by rw [ahead, if_neg (Nat.lt_irrefl _), if_neg (Nat.lt_irrefl _), ahead_irrefl r]
theorem ahead_trans : ∀ {a b c : List UInt8}, ahead a b = true → ahead b c = true → ahead a c = true
 | a, [], _, h, _ => by cases a <;> simp [ahead] at h
 | _, _ :: _, [], _, h => by simp [ahead] at h
 | [], _ :: _, _ :: _, _, _ => rfl
 | x :: a, y :: b, z :: c, h1, h2 => by
   rw [ahead] at h1 h2 ⊢
   split at h1
   ·rename_i hxy
    split at h2
    ·rw [if_pos (by omega)]
    ·split at h2
     ·cases h2
     ·rw [if_pos (by omega)]
   ·split at h1
    ·cases h1
    ·rename_i n1 n2
     split at h2
     ·rw [if_pos (by omega)]
     ·split at h2
      ·cases h2
      ·rw [if_neg (by omega), if_neg (by omega)]
       exact ahead_trans h1 h2
/-- What rises is there once. -/
theorem rise_once : ∀ {l : List (List UInt8)}, riseB l = true → onceB l = true
 | [], _ => rfl
 | [a], _ => by simp [onceB]
 | a :: b :: r, h => by
   rw [riseB] at h
   obtain ⟨h1, h2⟩ := Bool.and_eq_true_iff.mp h
   rw [onceB, rise_once h2, Bool.and_true, Bool.not_eq_true', ← Bool.not_eq_true]
   intro hc
   have hall : ∀ {l : List (List UInt8)} {x : List UInt8}, riseB (x :: l) = true → ∀ y ∈ l, ahead x y = true := by
    intro l
    induction l with
    | nil => intro x _ y hy; cases hy
    | cons z q ih =>
      intro x hr y hy
      rw [riseB] at hr
      obtain ⟨q1, q2⟩ := Bool.and_eq_true_iff.mp hr
      rcases List.mem_cons.mp hy with rfl | hy
      ·exact q1
      ·exact ahead_trans q1 (ih q2 y hy)
   have := hall (l := b :: r) (x := a) (by rw [riseB]; exact h) a (by simpa using hc)
   rw [ahead_irrefl] at this
   cases this
end Go.Proofs.YtcjjphioeneiiaaGreatDoor

/- Numbers that came in lie between the bounds of their types (no program here). -/
namespace Go.Proofs.YtcjjphioeneiiaaGreatDoor
open Go.RowKit

theorem i64_came {a : Int} (h : (Lit.int .i64 a).wf = true) : -9223372036854775808 ≤ a ∧ a < 9223372036854775808 := by
 have h1 : IntKind.i64.min = -9223372036854775808 := rfl
 have h2 : IntKind.i64.max = 9223372036854775807 := rfl
 simp only [Lit.wf, Bool.and_eq_true, decide_eq_true_eq] at h
 omega
theorem ret_int' {k : IntKind} {a b : Int} (h : a = b) : Ending.returned (.int k a) = .returned (.int k b) := by rw [h]
theorem ret_bool' {a b : Bool} (h : a = b) : Ending.returned (.bool a) = .returned (.bool b) := by rw [h]
end Go.Proofs.YtcjjphioeneiiaaGreatDoor

/- Lists of texts that came in (no program here). -/
namespace Go.Proofs.YtcjjphioeneiiaaGreatDoor
open Go.RowKit

/-- The cells of texts. -/
def txts (ts : List (List UInt8)) : List Value := ts.map fun t => Value.string (strOf t)
theorem txts_length (ts : List (List UInt8)) : (txts ts).length = ts.length := by simp [txts]
end Go.Proofs.YtcjjphioeneiiaaGreatDoor

/- What stands ahead of a field, as plain functions (no program here). -/
namespace Go.Proofs.YtcjjphioeneiiaaGreatDoor

def numOk (n : Int) : Bool := decide (1 ≤ n ∧ n ≤ 536870911)
def fieldB (n : Int) : Bool := numOk n && decide (n < 19000 ∨ 19999 < n)

theorem numOk_iff (n : Int) : numOk n = true ↔ (1 ≤ n ∧ n ≤ 536870911) := by simp [numOk]
end Go.Proofs.YtcjjphioeneiiaaGreatDoor

/- append onto a row of texts of the call's own: whatever list of texts. Conditions: those that each theorem names. -/
namespace Go.Proofs.YtcjjphioeneiiaaGreatDoor
open Go.RowKit
set_option linter.unusedVariables false

theorem info_str : (Tryz.prog.info? 9).map (fun i => (i.zero, i.size, i.bytes)) = some (some (.string ByteArray.empty), 1, 16) := by kernel_rfl
theorem info_str_parts : ∃ i, Tryz.prog.info? 9 = some i ∧ i.zero = some (.string ByteArray.empty) ∧ i.size = 1 ∧ i.bytes = 16 := by
 have h := info_str
 cases hi : Tryz.prog.info? 9 with
 | none => rw [hi] at h; simp at h
 | some i =>
   rw [hi] at h
   simp only [Option.map_some, Option.some.injEq, Prod.mk.injEq] at h
   exact ⟨i, rfl, h.1, h.2.1, h.2.2⟩
theorem txts_append (a b : List (List UInt8)) : txts (a ++ b) = txts a ++ txts b := by simp [txts]
theorem txts_one (ts : List (List UInt8)) : ∀ u ∈ txts ts, u.oneCell' = true := by
 intro u hu
 obtain ⟨_, _, rfl⟩ := List.mem_map.1 hu
 rfl
theorem own0_str (w : World) : (w.alloc (.cells #[] 9)).ownsRow w.heap.size 9 1 (.slice (some ⟨w.heap.size, 0, none⟩) 0 0) 0 (txts []) :=
 World.ownsRow_made w #[] 0 (Nat.le_refl _) (by decide) rfl
theorem wpList_append_sl {w : World} {ops : Array Oper} {rest : List Oper} {o : Oper} {a : Act} {Q : Exit → Act → World → Prop} (hgd : o.guard = none) (s x : Operand)
 (ho : o.op = .call { callee := .builtin .append, args := #[s, x], argTypes := #[78, 78] })
 (base : Nat) (v : Value) (n : Nat) (pre : List (List UInt8)) (hs : a.eval s = v) (hown : w.ownsRow base 9 1 v n (txts pre))
 (A : Option Addr) (m c : Nat) (bs : List (List UInt8)) (hx : a.eval x = .slice A m c) (hm : m = bs.length) (hb : Sl w A c (txts bs))
 (h47 : pre.length + bs.length ≤ 1000000) (hbase : base ≤ w.heap.size)
 (h : ∀ v' w', w'.ownsRow base 9 1 v' (pre.length + bs.length) (txts (pre ++ bs)) → w.grownBy w' v.ownBlock → wpList Tryz.prog ops Q rest (a.put o.dst v') w') : wpList Tryz.prog ops Q (o :: rest) a w := by
 obtain ⟨i, hi, hz, hsize, hby⟩ := info_str_parts
 subst hm
 obtain ⟨hn, _⟩ := Sl.own hown
 rw [txts_length] at hn
 subst hn
 rcases A with _ | ad
 ·have h0 := hb.nil rfl
  have hle := hb.le
  rw [txts_length] at hle
  have hbs : bs = [] := List.eq_nil_of_length_eq_zero (by omega)
  subst hbs h0
  refine wpList_plain hgd fun K hK' => ?_
  have hrun := run_append_owned_none (P := Tryz.prog) w base 78 o.type 9 i 1 Tryz.underlying78 hi v pre.length (txts pre) hown
  unfold Oper.wp
  simp [execOp, ho, resolve, invoke, builtin, hs, hx, hrun, Result.andThen]
  exact hK' _ _ (h v w (by simpa using hown) (World.grownBy.refl _ _))
 ·exact wpList_append_own w hgd s x 78 ho base 9 i (.string ByteArray.empty) 1 16 Tryz.underlying78 hi hz hsize hby rfl (by decide) v pre.length (txts pre) hs hown ad bs.length c (txts bs) hx
   (by rw [txts_length]; omega) (fun j u hu => by
    obtain ⟨bl, off, ea, hcell⟩ := hb.at_ j u hu
    cases ea
    have hplain : (⟨bl, off, none⟩ : Addr).add j = ⟨bl, off + j, none⟩ := by unfold Addr.add; split <;> simp_all
    rw [hplain]; exact hcell) (txts_one bs) (by unfold maxLen; omega) (by omega) hbase (fun v' w' h1 h2 _ => h v' w' (by rw [txts_append]; exact h1) h2)
end Go.Proofs.YtcjjphioeneiiaaGreatDoor

/- tag.Right: what it returns, for every input; the world is as it was. -/
namespace Go.Proofs.YtcjjphioeneiiaaGreatDoor
open Go.RowKit
set_option linter.unusedVariables false
set_option maxRecDepth 100000

theorem numbered_any (n : Int) (w : World) :
 Calls Tryz.prog 247 #[.int .i64 n] w fun e w' => e = .returned (.bool (numOk n)) ∧ w = w' := by
 by_cases h1 : 1 ≤ n
 ·have HF : Hid (decide (n ≤ 536870911) = numOk n) := by show _ = _; simp [numOk, h1]
  have g1 : decide (1 ≤ n) = true := decide_eq_true h1
  go_enter Tryz.func247, Tryz.ntmps247
  go_wp2
  go_ret
  exact ⟨ret_bool' HF.out, rfl⟩
 ·have HF : Hid (false = numOk n) := by show _ = _; simp [numOk, h1]
  have g1 : decide (1 ≤ n) = false := decide_eq_false h1
  go_enter Tryz.func247, Tryz.ntmps247
  go_wp2
  go_ret
  exact ⟨ret_bool' HF.out, rfl⟩
end Go.Proofs.YtcjjphioeneiiaaGreatDoor

/- tag.Field: what it returns, for every input; the world is as it was. -/
namespace Go.Proofs.YtcjjphioeneiiaaGreatDoor
open Go.RowKit
set_option linter.unusedVariables false
set_option maxRecDepth 100000

theorem field_any (n : Int) (w : World) :
 Calls Tryz.prog 203 #[.int .i64 n] w fun e w' => e = .returned (.bool (fieldB n)) ∧ w = w' := by
 have H1 := Lib.hid (fun w => numbered_any n w)
 have HF : Hid (fieldB n = (numOk n && (decide (n < 19000) || decide (19999 < n)))) := by show _ = _; simp [fieldB]
 generalize fieldB n = r at *
 generalize numOk n = p at *
 cases p <;> cases e1 : decide (n < 19000)
 all_goals
  rw [e1] at HF
  go_enter Tryz.func203, Tryz.ntmps203
  go_wp2_with (refine (H1.out _).mono ?_; rintro e w' ⟨rfl, rfl⟩)
  go_ret
  exact ⟨ret_bool' (by rw [HF.out]; rfl), rfl⟩

end Go.Proofs.YtcjjphioeneiiaaGreatDoor

/- The document's Field: what it returns, for every input; the world is as it was. -/
namespace Go.Proofs.YtcjjphioeneiiaaGreatDoor
open Go.RowKit
set_option linter.unusedVariables false
set_option maxRecDepth 100000

theorem rtagfield_any (n : Int) (w : World) :
 Calls Tryz.prog 149 #[.int .i64 n] w fun e w' => e = .returned (.bool (fieldB n)) ∧ w = w' := by
 have HF : Hid (fieldB n = ((decide (1 ≤ n) && decide (n ≤ 536870911)) && (decide (n < 19000) || decide (19999 < n)))) := by show _ = _; simp [fieldB, numOk]
 generalize fieldB n = r at *
 cases e0 : decide (1 ≤ n) <;> cases e2 : decide (n ≤ 536870911) <;> cases e1 : decide (n < 19000)
 all_goals
  rw [e0, e1, e2] at HF
  go_enter Tryz.func149, Tryz.ntmps149
  go_wp2
  go_ret
  exact ⟨ret_bool' (by rw [HF.out]; rfl), rfl⟩

end Go.Proofs.YtcjjphioeneiiaaGreatDoor

/- The document's Rise and Once. Conditions: those that each theorem names. -/
namespace Go.Proofs.YtcjjphioeneiiaaGreatDoor
open Go.RowKit
set_option linter.unusedVariables false
set_option maxRecDepth 100000

theorem less_ahead : ∀ a b : List UInt8, Op.bytesLess a b = ahead a b
 | [], [] => rfl
 | _ :: _, [] => rfl
 | [], _ :: _ => rfl
 | x :: a, y :: b => by
   rw [Op.bytesLess, ahead, less_ahead a b]
   by_cases h1 : x.toNat < y.toNat
   ·rw [if_pos h1]
    have : x < y := h1
    simp [this]
   ·rw [if_neg h1]
    have n1 : ¬ x < y := h1
    by_cases h2 : y.toNat < x.toNat
    ·rw [if_pos h2]
     have : x ≠ y := fun e => by subst e; omega
     simp [n1, this]
    ·rw [if_neg h2]
     have : x = y := UInt8.toNat_inj.mp (by omega)
     subst this
     simp
theorem str_list (a : List UInt8) : (strOf a).toList = a := by rw [ByteArray.toList_eq]; simp [strOf]
theorem rrise_any (w : World) {A : Option Addr} {cap n : Nat} {ts : List (List UInt8)} (hs : Sl w A cap (txts ts)) (hn : n = ts.length) :
 Calls Tryz.prog 79 #[.slice A n cap] w fun e w' => e = .returned (.bool (riseB ts)) ∧ ∃ k, w' = w.drewN k := by
 have hle := hs.le
 have hmx := hs.max
 rw [txts_length, ← hn] at hle
 unfold maxLen at hmx
 have H := Lib.hid hs
 have HN := Lib.hid hn
 clear hs hn
 go_enter Tryz.func79, Tryz.ntmps79
 go_wp2
 go_loopw [3] (fun x wr => ∃ k : Nat, x = .int .i64 ((k + 1 : Nat) : Int) ∧ k ≤ n ∧ (∃ i, wr = w.drewN i) ∧ ∀ (j : Nat) a b, j < k → ts[j]? = some a → ts[j + 1]? = some b → ahead a b = true) (fun x _ => n + 1 - (intOf x).toNat)
 case atStart => exact ⟨0, rfl, Nat.zero_le _, ⟨0, rfl⟩, fun j a b hj => absurd hj (Nat.not_lt_zero _)⟩
 case round =>
  obtain ⟨k, rfl, hk, ⟨i, rfl⟩, hall⟩ := hrel
  have HALL := Lib.hid hall
  clear hall
  obtain ⟨k1, hk1⟩ : ∃ k1, k1 = k + 1 := ⟨_, rfl⟩
  rw [← hk1]
  by_cases hlt : k1 < n
  ·have g1 : decide ((k1 : Int) < (n : Int)) = true := decide_eq_true (by omega)
   obtain ⟨a, ha⟩ : ∃ a, ts[k]? = some a := ⟨_, List.getElem?_eq_getElem (by have := HN.out; omega)⟩
   obtain ⟨b, hb⟩ : ∃ b, ts[k + 1]? = some b := ⟨_, List.getElem?_eq_getElem (by have := HN.out; omega)⟩
   obtain ⟨g, off, rfl, c0⟩ := H.out.at_ k (.string (strOf a)) (by rw [txts, List.getElem?_map, ha]; rfl)
   obtain ⟨g', off', e', c1⟩ := H.out.at_ (k + 1) (.string (strOf b)) (by rw [txts, List.getElem?_map, hb]; rfl)
   cases e'
   rw [← hk1] at c1
   have HA := Lib.hid ha
   have HB := Lib.hid hb
   have HQ : Op.bytesLess (strOf a).toList (strOf b).toList = ahead a b := by rw [str_list, str_list, less_ahead]
   obtain ⟨r, hr⟩ : ∃ r, r = ahead a b := ⟨_, rfl⟩
   rw [← hr] at HQ
   have HR := Lib.hid hr
   obtain ⟨sa, hsa⟩ : ∃ sa, sa = strOf a := ⟨_, rfl⟩
   obtain ⟨sb, hsb⟩ : ∃ sb, sb = strOf b := ⟨_, rfl⟩
   rw [← hsa] at c0 HQ
   rw [← hsb] at c1 HQ
   have gw : IntKind.i64.wrap ((k1 : Int) - 1) = (k : Int) := by rw [show (k1 : Int) - 1 = (k : Int) by omega]; exact IntWalk.i64_in _ (by omega)
   have gx : (k1 : Int) - 1 = (k : Int) := by omega
   have hkk : k < n := by omega
   have HK1 := Lib.hid hk1
   clear ha hb hr hsa hsb hk1 hk
   cases r with
   | true =>
     go_wp2
     go_quiet (fail)
     go_wp2
     go_roundw
     case rel =>
      refine ⟨k + 1, by have := HK1.out; go_num, by have := HK1.out; omega, ⟨i + nq, rfl⟩, fun j x y hj hx hy => ?_⟩
      by_cases hjk : j < k
      ·exact HALL.out j x y hjk hx hy
      ·have : j = k := by omega
       subst this
       have e1 := HA.out.symm.trans hx
       have e2 := HB.out.symm.trans hy
       injection e1 with e1
       injection e2 with e2
       subst e1 e2
       exact HR.out.symm
     case measure => simp [intOf]; omega
   | false =>
     go_wp2
     go_quiet (fail)
     go_wp2
     go_ret
     exact ⟨ret_bool' (riseB_off HA.out HB.out HR.out.symm).symm, _, World.drewN_drewN _ _ _⟩
  ·have g1 : decide ((k1 : Int) < (n : Int)) = false := decide_eq_false (by omega)
   have HE : Hid (riseB ts = true) := Lib.hid (riseB_all (fun j a b ha hb => HALL.out j a b (by have := (List.getElem?_eq_some_iff.mp hb).1; have := HN.out; omega) ha hb))
   clear hk1
   go_wp2
   go_ret
   exact ⟨ret_bool' HE.out.symm, _, rfl⟩
end Go.Proofs.YtcjjphioeneiiaaGreatDoor

/- The program's layer 9: Rise. Conditions: those that each theorem names. -/
namespace Go.Proofs.YtcjjphioeneiiaaGreatDoor
open Go.RowKit
set_option linter.unusedVariables false
set_option maxRecDepth 100000

theorem prise_any (w : World) {A : Option Addr} {cap n : Nat} {ts : List (List UInt8)} (hs : Sl w A cap (txts ts)) (hn : n = ts.length) :
 Calls Tryz.prog 131 #[.slice A n cap] w fun e w' => e = .returned (.bool (riseB ts)) ∧ ∃ k, w' = w.drewN k := by
 have hle := hs.le
 have hmx := hs.max
 rw [txts_length, ← hn] at hle
 unfold maxLen at hmx
 have H := Lib.hid hs
 have HN := Lib.hid hn
 clear hs hn
 go_enter Tryz.func131, Tryz.ntmps131
 go_wp2
 go_loopw [3, 4, 7] (fun u v x wr => ∃ k : Nat, x = .int .i64 (k : Int) ∧ k ≤ n ∧ (∃ i, wr = w.drewN i) ∧ ∀ (j : Nat) a b, j + 1 < k → ts[j]? = some a → ts[j + 1]? = some b → ahead a b = true) (fun u v x _ => n - (intOf x).toNat)
 case atStart => exact ⟨0, rfl, Nat.zero_le _, ⟨0, rfl⟩, fun j a b hj => absurd hj (Nat.not_lt_zero _)⟩
 case round =>
  obtain ⟨k, rfl, hk, ⟨i, rfl⟩, hall⟩ := hrel
  have HALL := Lib.hid hall
  clear hall
  by_cases hlt : k < n
  ·have g1 : decide ((k : Int) < (n : Int)) = true := decide_eq_true (by omega)
   obtain ⟨b, hb⟩ : ∃ b, ts[k]? = some b := ⟨_, List.getElem?_eq_getElem (by have := HN.out; omega)⟩
   obtain ⟨g, off, rfl, c1⟩ := H.out.at_ k (.string (strOf b)) (by rw [txts, List.getElem?_map, hb]; rfl)
   have HB := Lib.hid hb
   have c2 : (w.drewN i).cell? ⟨g, off + k, none⟩ = some (.string (strOf b)) := c1
   by_cases hk0 : k = 0
   ·subst hk0
    have HALL2 : Hid (∀ (j : Nat) a b, j + 1 < 0 + 1 → ts[j]? = some a → ts[j + 1]? = some b → ahead a b = true) := Lib.hid (fun j a b hj => absurd hj (by omega))
    rw [Nat.add_zero] at c1 c2
    clear hb
    go_wp2
    go_roundw
    case rel => exact ⟨1, by go_num, by omega, ⟨i, rfl⟩, HALL2.out⟩
    case measure => simp [intOf]; omega
   ·obtain ⟨k0, hk0⟩ : ∃ k0, k = k0 + 1 := ⟨k - 1, by omega⟩
    have gp : decide ((k : Int) > 0) = true := decide_eq_true (by omega)
    obtain ⟨a, ha⟩ : ∃ a, ts[k0]? = some a := ⟨_, List.getElem?_eq_getElem (by have := HN.out; omega)⟩
    obtain ⟨g', off', e', c0⟩ := H.out.at_ k0 (.string (strOf a)) (by rw [txts, List.getElem?_map, ha]; rfl)
    cases e'
    have HA := Lib.hid ha
    have HQ : Op.bytesLess (strOf a).toList (strOf b).toList = ahead a b := by rw [str_list, str_list, less_ahead]
    obtain ⟨r, hr⟩ : ∃ r, r = ahead a b := ⟨_, rfl⟩
    rw [← hr] at HQ
    have HR := Lib.hid hr
    obtain ⟨sa, hsa⟩ : ∃ sa, sa = strOf a := ⟨_, rfl⟩
    obtain ⟨sb, hsb⟩ : ∃ sb, sb = strOf b := ⟨_, rfl⟩
    rw [← hsa] at c0 HQ
    rw [← hsb] at c1 c2 HQ
    have c3 : (w.drewN i).cell? ⟨g, off + k0, none⟩ = some (.string sa) := c0
    have gx : (k : Int) - 1 = (k0 : Int) := by omega
    have gw : IntKind.i64.wrap ((k : Int) - 1) = (k0 : Int) := by rw [gx]; exact IntWalk.i64_in _ (by omega)
    have hkk : k0 < n := by omega
    have HK0 := Lib.hid hk0
    clear ha hb hr hsa hsb hk0 hk
    cases r with
    | true =>
      go_wp2
      go_roundw
      case rel =>
       refine ⟨k + 1, by go_num, by omega, ⟨i, rfl⟩, fun j x y hj hx hy => ?_⟩
       by_cases hjk : j + 1 < k
       ·exact HALL.out j x y hjk hx hy
       ·have : j = k0 := by have := HK0.out; omega
        subst this
        have e1 := HA.out.symm.trans hx
        rw [← HK0.out] at hy
        have e2 := HB.out.symm.trans hy
        injection e1 with e1
        injection e2 with e2
        subst e1 e2
        exact HR.out.symm
      case measure => simp [intOf]; omega
    | false =>
      go_wp2
      go_ret
      exact ⟨ret_bool' (riseB_off HA.out (by rw [← HK0.out]; exact HB.out) HR.out.symm).symm, _, rfl⟩
  ·have g1 : decide ((k : Int) < (n : Int)) = false := decide_eq_false (by omega)
   have HE : Hid (riseB ts = true) := Lib.hid (riseB_all (fun j a b ha hb => HALL.out j a b (by have := (List.getElem?_eq_some_iff.mp hb).1; have := HN.out; omega) ha hb))
   go_wp2
   go_ret
   exact ⟨ret_bool' HE.out.symm, _, rfl⟩
end Go.Proofs.YtcjjphioeneiiaaGreatDoor

/- The document's Once. Conditions: those that each theorem names. -/
namespace Go.Proofs.YtcjjphioeneiiaaGreatDoor
open Go.RowKit
set_option linter.unusedVariables false
set_option maxRecDepth 100000

theorem ronce_any (w : World) {A : Option Addr} {cap n : Nat} {ts : List (List UInt8)} (hs : Sl w A cap (txts ts)) (hn : n = ts.length) :
 Calls Tryz.prog 77 #[.slice A n cap] w fun e w' => e = .returned (.bool (onceB ts)) ∧ ∃ k, w' = w.drewN k := by
 have hle := hs.le
 have hmx := hs.max
 rw [txts_length, ← hn] at hle
 unfold maxLen at hmx
 have H := Lib.hid hs
 have HN := Lib.hid hn
 clear hs hn
 go_enter Tryz.func77, Tryz.ntmps77
 go_wp2
 go_loopg [3, 4] n (fun g x y wr => ∃ i : Nat, x = .int .i64 (i : Int) ∧ i + g = n ∧ (∃ j, wr = w.drewN j) ∧ ∀ (p q : Nat) a b, q < p → p < i → ts[p]? = some a → ts[q]? = some b → a ≠ b)
 case atStart => exact ⟨0, rfl, by omega, ⟨0, rfl⟩, fun p q a b hq hp => absurd hp (Nat.not_lt_zero _)⟩
 case round =>
  obtain ⟨i, rfl, hi, ⟨d, rfl⟩, hall⟩ := hrel
  have HALL := Lib.hid hall
  clear hall
  obtain ⟨g0, hg0⟩ : ∃ g0, g0 = gk := ⟨_, rfl⟩
  subst hg0
  by_cases hlt : i < n
  ·have g1 : decide ((i : Int) < (n : Int)) = true := decide_eq_true (by omega)
   obtain ⟨a, ha⟩ : ∃ a, ts[i]? = some a := ⟨_, List.getElem?_eq_getElem (by have := HN.out; omega)⟩
   obtain ⟨g, off, rfl, c0⟩ := H.out.at_ i (.string (strOf a)) (by rw [txts, List.getElem?_map, ha]; rfl)
   have HA := Lib.hid ha
   obtain ⟨sa, hsa⟩ : ∃ sa, sa = strOf a := ⟨_, rfl⟩
   rw [← hsa] at c0
   have HSA := Lib.hid hsa
   clear ha hsa
   go_wp2
   go_loopg [4] i (fun h y wr => ∃ k : Nat, y = .int .i64 (k : Int) ∧ k + h = i ∧ (∃ j, wr = w.drewN j) ∧ ∀ (q : Nat) b, q < k → ts[q]? = some b → a ≠ b)
   case atStart => exact ⟨0, rfl, by omega, ⟨d, rfl⟩, fun q b hq => absurd hq (Nat.not_lt_zero _)⟩
   case round =>
    obtain ⟨k, rfl, hk, ⟨d2, rfl⟩, hin⟩ := hrel
    obtain ⟨h0, hh0⟩ : ∃ h0, h0 = gk := ⟨_, rfl⟩
    subst hh0
    have HIN := Lib.hid hin
    clear hin
    by_cases hki : k < i
    ·have g2 : decide ((k : Int) < (i : Int)) = true := decide_eq_true (by omega)
     obtain ⟨b, hb⟩ : ∃ b, ts[k]? = some b := ⟨_, List.getElem?_eq_getElem (by have := HN.out; omega)⟩
     obtain ⟨g', off', e', c1⟩ := H.out.at_ k (.string (strOf b)) (by rw [txts, List.getElem?_map, hb]; rfl)
     cases e'
     have HB := Lib.hid hb
     by_cases hab : a = b
     ·subst hab
      rw [← HSA.out] at c1
      clear hb
      go_wp2
      go_quiet (fail)
      go_wp2
      go_ret
      exact ⟨ret_bool' (onceB_off hki HA.out HB.out).symm, _, World.drewN_drewN _ _ _⟩
     ·obtain ⟨sb, hsb⟩ : ∃ sb, sb = strOf b := ⟨_, rfl⟩
      have hne : ¬ sa.toList = sb.toList := by rw [HSA.out, hsb, str_list, str_list]; exact hab
      have hne2 : (sa.toList == sb.toList) = false := by rw [HSA.out, hsb, strOf_beq]; exact decide_eq_false hab
      rw [← hsb] at c1
      have HAB := Lib.hid hab
      clear hb hsb hab
      go_wp2
      go_quiet (fail)
      go_wp2
      go_roundg (h0 - 1)
      case measure => omega
      case rel =>
       refine ⟨k + 1, by go_num, by omega, ⟨d2 + nq, rfl⟩, fun q c hq hc => ?_⟩
       by_cases hqk : q < k
       ·exact HIN.out q c hqk hc
       ·have : q = k := by omega
        subst this
        have e1 := HB.out.symm.trans hc
        injection e1 with e1
        subst e1
        exact HAB.out
    ·have g2 : decide ((k : Int) < (i : Int)) = false := decide_eq_false (by omega)
     obtain rfl : k = i := by omega
     go_wp2
     go_roundg (g0 - 1)
     case measure => omega
     case rel =>
      refine ⟨k + 1, by go_num, by omega, ⟨d2, rfl⟩, fun p q x y hq hp hx hy => ?_⟩
      by_cases hpk : p < k
      ·exact HALL.out p q x y hq hpk hx hy
      ·have : p = k := by omega
       subst this
       have e1 := HA.out.symm.trans hx
       injection e1 with e1
       subst e1
       exact HIN.out q y hq hy
  ·have g1 : decide ((i : Int) < (n : Int)) = false := decide_eq_false (by omega)
   have HE : Hid (onceB ts = true) := Lib.hid (onceB_all (fun p q a b hq hp hqq => HALL.out p q a b hq (by have := (List.getElem?_eq_some_iff.mp hp).1; have := HN.out; omega) hp hqq))
   go_wp2
   go_ret
   exact ⟨ret_bool' HE.out.symm, _, rfl⟩
end Go.Proofs.YtcjjphioeneiiaaGreatDoor
