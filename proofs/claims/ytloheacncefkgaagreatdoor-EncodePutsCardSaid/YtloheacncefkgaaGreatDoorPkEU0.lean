/- Several texts in one: Bytes, IdMath, Ints, Strs, TagMath, Gives, BytesEq, SlApp, TagR, TagO, TagRR, TagRF, TagRO. What each proves, and its conditions, stands at its own head. -/
import Derived.Below
import Derived.Laws.OwnMore
import Derived.Maps.AppendAt
import Derived.Lib.Hide
import Derived.Carry
import Derived.Laws.BytesArg
import Derived.OwnWalk
import Derived.Test.YtloheacncefkgaaGreatDoorChecked
import Derived.WalkKit
import Derived.RowKitTokens
/- Words for memory (no program here): what it means that a slice value reads as a list of bytes in a world, and that this is kept. Conditions: none but those that each theorem names. -/
namespace Go.Proofs.YtloheacncefkgaaGreatDoor
open Go.RowKit

/-- The cells of bytes. -/
def cellsOf (bs : List UInt8) : List Value := bs.map fun b => Value.int .u8 (b.toNat : Int)
theorem cellsOf_length (bs : List UInt8) : (cellsOf bs).length = bs.length := by simp [cellsOf]
theorem cellsOf_one (bs : List UInt8) : ∀ u ∈ cellsOf bs, u.oneCell' = true := by
 intro u hu
 obtain ⟨_, _, rfl⟩ := List.mem_map.1 hu
 rfl
theorem cellsOf_append (a b : List UInt8) : cellsOf (a ++ b) = cellsOf a ++ cellsOf b := by simp [cellsOf]
theorem cellsOf_get {bs : List UInt8} {j : Nat} {u : Value} (h : (cellsOf bs)[j]? = some u) : ∃ c, bs[j]? = some c ∧ u = .int .u8 (c.toNat : Int) := by
 simp only [cellsOf, List.getElem?_map, Option.map_eq_some_iff] at h
 obtain ⟨c, hc, rfl⟩ := h
 exact ⟨c, hc, rfl⟩

/-- The slice value '.slice A bs.length cap' reads as the bytes bs in the world w. -/
structure Bs (w : World) (A : Option Addr) (cap : Nat) (bs : List UInt8) : Prop where
 le : bs.length ≤ cap
 max : cap ≤ maxLen
 nil : A = none → cap = 0
 at_ : ∀ j c, bs[j]? = some c → ∃ b off, A = some ⟨b, off, none⟩ ∧ w.cell? ⟨b, off + j, none⟩ = some (.int .u8 (c.toNat : Int))

section
variable {w w' : World} {A : Option Addr} {cap : Nat} {bs : List UInt8}
theorem Bs.keep (h : Bs w A cap bs) (hk : ∀ p : Addr, p.block < w.heap.size → w'.cell? p = w.cell? p) : Bs w' A cap bs :=
 ⟨h.le, h.max, h.nil, fun j c hj => by
  obtain ⟨b, off, e, hc⟩ := h.at_ j c hj
  exact ⟨b, off, e, (hk _ (World.block_lt_of_cell? w _ hc)).trans hc⟩⟩
theorem Bs.below (h : Bs w A cap bs) {B : Nat} (hb : Below B w w') (hB : w.heap.size ≤ B) : Bs w' A cap bs := h.keep fun _ hp => hb.cell (by omega)
theorem Bs.alloc (h : Bs w A cap bs) (o : Obj) : Bs (w.alloc o) A cap bs := h.keep fun p hp => World.cell?_alloc_lt w o p hp
theorem Bs.drew (h : Bs w A cap bs) : Bs w.drew A cap bs := ⟨h.le, h.max, h.nil, h.at_⟩
theorem Bs.lt (h : Bs w A cap bs) {j : Nat} (hj : j < bs.length) : ∃ b off, A = some ⟨b, off, none⟩ ∧ w.cell? ⟨b, off + j, none⟩ = some (.int .u8 (bs[j].toNat : Int)) :=
 h.at_ j _ (List.getElem?_eq_getElem hj)
/-- The first bytes. -/
theorem Bs.take (h : Bs w A cap bs) (k : Nat) : Bs w A cap (bs.take k) :=
 ⟨by have := h.le; simp; omega, h.max, h.nil, fun j c hj => h.at_ j c (by
  rw [List.getElem?_take] at hj
  split at hj
  ·exact hj
  ·cases hj)⟩
/-- What the call owns reads so. -/
theorem Bs.own {base : Nat} {e : TypeId} {v : Value} {n : Nat} (h : w.ownsRow base e 1 v n (cellsOf bs)) : n = bs.length ∧ ∃ A cap, v = .slice A bs.length cap ∧ Bs w A cap bs := by
 have hn : n = bs.length := by have := h.1; rw [cellsOf_length] at this; omega
 subst hn
 refine ⟨rfl, ?_⟩
 rcases h.2 with ⟨rfl, h0⟩ | ⟨g, cap, cur, rfl, hb, hh, hle, hm, hs, ht⟩
 ·refine ⟨none, 0, by rw [h0], by omega, by decide, fun _ => rfl, fun j c hj => ?_⟩
  have := (List.getElem?_eq_some_iff.1 hj).1
  omega
 ·refine ⟨_, cap, rfl, hle, hm, (fun h => by cases h), fun j c hj => ⟨g, 0, rfl, ?_⟩⟩
  have hlt := (List.getElem?_eq_some_iff.1 hj).1
  have := h.cellAt (g := g) j (by omega)
  rw [Nat.zero_add, this]
  simp [cellsOf, hj]
end

/-- A slice literal of bytes. -/
theorem Bs.lit (w : World) (cs : Array Value) (t : TypeId) (bs : List UInt8) (hc : cs.toList = cellsOf bs) (hm : bs.length ≤ maxLen) :
 Bs (w.alloc (.cells cs t)) (some ⟨w.heap.size, 0, none⟩) bs.length bs := by
 refine ⟨Nat.le_refl _, hm, (fun h => by cases h), fun j c hj => ⟨_, _, rfl, ?_⟩⟩
 rw [cell_of_row _ w.heap.size (0 + j) cs t (0, 0) (heap_alloc_new w _), Nat.zero_add, ← Array.getElem?_toList, hc]
 simp [cellsOf, hj]

/-- The text of bytes. -/
def strOf (bs : List UInt8) : ByteArray := ⟨bs.toArray⟩
theorem strOf_beq (a b : List UInt8) : ((strOf a).toList == (strOf b).toList) = decide (a = b) := by
 rw [ByteArray.toList_eq, ByteArray.toList_eq, Bool.eq_iff_iff]
 simp [strOf]
theorem foldl_push_u8 : ∀ (bs : List UInt8) (s : ByteArray), (bs.map fun b => (b.toNat : Int)).foldl (fun r n => r.push (UInt8.ofNat n.toNat)) s = ⟨s.data ++ bs.toArray⟩
 | [], s => by simp
 | b :: bs, s => by
   rw [List.map_cons, List.foldl_cons, foldl_push_u8 bs]
   simp [ByteArray.push]
/-- 'string(b)'. -/
theorem run_string_bytes {P : Program} {w : World} {A : Option Addr} {cap : Nat} {bs : List UInt8} (h : Bs w A cap bs) {src dst e : TypeId}
 (hs : P.underlying src = some (.slice e)) (he : P.underlying e = some (.int .u8)) (hd : P.underlying dst = some .string) :
 (convert src dst (.slice A bs.length cap)).run P w = .ok (.string (strOf bs)) w := by
 rcases A with _ | a
 ·have h0 := h.nil rfl
  have hle := h.le
  have : bs = [] := List.eq_nil_of_length_eq_zero (by omega)
  subst this
  exact run_convert_bytes_nil w src e hs he _ _ dst hd
 ·have hl : (loadCells a bs.length).run P w = .ok ((bs.map fun b => (b.toNat : Int)).map (Value.int .u8)).toArray w := by
   have h2 := run_loadCells_list (P := P) w a ((bs.map fun b => (b.toNat : Int)).map (Value.int .u8)) (fun j v hj => by
    simp only [List.getElem?_map, Option.map_eq_some_iff] at hj
    obtain ⟨n, ⟨c, hc, rfl⟩, rfl⟩ := hj
    obtain ⟨b, off, ea, hcell⟩ := h.at_ j c hc
    cases ea
    have hplain : (⟨b, off, none⟩ : Addr).add j = ⟨b, off + j, none⟩ := by unfold Addr.add; split <;> simp_all
    rw [hplain]; exact hcell)
   simpa using h2
  rw [run_convert_bytes_string w src dst e _ _ _ hs he hd, run_bytesToString w _ _ _ _ hl, foldl_push_u8]
  simp [strOf, ByteArray.empty, ByteArray.emptyWithCapacity]
  rfl

/-- 'append(out, b...)', out the call's own, b whatever bytes. -/
theorem wpList_append_bs {P : Program} {w : World} {ops : Array Oper} {rest : List Oper} {o : Oper} {a : Act} {Q : Exit → Act → World → Prop} (hgd : o.guard = none) (s x : Operand) (t : TypeId)
 (ho : o.op = .call { callee := .builtin .append, args := #[s, x], argTypes := #[t, t] })
 (base : Nat) (e : TypeId) (i : TypeInfo) (ht : P.underlying t = some (.slice e)) (hi : P.info? e = some i) (hz : i.zero = some (.int .u8 0)) (hsize : i.size = 1) (hby : i.bytes = 1)
 (v : Value) (n : Nat) (pre : List UInt8) (hs : a.eval s = v) (hown : w.ownsRow base e 1 v n (cellsOf pre))
 (A : Option Addr) (m c : Nat) (bs : List UInt8) (hx : a.eval x = .slice A m c) (hm : m = bs.length) (hb : Bs w A c bs)
 (h47 : pre.length + bs.length ≤ 140737488355328) (hbase : base ≤ w.heap.size)
 (h : ∀ v' w', w'.ownsRow base e 1 v' (pre.length + bs.length) (cellsOf (pre ++ bs)) → w.grownBy w' v.ownBlock → wpList P ops Q rest (a.put o.dst v') w') : wpList P ops Q (o :: rest) a w := by
 subst hm
 obtain ⟨hn, _⟩ := Bs.own hown
 subst hn
 rcases A with _ | ad
 ·have h0 := hb.nil rfl
  have hle := hb.le
  have hbs : bs = [] := List.eq_nil_of_length_eq_zero (by omega)
  subst hbs h0
  refine wpList_plain hgd fun K hK' => ?_
  have hrun := run_append_owned_none (P := P) w base t o.type e i 1 ht hi v pre.length (cellsOf pre) hown
  unfold Oper.wp
  simp [execOp, ho, resolve, invoke, builtin, hs, hx, hrun, Result.andThen]
  exact hK' _ _ (h v w (by simpa using hown) (World.grownBy.refl _ _))
 ·exact wpList_append_own w hgd s x t ho base e i (.int .u8 0) 1 1 ht hi hz hsize hby rfl (by decide) v pre.length (cellsOf pre) hs hown ad bs.length c (cellsOf bs) hx
   (by rw [cellsOf_length]; omega) (fun j u hu => by
    obtain ⟨b, hbj, rfl⟩ := cellsOf_get hu
    obtain ⟨bl, off, ea, hcell⟩ := hb.at_ j b hbj
    cases ea
    have hplain : (⟨bl, off, none⟩ : Addr).add j = ⟨bl, off + j, none⟩ := by unfold Addr.add; split <;> simp_all
    rw [hplain]; exact hcell) (cellsOf_one bs) (by unfold maxLen; omega) (by omega) hbase (fun v' w' h1 h2 _ => h v' w' (by rw [cellsOf_append]; exact h1) h2)

/-- The slice value '.slice A cs.length cap' reads as these cells (of elements of one cell each). -/
structure Sl (w : World) (A : Option Addr) (cap : Nat) (cs : List Value) : Prop where
 le : cs.length ≤ cap
 max : cap ≤ maxLen
 nil : A = none → cap = 0
 at_ : ∀ j u, cs[j]? = some u → ∃ b off, A = some ⟨b, off, none⟩ ∧ w.cell? ⟨b, off + j, none⟩ = some u

section
variable {w w' : World} {A : Option Addr} {cap : Nat} {cs : List Value}
theorem Sl.keep (h : Sl w A cap cs) (hk : ∀ p : Addr, p.block < w.heap.size → w'.cell? p = w.cell? p) : Sl w' A cap cs :=
 ⟨h.le, h.max, h.nil, fun j c hj => by
  obtain ⟨b, off, e, hc⟩ := h.at_ j c hj
  exact ⟨b, off, e, (hk _ (World.block_lt_of_cell? w _ hc)).trans hc⟩⟩
theorem Sl.below (h : Sl w A cap cs) {B : Nat} (hb : Below B w w') (hB : w.heap.size ≤ B) : Sl w' A cap cs := h.keep fun _ hp => hb.cell (by omega)
theorem Sl.alloc (h : Sl w A cap cs) (o : Obj) : Sl (w.alloc o) A cap cs := h.keep fun p hp => World.cell?_alloc_lt w o p hp
theorem Sl.lt (h : Sl w A cap cs) {j : Nat} (hj : j < cs.length) : ∃ b off, A = some ⟨b, off, none⟩ ∧ w.cell? ⟨b, off + j, none⟩ = some cs[j] :=
 h.at_ j _ (List.getElem?_eq_getElem hj)
theorem Sl.own {base : Nat} {e : TypeId} {v : Value} {n : Nat} (h : w.ownsRow base e 1 v n cs) : n = cs.length ∧ ∃ A cap, v = .slice A cs.length cap ∧ Sl w A cap cs := by
 have hn : n = cs.length := by have := h.1; omega
 subst hn
 refine ⟨rfl, ?_⟩
 rcases h.2 with ⟨rfl, h0⟩ | ⟨g, cap, cur, rfl, hb, hh, hle, hm, hs, ht⟩
 ·refine ⟨none, 0, by rw [h0], by omega, by decide, fun _ => rfl, fun j c hj => ?_⟩
  have := (List.getElem?_eq_some_iff.1 hj).1
  omega
 ·refine ⟨_, cap, rfl, hle, hm, (fun h => by cases h), fun j c hj => ⟨g, 0, rfl, ?_⟩⟩
  have hlt := (List.getElem?_eq_some_iff.1 hj).1
  have := h.cellAt (g := g) j (by omega)
  rw [Nat.zero_add, this]
  exact hj
end

/-! ### What came in -/
theorem plain_addr {w : World} {x : Addr} {v : Value} (h : w.cell? (x.add 0) = some v) : ∃ b off, x = ⟨b, off, none⟩ ∧ ∀ j, x.add j = ⟨b, off + j, none⟩ := by
 obtain ⟨b, off, spot⟩ := x
 have hs := World.cell?_spot h
 have hspot : spot = none := by simpa [Addr.add] using hs
 subst hspot
 exact ⟨b, off, rfl, fun j => by unfold Addr.add; split <;> simp_all⟩

theorem bs_nil (w : World) : Bs w none 0 [] := ⟨Nat.le_refl _, by decide, fun _ => rfl, fun j c hj => by simp at hj⟩
theorem u64_came {a : Int} (h : (Lit.int .u64 a).wf = true) : ∃ n : Nat, a = (n : Int) ∧ n < 18446744073709551616 := by
 have h1 : IntKind.u64.min = 0 := rfl
 have h2 : IntKind.u64.max = 18446744073709551615 := rfl
 simp only [Lit.wf, Bool.and_eq_true, decide_eq_true_eq] at h
 exact ⟨a.toNat, by omega, by omega⟩
/-- The cells of numbers of 64 bits. -/
def u64s (ns : List Nat) : List Value := ns.map fun (n : Nat) => Value.int .u64 (n : Int)
theorem u64s_length (ns : List Nat) : (u64s ns).length = ns.length := by simp [u64s]
theorem bel_trans {w w1 w2 : World} (h1 : Below w.heap.size w w1) (h2 : Below w1.heap.size w1 w2) : Below w.heap.size w w2 := h1.trans (h2.mono h1.size)
/-- What the call owns stays owned while a callee makes memory of its own. -/
theorem own_below {w w1 : World} {base : Nat} {e : TypeId} {size n : Nat} {v : Value} {xs : List Value} (h : w.ownsRow base e size v n xs) (hb : Below w.heap.size w w1) : w1.ownsRow base e size v n xs :=
 h.kept (row := none) ⟨hb.os, hb.tape, hb.output, hb.size, fun k hk _ => hb.block k hk⟩ (by cases hv : v.ownBlock <;> simp)

theorem u8_nat {a : Nat} (h : a < 256) : (a.toUInt8).toNat = a := by
 simp [Nat.toUInt8]; omega

end Go.Proofs.YtloheacncefkgaaGreatDoor

/- Layer 9 in plain words (no program here): names, lists that rise, lists in which nothing is there twice. -/
namespace Go.Proofs.YtloheacncefkgaaGreatDoor
set_option linter.unusedVariables false

/-- Is one text ahead of another, byte by byte? -/
def ahead : List UInt8 → List UInt8 → Bool
 | _, [] => false
 | [], _ :: _ => true
 | a :: r, b :: q => if a.toNat < b.toNat then true else if b.toNat < a.toNat then false else ahead r q
def riseB : List (List UInt8) → Bool
 | [] => true
 | [_] => true
 | a :: b :: r => ahead a b && riseB (b :: r)
/-- Is none there twice? -/
def onceB : List (List UInt8) → Bool
 | [] => true
 | a :: r => !(r.contains a) && onceB r
theorem riseB_off : ∀ {l : List (List UInt8)} {k : Nat} {a b : List UInt8}, l[k]? = some a → l[k + 1]? = some b → ahead a b = false → riseB l = false
 | x :: y :: r, 0, a, b, ha, hb, h => by
   simp at ha hb
   subst ha hb
   rw [riseB, h]; rfl
 | x :: y :: r, k + 1, a, b, ha, hb, h => by
   have := riseB_off (l := y :: r) (k := k) (by simpa using ha) (by simpa using hb) h
   rw [riseB, this, Bool.and_false]
 | [x], k, a, b, ha, hb, h => by simp at hb
 | [], k, a, b, ha, hb, h => by simp at hb
theorem riseB_all : ∀ {l : List (List UInt8)}, (∀ (k : Nat) a b, l[k]? = some a → l[k + 1]? = some b → ahead a b = true) → riseB l = true
 | [], _ => rfl
 | [_], _ => rfl
 | x :: y :: r, h => by
   rw [riseB, h 0 x y rfl rfl, riseB_all (l := y :: r) (fun k a b ha hb => h (k + 1) a b (by simpa using ha) (by simpa using hb))]
   rfl
theorem onceB_iff : ∀ l : List (List UInt8), onceB l = true ↔ l.Nodup
 | [] => by simp [onceB]
 | a :: r => by simp [onceB, onceB_iff r]
theorem onceB_off {l : List (List UInt8)} {i k : Nat} {a : List UInt8} (hk : k < i) (hi : l[i]? = some a) (hk' : l[k]? = some a) : onceB l = false := by
 cases h : onceB l with
 | false => rfl
 | true =>
   have hn := (onceB_iff l).mp h
   obtain ⟨h1, e1⟩ := List.getElem?_eq_some_iff.mp hi
   obtain ⟨h2, e2⟩ := List.getElem?_eq_some_iff.mp hk'
   exact absurd (e2.trans e1.symm) ((List.pairwise_iff_getElem.mp hn) k i h2 h1 hk)
theorem onceB_all {l : List (List UInt8)} (h : ∀ (i k : Nat) a b, k < i → l[i]? = some a → l[k]? = some b → a ≠ b) : onceB l = true := by
 rw [onceB_iff]
 refine List.pairwise_iff_getElem.mpr fun i j hi hj hij e => ?_
 exact h j i _ _ hij (List.getElem?_eq_getElem hj) (List.getElem?_eq_getElem hi) e.symm
end Go.Proofs.YtloheacncefkgaaGreatDoor

/- Numbers that came in lie between the bounds of their types (no program here). -/
namespace Go.Proofs.YtloheacncefkgaaGreatDoor
open Go.RowKit

theorem i64_came {a : Int} (h : (Lit.int .i64 a).wf = true) : -9223372036854775808 ≤ a ∧ a < 9223372036854775808 := by
 have h1 : IntKind.i64.min = -9223372036854775808 := rfl
 have h2 : IntKind.i64.max = 9223372036854775807 := rfl
 simp only [Lit.wf, Bool.and_eq_true, decide_eq_true_eq] at h
 omega
theorem ret_int' {k : IntKind} {a b : Int} (h : a = b) : Ending.returned (.int k a) = .returned (.int k b) := by rw [h]
theorem ret_bool' {a b : Bool} (h : a = b) : Ending.returned (.bool a) = .returned (.bool b) := by rw [h]
end Go.Proofs.YtloheacncefkgaaGreatDoor

/- Lists of texts that came in (no program here). -/
namespace Go.Proofs.YtloheacncefkgaaGreatDoor
open Go.RowKit

/-- The cells of texts. -/
def txts (ts : List (List UInt8)) : List Value := ts.map fun t => Value.string (strOf t)
theorem txts_length (ts : List (List UInt8)) : (txts ts).length = ts.length := by simp [txts]
end Go.Proofs.YtloheacncefkgaaGreatDoor

/- What stands ahead of a field, as plain functions (no program here). -/
namespace Go.Proofs.YtloheacncefkgaaGreatDoor

def isWire (t : Int) : Bool := t == 0 || (t == 1 || (t == 2 || t == 5))
def numOk (n : Int) : Bool := decide (1 ≤ n ∧ n ≤ 536870911)
def rightB (n t : Int) : Bool := numOk n && isWire t
def tagN (n t : Int) : Nat := if rightB n t = true then (8 * n + t).toNat else 0
def splitOk (u : Nat) : Bool := rightB (u / 8 : Nat) (u % 8 : Nat)
def splitN (u : Nat) : Nat := if splitOk u = true then u / 8 else 0
def splitW (u : Nat) : Nat := if splitOk u = true then u % 8 else 0
def fieldB (n : Int) : Bool := numOk n && decide (n < 19000 ∨ 19999 < n)

theorem isWire_iff (t : Int) : isWire t = true ↔ (t = 0 ∨ t = 1 ∨ t = 2 ∨ t = 5) := by simp [isWire]
theorem numOk_iff (n : Int) : numOk n = true ↔ (1 ≤ n ∧ n ≤ 536870911) := by simp [numOk]
theorem rightB_iff (n t : Int) : rightB n t = true ↔ (1 ≤ n ∧ n ≤ 536870911) ∧ (t = 0 ∨ t = 1 ∨ t = 2 ∨ t = 5) := by
 rw [rightB, Bool.and_eq_true, numOk_iff, isWire_iff]
theorem tagN_lt (n t : Int) : tagN n t < 4294967296 := by
 unfold tagN; split
 ·rename_i h; rw [rightB_iff] at h; omega
 ·omega
theorem split_tag (n t : Int) (h : rightB n t = true) : splitOk (tagN n t) = true ∧ (splitN (tagN n t) : Int) = n ∧ (splitW (tagN n t) : Int) = t := by
 have h2 := h
 rw [rightB_iff] at h2
 have e : tagN n t = (8 * n + t).toNat := by rw [tagN, if_pos h]
 have e1 : ((tagN n t / 8 : Nat) : Int) = n := by rw [e]; omega
 have e2 : ((tagN n t % 8 : Nat) : Int) = t := by rw [e]; omega
 have h3 : splitOk (tagN n t) = true := by unfold splitOk; rw [e1, e2, h]
 refine ⟨h3, ?_, ?_⟩
 ·rw [splitN, if_pos h3, e1]
 ·rw [splitW, if_pos h3, e2]
end Go.Proofs.YtloheacncefkgaaGreatDoor

/- What a call that makes bytes answers: a slice that reads as them, in memory of its own. Conditions: those that each theorem names. -/
namespace Go.Proofs.YtloheacncefkgaaGreatDoor
open Go.RowKit

theorem info_u8 : (Tryz.prog.info? 5).map (fun i => (i.zero, i.size, i.bytes)) = some (some (.int .u8 0), 1, 1) := by kernel_rfl

theorem cellsOf_snoc (pre : List UInt8) {a : Nat} (h : a < 256) {x : Int} (hx : x = (a : Int)) : cellsOf pre ++ [.int .u8 x] = cellsOf (pre ++ [a.toUInt8]) := by
 subst hx
 rw [cellsOf_append]
 simp only [cellsOf, List.map_cons, List.map_nil]
 rw [u8_nat h]

theorem one_one (x : Int) : ∀ u ∈ [Value.int .u8 x], u.oneCell' = true := by
 intro u hu; simp at hu; subst hu; rfl

/-- What a call that makes bytes answers. -/
def Gives (w : World) (bs : List UInt8) (e : Ending) (w' : World) : Prop :=
 ∃ A cap, e = .returned (.slice A bs.length cap) ∧ Bs w' A cap bs ∧ Below w.heap.size w w'

theorem gives_own {w w' : World} {v : Value} {bs : List UInt8} {base n : Nat} {t : TypeId} (h : w'.ownsRow base t 1 v n (cellsOf bs)) (hb : Below w.heap.size w w') : Gives w bs (.returned v) w' := by
 obtain ⟨_, A, cap, rfl, hB⟩ := Bs.own h
 exact ⟨A, cap, rfl, hB, hb⟩

/-- .. where the row is the caller's to append to. -/
def GivesOwn (w : World) (bs : List UInt8) (e : Ending) (w' : World) : Prop :=
 ∃ v n, e = .returned v ∧ w'.ownsRow w.heap.size 5 1 v n (cellsOf bs) ∧ Below w.heap.size w w'

/-- .. where what it lies in is new. -/
def GivesN (w : World) (bs : List UInt8) (e : Ending) (w' : World) : Prop :=
 ∃ A cap, e = .returned (.slice A bs.length cap) ∧ Bs w' A cap bs ∧ Below w.heap.size w w' ∧ ∀ a, A = some a → w.heap.size ≤ a.block ∧ a.block < w'.heap.size
theorem GivesN.gives {w w' : World} {bs : List UInt8} {e : Ending} (h : GivesN w bs e w') : Gives w bs e w' := by
 obtain ⟨A, cap, h1, h2, h3, _⟩ := h
 exact ⟨A, cap, h1, h2, h3⟩
theorem new_own {w w' : World} {v : Value} {bs : List UInt8} {n : Nat} {t : TypeId} (h : w'.ownsRow w.heap.size t 1 v n (cellsOf bs)) (hb : Below w.heap.size w w') : GivesN w bs (.returned v) w' := by
 obtain ⟨_, A, cap, rfl, hB⟩ := Bs.own h
 exact ⟨A, cap, rfl, hB, hb, fun a ha => h.lt a.block (by rw [ha]; rfl)⟩

theorem own0 (w : World) : (w.alloc (.cells #[] 5)).ownsRow w.heap.size 5 1 (.slice (some ⟨w.heap.size, 0, none⟩) 0 0) 0 (cellsOf []) :=
 World.ownsRow_made w #[] 0 (Nat.le_refl _) (by decide) rfl
end Go.Proofs.YtloheacncefkgaaGreatDoor

/- The reference's Bytes: whether two slices read as the same bytes, for all bytes; the world is as it was. -/
namespace Go.Proofs.YtloheacncefkgaaGreatDoor
open Go.RowKit

set_option maxRecDepth 100000 in
theorem bytes_any (A A' : Option Addr) (cap cap' : Nat) (bs bs' : List UInt8) (w : World) (h : Bs w A cap bs) (h' : Bs w A' cap' bs') :
 Calls Tryz.prog 13 #[.slice A bs.length cap, .slice A' bs'.length cap'] w fun e w' => e = .returned (.bool (decide (bs = bs'))) ∧ w = w' := by
 have g1 := run_string_bytes (P := Tryz.prog) h Tryz.underlying34 Tryz.underlying5 Tryz.underlying9
 have g2 := run_string_bytes (P := Tryz.prog) h' Tryz.underlying34 Tryz.underlying5 Tryz.underlying9
 go_enter Tryz.func13, Tryz.ntmps13
 go_wp2
 go_ret
 exact ⟨congrArg (fun b => Ending.returned (.bool b)) (strOf_beq bs bs'), rfl⟩
theorem bytes_n (A A' : Option Addr) (n n' cap cap' : Nat) (bs bs' : List UInt8) (w : World) (hn : n = bs.length) (hn' : n' = bs'.length) (h : Bs w A cap bs) (h' : Bs w A' cap' bs') :
 Calls Tryz.prog 13 #[.slice A n cap, .slice A' n' cap'] w fun e w' => e = .returned (.bool (decide (bs = bs'))) ∧ w = w' := by
 subst hn hn'; exact bytes_any A A' cap cap' bs bs' w h h'
end Go.Proofs.YtloheacncefkgaaGreatDoor

/- append onto a row of texts of the call's own: whatever list of texts. Conditions: those that each theorem names. -/
namespace Go.Proofs.YtloheacncefkgaaGreatDoor
open Go.RowKit
set_option linter.unusedVariables false

theorem info_str : (Tryz.prog.info? 9).map (fun i => (i.zero, i.size, i.bytes)) = some (some (.string ByteArray.empty), 1, 16) := by kernel_rfl
theorem info_str_parts : ∃ i, Tryz.prog.info? 9 = some i ∧ i.zero = some (.string ByteArray.empty) ∧ i.size = 1 ∧ i.bytes = 16 := by
 have h := info_str
 cases hi : Tryz.prog.info? 9 with
 | none => rw [hi] at h; simp at h
 | some i =>
   rw [hi] at h
   simp only [Option.map_some, Option.some.injEq, Prod.mk.injEq] at h
   exact ⟨i, rfl, h.1, h.2.1, h.2.2⟩
theorem txts_append (a b : List (List UInt8)) : txts (a ++ b) = txts a ++ txts b := by simp [txts]
theorem txts_one (ts : List (List UInt8)) : ∀ u ∈ txts ts, u.oneCell' = true := by
 intro u hu
 obtain ⟨_, _, rfl⟩ := List.mem_map.1 hu
 rfl
theorem own0_str (w : World) : (w.alloc (.cells #[] 9)).ownsRow w.heap.size 9 1 (.slice (some ⟨w.heap.size, 0, none⟩) 0 0) 0 (txts []) :=
 World.ownsRow_made w #[] 0 (Nat.le_refl _) (by decide) rfl
theorem wpList_append_sl {w : World} {ops : Array Oper} {rest : List Oper} {o : Oper} {a : Act} {Q : Exit → Act → World → Prop} (hgd : o.guard = none) (s x : Operand)
 (ho : o.op = .call { callee := .builtin .append, args := #[s, x], argTypes := #[87, 87] })
 (base : Nat) (v : Value) (n : Nat) (pre : List (List UInt8)) (hs : a.eval s = v) (hown : w.ownsRow base 9 1 v n (txts pre))
 (A : Option Addr) (m c : Nat) (bs : List (List UInt8)) (hx : a.eval x = .slice A m c) (hm : m = bs.length) (hb : Sl w A c (txts bs))
 (h47 : pre.length + bs.length ≤ 1000000) (hbase : base ≤ w.heap.size)
 (h : ∀ v' w', w'.ownsRow base 9 1 v' (pre.length + bs.length) (txts (pre ++ bs)) → w.grownBy w' v.ownBlock → wpList Tryz.prog ops Q rest (a.put o.dst v') w') : wpList Tryz.prog ops Q (o :: rest) a w := by
 obtain ⟨i, hi, hz, hsize, hby⟩ := info_str_parts
 subst hm
 obtain ⟨hn, _⟩ := Sl.own hown
 rw [txts_length] at hn
 subst hn
 rcases A with _ | ad
 ·have h0 := hb.nil rfl
  have hle := hb.le
  rw [txts_length] at hle
  have hbs : bs = [] := List.eq_nil_of_length_eq_zero (by omega)
  subst hbs h0
  refine wpList_plain hgd fun K hK' => ?_
  have hrun := run_append_owned_none (P := Tryz.prog) w base 87 o.type 9 i 1 Tryz.underlying87 hi v pre.length (txts pre) hown
  unfold Oper.wp
  simp [execOp, ho, resolve, invoke, builtin, hs, hx, hrun, Result.andThen]
  exact hK' _ _ (h v w (by simpa using hown) (World.grownBy.refl _ _))
 ·exact wpList_append_own w hgd s x 87 ho base 9 i (.string ByteArray.empty) 1 16 Tryz.underlying87 hi hz hsize hby rfl (by decide) v pre.length (txts pre) hs hown ad bs.length c (txts bs) hx
   (by rw [txts_length]; omega) (fun j u hu => by
    obtain ⟨bl, off, ea, hcell⟩ := hb.at_ j u hu
    cases ea
    have hplain : (⟨bl, off, none⟩ : Addr).add j = ⟨bl, off + j, none⟩ := by unfold Addr.add; split <;> simp_all
    rw [hplain]; exact hcell) (txts_one bs) (by unfold maxLen; omega) (by omega) hbase (fun v' w' h1 h2 _ => h v' w' (by rw [txts_append]; exact h1) h2)
end Go.Proofs.YtloheacncefkgaaGreatDoor

/- tag.Right: what it returns, for every input; the world is as it was. -/
namespace Go.Proofs.YtloheacncefkgaaGreatDoor
open Go.RowKit
set_option linter.unusedVariables false
set_option maxRecDepth 100000

theorem numbered_any (n : Int) (w : World) :
 Calls Tryz.prog 137 #[.int .i64 n] w fun e w' => e = .returned (.bool (numOk n)) ∧ w = w' := by
 by_cases h1 : 1 ≤ n
 ·have HF : Hid (decide (n ≤ 536870911) = numOk n) := by show _ = _; simp [numOk, h1]
  have g1 : decide (1 ≤ n) = true := decide_eq_true h1
  go_enter Tryz.func137, Tryz.ntmps137
  go_wp2
  go_ret
  exact ⟨ret_bool' HF.out, rfl⟩
 ·have HF : Hid (false = numOk n) := by show _ = _; simp [numOk, h1]
  have g1 : decide (1 ≤ n) = false := decide_eq_false h1
  go_enter Tryz.func137, Tryz.ntmps137
  go_wp2
  go_ret
  exact ⟨ret_bool' HF.out, rfl⟩
theorem known_any (t : Int) (w : World) :
 Calls Tryz.prog 138 #[.int .i64 t] w fun e w' => e = .returned (.bool (isWire t)) ∧ w = w' := by
 go_enter Tryz.func138, Tryz.ntmps138
 go_wp2
 all_goals go_ret
 all_goals exact ⟨ret_bool' (by simp only [isWire, *, Bool.true_or, Bool.or_true, Bool.or_false]), rfl⟩
theorem right_any (n t : Int) (w : World) :
 Calls Tryz.prog 108 #[.int .i64 n, .int .i64 t] w fun e w' => e = .returned (.bool (rightB n t)) ∧ w = w' := by
 have H1 := Lib.hid (fun w => numbered_any n w)
 have H2 := Lib.hid (fun w => known_any t w)
 have HF : Hid (rightB n t = (numOk n && isWire t)) := rfl
 generalize rightB n t = r at *
 generalize numOk n = p at *
 generalize isWire t = q at *
 cases p
 all_goals
  go_enter Tryz.func108, Tryz.ntmps108
  go_wp2_with (first
   | (go_at_call 137; refine (H1.out _).mono ?_; rintro e w' ⟨rfl, rfl⟩)
   | (go_at_call 138; refine (H2.out _).mono ?_; rintro e w' ⟨rfl, rfl⟩))
  go_ret
  exact ⟨ret_bool' (by rw [HF.out]; rfl), rfl⟩
end Go.Proofs.YtloheacncefkgaaGreatDoor

/- tag.Of: what it returns, for every input; the world is as it was. -/
namespace Go.Proofs.YtloheacncefkgaaGreatDoor
open Go.RowKit
set_option linter.unusedVariables false
set_option maxRecDepth 100000

theorem of_any (n t : Int) (w : World) :
 Calls Tryz.prog 141 #[.int .i64 n, .int .i64 t] w fun e w' => e = .returned (.tuple #[.int .u64 (tagN n t : Int), .bool (rightB n t)]) ∧ w = w' := by
 have H1 := Lib.hid (fun w => right_any n t w)
 cases hr : rightB n t with
 | false =>
   have HT : Hid (tagN n t = 0) := by show _ = _; rw [tagN, hr, if_neg (by simp)]
   rw [hr] at H1
   clear hr
   go_enter Tryz.func141, Tryz.ntmps141
   go_wp2_with (refine (H1.out _).mono ?_; rintro e w' ⟨rfl, rfl⟩)
   go_ret2
   exact ⟨by rw [HT.out]; rfl, rfl⟩
 | true =>
   have HT : Hid (tagN n t = (8 * n + t).toNat) := by show _ = _; rw [tagN, hr, if_pos rfl]
   rw [hr] at H1
   rw [rightB_iff] at hr
   have hn : 1 ≤ n ∧ n ≤ 536870911 := hr.1
   have ht : 0 ≤ t ∧ t ≤ 5 := by omega
   have e8 : 8 * n + t = ((8 * n + t).toNat : Int) := by omega
   have HE := Lib.hid e8
   clear hr e8
   go_enter Tryz.func141, Tryz.ntmps141
   go_wp2_with (refine (H1.out _).mono ?_; rintro e w' ⟨rfl, rfl⟩)
   go_ret2
   exact ⟨by rw [HT.out, ← HE.out]; rfl, rfl⟩

end Go.Proofs.YtloheacncefkgaaGreatDoor

/- The document's Right: what it returns, for every input; the world is as it was. -/
namespace Go.Proofs.YtloheacncefkgaaGreatDoor
open Go.RowKit
set_option linter.unusedVariables false
set_option maxRecDepth 100000

theorem rright_any (n t : Int) (w : World) :
 Calls Tryz.prog 124 #[.int .i64 n, .int .i64 t] w fun e w' => e = .returned (.bool (rightB n t)) ∧ w = w' := by
 by_cases h1 : 1 ≤ n
 ·have g1 : decide (1 ≤ n) = true := decide_eq_true h1
  by_cases h2 : n ≤ 536870911
  ·have g2 : decide (n ≤ 536870911) = true := decide_eq_true h2
   have HF : Hid (rightB n t = (t == 0 || (t == 1 || (t == 2 || t == 5)))) := by show _ = _; simp [rightB, numOk, h1, h2, isWire]
   cases e0 : (t == 0) <;> cases e1 : (t == 1) <;> cases e2 : (t == 2)
   all_goals rw [e0, e1, e2] at HF
   all_goals
    go_enter Tryz.func124, Tryz.ntmps124
    go_wp2
    go_ret
    exact ⟨ret_bool' (by rw [HF.out]; simp only [Bool.true_or, Bool.or_true, Bool.false_or]), rfl⟩
  ·have g2 : decide (n ≤ 536870911) = false := decide_eq_false h2
   have HF : Hid (rightB n t = false) := by show _ = _; simp [rightB, numOk, h2]
   go_enter Tryz.func124, Tryz.ntmps124
   go_wp2
   go_ret
   exact ⟨ret_bool' HF.out.symm, rfl⟩
 ·have g1 : decide (1 ≤ n) = false := decide_eq_false h1
  have HF : Hid (rightB n t = false) := by show _ = _; simp [rightB, numOk, h1]
  go_enter Tryz.func124, Tryz.ntmps124
  go_wp2
  go_ret
  exact ⟨ret_bool' HF.out.symm, rfl⟩
end Go.Proofs.YtloheacncefkgaaGreatDoor

/- The document's Field: what it returns, for every input; the world is as it was. -/
namespace Go.Proofs.YtloheacncefkgaaGreatDoor
open Go.RowKit
set_option linter.unusedVariables false
set_option maxRecDepth 100000

theorem rtagfield_any (n : Int) (w : World) :
 Calls Tryz.prog 99 #[.int .i64 n] w fun e w' => e = .returned (.bool (fieldB n)) ∧ w = w' := by
 have HF : Hid (fieldB n = ((decide (1 ≤ n) && decide (n ≤ 536870911)) && (decide (n < 19000) || decide (19999 < n)))) := by show _ = _; simp [fieldB, numOk]
 generalize fieldB n = r at *
 cases e0 : decide (1 ≤ n) <;> cases e2 : decide (n ≤ 536870911) <;> cases e1 : decide (n < 19000)
 all_goals
  rw [e0, e1, e2] at HF
  go_enter Tryz.func99, Tryz.ntmps99
  go_wp2
  go_ret
  exact ⟨ret_bool' (by rw [HF.out]; rfl), rfl⟩

end Go.Proofs.YtloheacncefkgaaGreatDoor

/- The document's Of: what it returns, for every input that is right; the world is as it was. -/
namespace Go.Proofs.YtloheacncefkgaaGreatDoor
open Go.RowKit
set_option linter.unusedVariables false
set_option maxRecDepth 100000

theorem rof_any (n t : Int) (w : World) (hr : rightB n t = true) :
 Calls Tryz.prog 163 #[.int .i64 n, .int .i64 t] w fun e w' => e = .returned (.int .u64 (tagN n t : Int)) ∧ w = w' := by
 have HT : Hid (tagN n t = (8 * n + t).toNat) := by show _ = _; rw [tagN, hr, if_pos rfl]
 rw [rightB_iff] at hr
 have hn : 1 ≤ n ∧ n ≤ 536870911 := hr.1
 have ht : 0 ≤ t ∧ t ≤ 5 := by omega
 have e8 : 8 * n + t = ((8 * n + t).toNat : Int) := by omega
 have HE := Lib.hid e8
 clear hr e8
 go_enter Tryz.func163, Tryz.ntmps163
 go_wp2
 go_ret
 exact ⟨ret_int' (by rw [HT.out, ← HE.out]), rfl⟩

end Go.Proofs.YtloheacncefkgaaGreatDoor
