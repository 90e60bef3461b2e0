/- Several texts in one: Bytes, IdMath, Ints, TagMath, Gives, TagR, TagSp. What each proves, and its conditions, stands at its own head. -/
import Derived.Below
import Derived.Laws.OwnMore
import Derived.Maps.AppendAt
import Derived.Lib.Hide
import Derived.Carry
import Derived.Laws.BytesArg
import Derived.OwnWalk
import Derived.Test.YtpfdnggacpehdaaGreatDoorChecked
import Derived.WalkKit
import Derived.RowKitTokens
/- Words for memory (no program here): what it means that a slice value reads as a list of bytes in a world, and that this is kept. Conditions: none but those that each theorem names. -/
namespace Go.Proofs.YtpfdnggacpehdaaGreatDoor
open Go.RowKit

/-- The cells of bytes. -/
def cellsOf (bs : List UInt8) : List Value := bs.map fun b => Value.int .u8 (b.toNat : Int)
theorem cellsOf_length (bs : List UInt8) : (cellsOf bs).length = bs.length := by simp [cellsOf]
theorem cellsOf_one (bs : List UInt8) : ∀ u ∈ cellsOf bs, u.oneCell' = true := by
  intro u hu
  obtain ⟨_, _, rfl⟩ := List.mem_map.1 hu
  rfl
theorem cellsOf_append (a b : List UInt8) : cellsOf (a ++ b) = cellsOf a ++ cellsOf b := by simp [cellsOf]
theorem cellsOf_get {bs : List UInt8} {j : Nat} {u : Value} (h : (cellsOf bs)[j]? = some u) : ∃ c, bs[j]? = some c ∧ u = .int .u8 (c.toNat : Int) := by
  simp only [cellsOf, List.getElem?_map, Option.map_eq_some_iff] at h
  obtain ⟨c, hc, rfl⟩ := h
  exact ⟨c, hc, rfl⟩

/-- The slice value '.slice A bs.length cap' reads as the bytes bs in the world w. -/
structure Bs (w : World) (A : Option Addr) (cap : Nat) (bs : List UInt8) : Prop where
  le : bs.length ≤ cap
  max : cap ≤ maxLen
  nil : A = none → cap = 0
  at_ : ∀ j c, bs[j]? = some c → ∃ b off, A = some ⟨b, off, none⟩ ∧ w.cell? ⟨b, off + j, none⟩ = some (.int .u8 (c.toNat : Int))

section
variable {w w' : World} {A : Option Addr} {cap : Nat} {bs : List UInt8}
theorem Bs.keep (h : Bs w A cap bs) (hk : ∀ p : Addr, p.block < w.heap.size → w'.cell? p = w.cell? p) : Bs w' A cap bs :=
  ⟨h.le, h.max, h.nil, fun j c hj => by
    obtain ⟨b, off, e, hc⟩ := h.at_ j c hj
    exact ⟨b, off, e, (hk _ (World.block_lt_of_cell? w _ hc)).trans hc⟩⟩
theorem Bs.below (h : Bs w A cap bs) {B : Nat} (hb : Below B w w') (hB : w.heap.size ≤ B) : Bs w' A cap bs := h.keep fun _ hp => hb.cell (by omega)
theorem Bs.alloc (h : Bs w A cap bs) (o : Obj) : Bs (w.alloc o) A cap bs := h.keep fun p hp => World.cell?_alloc_lt w o p hp
theorem Bs.drew (h : Bs w A cap bs) : Bs w.drew A cap bs := ⟨h.le, h.max, h.nil, h.at_⟩
theorem Bs.lt (h : Bs w A cap bs) {j : Nat} (hj : j < bs.length) : ∃ b off, A = some ⟨b, off, none⟩ ∧ w.cell? ⟨b, off + j, none⟩ = some (.int .u8 (bs[j].toNat : Int)) :=
  h.at_ j _ (List.getElem?_eq_getElem hj)
/-- The first bytes. -/
theorem Bs.take (h : Bs w A cap bs) (k : Nat) : Bs w A cap (bs.take k) :=
  ⟨by have := h.le; simp; omega, h.max, h.nil, fun j c hj => h.at_ j c (by
    rw [List.getElem?_take] at hj
    split at hj
    · exact hj
    · cases hj)⟩
/-- The bytes from k on; the address as Go cuts it. -/
theorem Bs.cut (h : Bs w A cap bs) (k : Nat) (hk : k ≤ bs.length) : Bs w (if cap = k then A else A.map (·.add k)) (cap - k) (bs.drop k) := by
  have hle := h.le
  have hmax := h.max
  refine ⟨by simp; omega, by omega, fun hA => ?_, fun j c hj => ?_⟩
  · by_cases e : cap = k
    · omega
    · rw [if_neg e] at hA
      have := h.nil (by simpa using hA)
      omega
  · rw [List.getElem?_drop] at hj
    obtain ⟨b, off, e, hc⟩ := h.at_ _ c hj
    have hlt := (List.getElem?_eq_some_iff.1 hj).1
    rw [if_neg (by omega), e]
    refine ⟨b, off + k, ?_, by rw [Nat.add_assoc]; exact hc⟩
    by_cases hk0 : k = 0
    · subst hk0; simp [Addr.add]
    · simp [Addr.add, hk0]
/-- What the call owns reads so. -/
theorem Bs.own {base : Nat} {e : TypeId} {v : Value} {n : Nat} (h : w.ownsRow base e 1 v n (cellsOf bs)) : n = bs.length ∧ ∃ A cap, v = .slice A bs.length cap ∧ Bs w A cap bs := by
  have hn : n = bs.length := by have := h.1; rw [cellsOf_length] at this; omega
  subst hn
  refine ⟨rfl, ?_⟩
  rcases h.2 with ⟨rfl, h0⟩ | ⟨g, cap, cur, rfl, hb, hh, hle, hm, hs, ht⟩
  · refine ⟨none, 0, by rw [h0], by omega, by decide, fun _ => rfl, fun j c hj => ?_⟩
    have := (List.getElem?_eq_some_iff.1 hj).1
    omega
  · refine ⟨_, cap, rfl, hle, hm, (fun h => by cases h), fun j c hj => ⟨g, 0, rfl, ?_⟩⟩
    have hlt := (List.getElem?_eq_some_iff.1 hj).1
    have := h.cellAt (g := g) j (by omega)
    rw [Nat.zero_add, this]
    simp [cellsOf, hj]
end

/-- A slice literal of bytes. -/
theorem Bs.lit (w : World) (cs : Array Value) (t : TypeId) (bs : List UInt8) (hc : cs.toList = cellsOf bs) (hm : bs.length ≤ maxLen) :
    Bs (w.alloc (.cells cs t)) (some ⟨w.heap.size, 0, none⟩) bs.length bs := by
  refine ⟨Nat.le_refl _, hm, (fun h => by cases h), fun j c hj => ⟨_, _, rfl, ?_⟩⟩
  rw [cell_of_row _ w.heap.size (0 + j) cs t (0, 0) (heap_alloc_new w _), Nat.zero_add, ← Array.getElem?_toList, hc]
  simp [cellsOf, hj]

/-- The text of bytes. -/
def strOf (bs : List UInt8) : ByteArray := ⟨bs.toArray⟩
theorem strOf_beq (a b : List UInt8) : ((strOf a).toList == (strOf b).toList) = decide (a = b) := by
  rw [ByteArray.toList_eq, ByteArray.toList_eq, Bool.eq_iff_iff]
  simp [strOf]
theorem foldl_push_u8 : ∀ (bs : List UInt8) (s : ByteArray), (bs.map fun b => (b.toNat : Int)).foldl (fun r n => r.push (UInt8.ofNat n.toNat)) s = ⟨s.data ++ bs.toArray⟩
  | [], s => by simp
  | b :: bs, s => by
    rw [List.map_cons, List.foldl_cons, foldl_push_u8 bs]
    simp [ByteArray.push]
/-- 'string(b)'. -/
theorem run_string_bytes {P : Program} {w : World} {A : Option Addr} {cap : Nat} {bs : List UInt8} (h : Bs w A cap bs) {src dst e : TypeId}
    (hs : P.underlying src = some (.slice e)) (he : P.underlying e = some (.int .u8)) (hd : P.underlying dst = some .string) :
    (convert src dst (.slice A bs.length cap)).run P w = .ok (.string (strOf bs)) w := by
  rcases A with _ | a
  · have h0 := h.nil rfl
    have hle := h.le
    have : bs = [] := List.eq_nil_of_length_eq_zero (by omega)
    subst this
    exact run_convert_bytes_nil w src e hs he _ _ dst hd
  · have hl : (loadCells a bs.length).run P w = .ok ((bs.map fun b => (b.toNat : Int)).map (Value.int .u8)).toArray w := by
      have h2 := run_loadCells_list (P := P) w a ((bs.map fun b => (b.toNat : Int)).map (Value.int .u8)) (fun j v hj => by
        simp only [List.getElem?_map, Option.map_eq_some_iff] at hj
        obtain ⟨n, ⟨c, hc, rfl⟩, rfl⟩ := hj
        obtain ⟨b, off, ea, hcell⟩ := h.at_ j c hc
        cases ea
        have hplain : (⟨b, off, none⟩ : Addr).add j = ⟨b, off + j, none⟩ := by unfold Addr.add; split <;> simp_all
        rw [hplain]; exact hcell)
      simpa using h2
    rw [run_convert_bytes_string w src dst e _ _ _ hs he hd, run_bytesToString w _ _ _ _ hl, foldl_push_u8]
    simp [strOf, ByteArray.empty, ByteArray.emptyWithCapacity]
    rfl

/-- 'append(out, b...)', out the call's own, b whatever bytes. -/
theorem wpList_append_bs {P : Program} {w : World} {ops : Array Oper} {rest : List Oper} {o : Oper} {a : Act} {Q : Exit → Act → World → Prop} (hgd : o.guard = none) (s x : Operand) (t : TypeId)
    (ho : o.op = .call { callee := .builtin .append, args := #[s, x], argTypes := #[t, t] })
    (base : Nat) (e : TypeId) (i : TypeInfo) (ht : P.underlying t = some (.slice e)) (hi : P.info? e = some i) (hz : i.zero = some (.int .u8 0)) (hsize : i.size = 1) (hby : i.bytes = 1)
    (v : Value) (n : Nat) (pre : List UInt8) (hs : a.eval s = v) (hown : w.ownsRow base e 1 v n (cellsOf pre))
    (A : Option Addr) (m c : Nat) (bs : List UInt8) (hx : a.eval x = .slice A m c) (hm : m = bs.length) (hb : Bs w A c bs)
    (h47 : pre.length + bs.length ≤ 140737488355328) (hbase : base ≤ w.heap.size)
    (h : ∀ v' w', w'.ownsRow base e 1 v' (pre.length + bs.length) (cellsOf (pre ++ bs)) → w.grownBy w' v.ownBlock → wpList P ops Q rest (a.put o.dst v') w') : wpList P ops Q (o :: rest) a w := by
  subst hm
  obtain ⟨hn, _⟩ := Bs.own hown
  subst hn
  rcases A with _ | ad
  · have h0 := hb.nil rfl
    have hle := hb.le
    have hbs : bs = [] := List.eq_nil_of_length_eq_zero (by omega)
    subst hbs h0
    refine wpList_plain hgd fun K hK' => ?_
    have hrun := run_append_owned_none (P := P) w base t o.type e i 1 ht hi v pre.length (cellsOf pre) hown
    unfold Oper.wp
    simp [execOp, ho, resolve, invoke, builtin, hs, hx, hrun, Result.andThen]
    exact hK' _ _ (h v w (by simpa using hown) (World.grownBy.refl _ _))
  · exact wpList_append_own w hgd s x t ho base e i (.int .u8 0) 1 1 ht hi hz hsize hby rfl (by decide) v pre.length (cellsOf pre) hs hown ad bs.length c (cellsOf bs) hx
      (by rw [cellsOf_length]; omega) (fun j u hu => by
        obtain ⟨b, hbj, rfl⟩ := cellsOf_get hu
        obtain ⟨bl, off, ea, hcell⟩ := hb.at_ j b hbj
        cases ea
        have hplain : (⟨bl, off, none⟩ : Addr).add j = ⟨bl, off + j, none⟩ := by unfold Addr.add; split <;> simp_all
        rw [hplain]; exact hcell) (cellsOf_one bs) (by unfold maxLen; omega) (by omega) hbase (fun v' w' h1 h2 _ => h v' w' (by rw [cellsOf_append]; exact h1) h2)

/-- The slice value '.slice A cs.length cap' reads as these cells (of elements of one cell each). -/
structure Sl (w : World) (A : Option Addr) (cap : Nat) (cs : List Value) : Prop where
  le : cs.length ≤ cap
  max : cap ≤ maxLen
  nil : A = none → cap = 0
  at_ : ∀ j u, cs[j]? = some u → ∃ b off, A = some ⟨b, off, none⟩ ∧ w.cell? ⟨b, off + j, none⟩ = some u

section
variable {w w' : World} {A : Option Addr} {cap : Nat} {cs : List Value}
theorem Sl.keep (h : Sl w A cap cs) (hk : ∀ p : Addr, p.block < w.heap.size → w'.cell? p = w.cell? p) : Sl w' A cap cs :=
  ⟨h.le, h.max, h.nil, fun j c hj => by
    obtain ⟨b, off, e, hc⟩ := h.at_ j c hj
    exact ⟨b, off, e, (hk _ (World.block_lt_of_cell? w _ hc)).trans hc⟩⟩
theorem Sl.below (h : Sl w A cap cs) {B : Nat} (hb : Below B w w') (hB : w.heap.size ≤ B) : Sl w' A cap cs := h.keep fun _ hp => hb.cell (by omega)
theorem Sl.alloc (h : Sl w A cap cs) (o : Obj) : Sl (w.alloc o) A cap cs := h.keep fun p hp => World.cell?_alloc_lt w o p hp
theorem Sl.lt (h : Sl w A cap cs) {j : Nat} (hj : j < cs.length) : ∃ b off, A = some ⟨b, off, none⟩ ∧ w.cell? ⟨b, off + j, none⟩ = some cs[j] :=
  h.at_ j _ (List.getElem?_eq_getElem hj)
theorem Sl.own {base : Nat} {e : TypeId} {v : Value} {n : Nat} (h : w.ownsRow base e 1 v n cs) : n = cs.length ∧ ∃ A cap, v = .slice A cs.length cap ∧ Sl w A cap cs := by
  have hn : n = cs.length := by have := h.1; omega
  subst hn
  refine ⟨rfl, ?_⟩
  rcases h.2 with ⟨rfl, h0⟩ | ⟨g, cap, cur, rfl, hb, hh, hle, hm, hs, ht⟩
  · refine ⟨none, 0, by rw [h0], by omega, by decide, fun _ => rfl, fun j c hj => ?_⟩
    have := (List.getElem?_eq_some_iff.1 hj).1
    omega
  · refine ⟨_, cap, rfl, hle, hm, (fun h => by cases h), fun j c hj => ⟨g, 0, rfl, ?_⟩⟩
    have hlt := (List.getElem?_eq_some_iff.1 hj).1
    have := h.cellAt (g := g) j (by omega)
    rw [Nat.zero_add, this]
    exact hj
end

/-! ### What came in -/
theorem bs_nil (w : World) : Bs w none 0 [] := ⟨Nat.le_refl _, by decide, fun _ => rfl, fun j c hj => by simp at hj⟩
theorem sl_nil (w : World) : Sl w none 0 [] := ⟨Nat.le_refl _, by decide, fun _ => rfl, fun j c hj => by simp at hj⟩

/-- The cells of numbers of 64 bits. -/
def u64s (ns : List Nat) : List Value := ns.map fun (n : Nat) => Value.int .u64 (n : Int)
theorem u64s_length (ns : List Nat) : (u64s ns).length = ns.length := by simp [u64s]
theorem bel_trans {w w1 w2 : World} (h1 : Below w.heap.size w w1) (h2 : Below w1.heap.size w1 w2) : Below w.heap.size w w2 := h1.trans (h2.mono h1.size)
/-- What the call owns stays owned while a callee makes memory of its own. -/
theorem own_below {w w1 : World} {base : Nat} {e : TypeId} {size n : Nat} {v : Value} {xs : List Value} (h : w.ownsRow base e size v n xs) (hb : Below w.heap.size w w1) : w1.ownsRow base e size v n xs :=
  h.kept (row := none) ⟨hb.os, hb.tape, hb.output, hb.size, fun k hk _ => hb.block k hk⟩ (by cases hv : v.ownBlock <;> simp)

theorem u8_nat {a : Nat} (h : a < 256) : (a.toUInt8).toNat = a := by
  simp [Nat.toUInt8]; omega

end Go.Proofs.YtpfdnggacpehdaaGreatDoor

/- Layer 9 in plain words (no program here): names, lists that rise, lists in which nothing is there twice. -/
namespace Go.Proofs.YtpfdnggacpehdaaGreatDoor
set_option linter.unusedVariables false

/-- Is one text ahead of another, byte by byte? -/
def ahead : List UInt8 → List UInt8 → Bool
  | _, [] => false
  | [], _ :: _ => true
  | a :: r, b :: q => if a.toNat < b.toNat then true else if b.toNat < a.toNat then false else ahead r q
def riseB : List (List UInt8) → Bool
  | [] => true
  | [_] => true
  | a :: b :: r => ahead a b && riseB (b :: r)
/-- Is none there twice? -/
def onceB : List (List UInt8) → Bool
  | [] => true
  | a :: r => !(r.contains a) && onceB r
end Go.Proofs.YtpfdnggacpehdaaGreatDoor

/- Numbers that came in lie between the bounds of their types (no program here). -/
namespace Go.Proofs.YtpfdnggacpehdaaGreatDoor
open Go.RowKit

theorem i64_came {a : Int} (h : (Lit.int .i64 a).wf = true) : -9223372036854775808 ≤ a ∧ a < 9223372036854775808 := by
  have h1 : IntKind.i64.min = -9223372036854775808 := rfl
  have h2 : IntKind.i64.max = 9223372036854775807 := rfl
  simp only [Lit.wf, Bool.and_eq_true, decide_eq_true_eq] at h
  omega
theorem ret_int' {k : IntKind} {a b : Int} (h : a = b) : Ending.returned (.int k a) = .returned (.int k b) := by rw [h]
theorem ret_bool' {a b : Bool} (h : a = b) : Ending.returned (.bool a) = .returned (.bool b) := by rw [h]
end Go.Proofs.YtpfdnggacpehdaaGreatDoor

/- What stands ahead of a field, as plain functions (no program here). -/
namespace Go.Proofs.YtpfdnggacpehdaaGreatDoor

def isWire (t : Int) : Bool := t == 0 || (t == 1 || (t == 2 || t == 5))
def numOk (n : Int) : Bool := decide (1 ≤ n ∧ n ≤ 536870911)
def rightB (n t : Int) : Bool := numOk n && isWire t
def tagN (n t : Int) : Nat := if rightB n t = true then (8 * n + t).toNat else 0
def splitOk (u : Nat) : Bool := rightB (u / 8 : Nat) (u % 8 : Nat)
def splitN (u : Nat) : Nat := if splitOk u = true then u / 8 else 0
def splitW (u : Nat) : Nat := if splitOk u = true then u % 8 else 0
def fieldB (n : Int) : Bool := numOk n && decide (n < 19000 ∨ 19999 < n)

theorem isWire_iff (t : Int) : isWire t = true ↔ (t = 0 ∨ t = 1 ∨ t = 2 ∨ t = 5) := by simp [isWire]
theorem numOk_iff (n : Int) : numOk n = true ↔ (1 ≤ n ∧ n ≤ 536870911) := by simp [numOk]
theorem rightB_iff (n t : Int) : rightB n t = true ↔ (1 ≤ n ∧ n ≤ 536870911) ∧ (t = 0 ∨ t = 1 ∨ t = 2 ∨ t = 5) := by
  rw [rightB, Bool.and_eq_true, numOk_iff, isWire_iff]
theorem tagN_lt (n t : Int) : tagN n t < 4294967296 := by
  unfold tagN; split
  · rename_i h; rw [rightB_iff] at h; omega
  · omega
theorem tag_split (u : Nat) (h : splitOk u = true) : tagN (splitN u) (splitW u) = u := by
  have h2 := h
  unfold splitOk at h2
  rw [splitN, splitW, if_pos h, if_pos h, tagN, if_pos h2]
  omega
theorem right_split (u : Nat) : rightB (splitN u) (splitW u) = splitOk u := by
  cases h : splitOk u with
  | true => have h2 := h; unfold splitOk at h2; rw [splitN, splitW, if_pos h, if_pos h, h2]
  | false => rw [splitN, splitW, h, if_neg (by simp), if_neg (by simp)]; rfl
theorem split_tag (n t : Int) (h : rightB n t = true) : splitOk (tagN n t) = true ∧ (splitN (tagN n t) : Int) = n ∧ (splitW (tagN n t) : Int) = t := by
  have h2 := h
  rw [rightB_iff] at h2
  have e : tagN n t = (8 * n + t).toNat := by rw [tagN, if_pos h]
  have e1 : ((tagN n t / 8 : Nat) : Int) = n := by rw [e]; omega
  have e2 : ((tagN n t % 8 : Nat) : Int) = t := by rw [e]; omega
  have h3 : splitOk (tagN n t) = true := by unfold splitOk; rw [e1, e2, h]
  refine ⟨h3, ?_, ?_⟩
  · rw [splitN, if_pos h3, e1]
  · rw [splitW, if_pos h3, e2]
end Go.Proofs.YtpfdnggacpehdaaGreatDoor

/- What a call that makes bytes answers: a slice that reads as them, in memory of its own. Conditions: those that each theorem names. -/
namespace Go.Proofs.YtpfdnggacpehdaaGreatDoor
open Go.RowKit

theorem info_u8 : (Tryz.prog.info? 5).map (fun i => (i.zero, i.size, i.bytes)) = some (some (.int .u8 0), 1, 1) := by kernel_rfl

/-- What a call that makes bytes answers. -/
def Gives (w : World) (bs : List UInt8) (e : Ending) (w' : World) : Prop :=
  ∃ A cap, e = .returned (.slice A bs.length cap) ∧ Bs w' A cap bs ∧ Below w.heap.size w w'

theorem gives_own {w w' : World} {v : Value} {bs : List UInt8} {base n : Nat} {t : TypeId} (h : w'.ownsRow base t 1 v n (cellsOf bs)) (hb : Below w.heap.size w w') : Gives w bs (.returned v) w' := by
  obtain ⟨_, A, cap, rfl, hB⟩ := Bs.own h
  exact ⟨A, cap, rfl, hB, hb⟩

theorem own0 (w : World) : (w.alloc (.cells #[] 5)).ownsRow w.heap.size 5 1 (.slice (some ⟨w.heap.size, 0, none⟩) 0 0) 0 (cellsOf []) :=
  World.ownsRow_made w #[] 0 (Nat.le_refl _) (by decide) rfl
end Go.Proofs.YtpfdnggacpehdaaGreatDoor

/- tag.Right: what it returns, for every input; the world is as it was. -/
namespace Go.Proofs.YtpfdnggacpehdaaGreatDoor
open Go.RowKit
set_option linter.unusedVariables false
set_option maxRecDepth 100000

theorem numbered_any (n : Int) (w : World) :
    Calls Tryz.prog 158 #[.int .i64 n] w fun e w' => e = .returned (.bool (numOk n)) ∧ w = w' := by
  by_cases h1 : 1 ≤ n
  · have HF : Hid (decide (n ≤ 536870911) = numOk n) := by show _ = _; simp [numOk, h1]
    have g1 : decide (1 ≤ n) = true := decide_eq_true h1
    go_enter Tryz.func158, Tryz.ntmps158
    go_wp2
    go_ret
    exact ⟨ret_bool' HF.out, rfl⟩
  · have HF : Hid (false = numOk n) := by show _ = _; simp [numOk, h1]
    have g1 : decide (1 ≤ n) = false := decide_eq_false h1
    go_enter Tryz.func158, Tryz.ntmps158
    go_wp2
    go_ret
    exact ⟨ret_bool' HF.out, rfl⟩
theorem known_any (t : Int) (w : World) :
    Calls Tryz.prog 159 #[.int .i64 t] w fun e w' => e = .returned (.bool (isWire t)) ∧ w = w' := by
  go_enter Tryz.func159, Tryz.ntmps159
  go_wp2
  all_goals go_ret
  all_goals exact ⟨ret_bool' (by simp only [isWire, *, Bool.true_or, Bool.or_true, Bool.or_false]), rfl⟩
theorem right_any (n t : Int) (w : World) :
    Calls Tryz.prog 137 #[.int .i64 n, .int .i64 t] w fun e w' => e = .returned (.bool (rightB n t)) ∧ w = w' := by
  have H1 := Lib.hid (fun w => numbered_any n w)
  have H2 := Lib.hid (fun w => known_any t w)
  have HF : Hid (rightB n t = (numOk n && isWire t)) := rfl
  generalize rightB n t = r at *
  generalize numOk n = p at *
  generalize isWire t = q at *
  cases p
  all_goals
    go_enter Tryz.func137, Tryz.ntmps137
    go_wp2_with (first
      | (go_at_call 158; refine (H1.out _).mono ?_; rintro e w' ⟨rfl, rfl⟩)
      | (go_at_call 159; refine (H2.out _).mono ?_; rintro e w' ⟨rfl, rfl⟩))
    go_ret
    exact ⟨ret_bool' (by rw [HF.out]; rfl), rfl⟩
end Go.Proofs.YtpfdnggacpehdaaGreatDoor

/- tag.Split: what it returns, for every input; the world is as it was. -/
namespace Go.Proofs.YtpfdnggacpehdaaGreatDoor
open Go.RowKit
set_option linter.unusedVariables false
set_option maxRecDepth 100000

theorem split_any (u : Nat) (w : World) (h : u < 18446744073709551616) :
    Calls Tryz.prog 105 #[.int .u64 (u : Int)] w fun e w' => e = .returned (.tuple #[.int .i64 (splitN u : Int), .int .i64 (splitW u : Int), .bool (splitOk u)]) ∧ w = w' := by
  obtain ⟨n, hn⟩ : ∃ n, n = u / 8 := ⟨_, rfl⟩
  obtain ⟨t, ht⟩ : ∃ t, t = u % 8 := ⟨_, rfl⟩
  have e1 : (u : Int) / 8 = (n : Int) := by omega
  have e2 : (u : Int) % 8 = (t : Int) := by omega
  have hn2 : n < 2305843009213693952 := by omega
  have ht2 : t < 8 := by omega
  have H1 : Hid (∀ w, Calls Tryz.prog 137 #[.int .i64 (n : Int), .int .i64 (t : Int)] w fun e w' => e = .returned (.bool (splitOk u)) ∧ w = w') := by
    show ∀ w, _; intro w; rw [splitOk, ← hn, ← ht]; exact right_any n t w
  have HN : Hid (splitN u = if splitOk u = true then n else 0) := by show _ = _; rw [splitN, ← hn]
  have HW : Hid (splitW u = if splitOk u = true then t else 0) := by show _ = _; rw [splitW, ← ht]
  have HO : Hid (536870911 < n → splitOk u = false) := by
    show _ → _; intro hm; rw [← Bool.not_eq_true]; intro hc; rw [splitOk, rightB_iff] at hc; omega
  clear hn ht
  generalize splitOk u = ok at *
  generalize splitN u = sn at *
  generalize splitW u = sw at *
  by_cases hm : n ≤ 536870911
  · have g1 : decide ((536870911 : Int) < (n : Int)) = false := decide_eq_false (by omega)
    cases ok
    all_goals
      go_enter Tryz.func105, Tryz.ntmps105
      go_wp2_with (refine (H1.out _).mono ?_; rintro e w' ⟨rfl, rfl⟩)
      go_ret3
      exact ⟨by rw [HN.out, HW.out]; rfl, rfl⟩
  · have g1 : decide ((536870911 : Int) < (n : Int)) = true := decide_eq_true (by omega)
    obtain rfl := HO.out (by omega)
    go_enter Tryz.func105, Tryz.ntmps105
    go_wp2
    go_ret3
    exact ⟨by rw [HN.out, HW.out]; rfl, rfl⟩
end Go.Proofs.YtpfdnggacpehdaaGreatDoor
