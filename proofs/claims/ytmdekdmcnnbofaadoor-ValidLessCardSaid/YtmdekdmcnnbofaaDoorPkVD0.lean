/- Several texts in one: Bytes, Ints, Strs, TagMath, SlApp, TagR, TagRR. What each proves, and its conditions, stands at its own head. -/
import Derived.Below
import Derived.Laws.OwnMore
import Derived.Maps.AppendAt
import Derived.Lib.Hide
import Derived.Carry
import Derived.Laws.BytesArg
import Derived.OwnWalk
import Derived.Test.YtmdekdmcnnbofaaDoorChecked
import Derived.WalkKit
import Derived.RowKitTokens
/- Words for memory (no program here): what it means that a slice value reads as a list of bytes in a world, and that this is kept. Conditions: none but those that each theorem names. -/
namespace Go.Proofs.YtmdekdmcnnbofaaDoor
open Go.RowKit

/-- The cells of bytes. -/
def cellsOf (bs : List UInt8) : List Value := bs.map fun b => Value.int .u8 (b.toNat : Int)
theorem cellsOf_length (bs : List UInt8) : (cellsOf bs).length = bs.length := by simp [cellsOf]
/-- The slice value '.slice A bs.length cap' reads as the bytes bs in the world w. -/
structure Bs (w : World) (A : Option Addr) (cap : Nat) (bs : List UInt8) : Prop where
  le : bs.length ≤ cap
  max : cap ≤ maxLen
  nil : A = none → cap = 0
  at_ : ∀ j c, bs[j]? = some c → ∃ b off, A = some ⟨b, off, none⟩ ∧ w.cell? ⟨b, off + j, none⟩ = some (.int .u8 (c.toNat : Int))

section
variable {w w' : World} {A : Option Addr} {cap : Nat} {bs : List UInt8}
theorem Bs.keep (h : Bs w A cap bs) (hk : ∀ p : Addr, p.block < w.heap.size → w'.cell? p = w.cell? p) : Bs w' A cap bs :=
  ⟨h.le, h.max, h.nil, fun j c hj => by
    obtain ⟨b, off, e, hc⟩ := h.at_ j c hj
    exact ⟨b, off, e, (hk _ (World.block_lt_of_cell? w _ hc)).trans hc⟩⟩
theorem Bs.below (h : Bs w A cap bs) {B : Nat} (hb : Below B w w') (hB : w.heap.size ≤ B) : Bs w' A cap bs := h.keep fun _ hp => hb.cell (by omega)
theorem Bs.alloc (h : Bs w A cap bs) (o : Obj) : Bs (w.alloc o) A cap bs := h.keep fun p hp => World.cell?_alloc_lt w o p hp
theorem Bs.drew (h : Bs w A cap bs) : Bs w.drew A cap bs := ⟨h.le, h.max, h.nil, h.at_⟩
theorem Bs.lt (h : Bs w A cap bs) {j : Nat} (hj : j < bs.length) : ∃ b off, A = some ⟨b, off, none⟩ ∧ w.cell? ⟨b, off + j, none⟩ = some (.int .u8 (bs[j].toNat : Int)) :=
  h.at_ j _ (List.getElem?_eq_getElem hj)
/-- The first bytes. -/
theorem Bs.take (h : Bs w A cap bs) (k : Nat) : Bs w A cap (bs.take k) :=
  ⟨by have := h.le; simp; omega, h.max, h.nil, fun j c hj => h.at_ j c (by
    rw [List.getElem?_take] at hj
    split at hj
    · exact hj
    · cases hj)⟩
/-- What the call owns reads so. -/
theorem Bs.own {base : Nat} {e : TypeId} {v : Value} {n : Nat} (h : w.ownsRow base e 1 v n (cellsOf bs)) : n = bs.length ∧ ∃ A cap, v = .slice A bs.length cap ∧ Bs w A cap bs := by
  have hn : n = bs.length := by have := h.1; rw [cellsOf_length] at this; omega
  subst hn
  refine ⟨rfl, ?_⟩
  rcases h.2 with ⟨rfl, h0⟩ | ⟨g, cap, cur, rfl, hb, hh, hle, hm, hs, ht⟩
  · refine ⟨none, 0, by rw [h0], by omega, by decide, fun _ => rfl, fun j c hj => ?_⟩
    have := (List.getElem?_eq_some_iff.1 hj).1
    omega
  · refine ⟨_, cap, rfl, hle, hm, (fun h => by cases h), fun j c hj => ⟨g, 0, rfl, ?_⟩⟩
    have hlt := (List.getElem?_eq_some_iff.1 hj).1
    have := h.cellAt (g := g) j (by omega)
    rw [Nat.zero_add, this]
    simp [cellsOf, hj]
end

/-- A slice literal of bytes. -/
theorem Bs.lit (w : World) (cs : Array Value) (t : TypeId) (bs : List UInt8) (hc : cs.toList = cellsOf bs) (hm : bs.length ≤ maxLen) :
    Bs (w.alloc (.cells cs t)) (some ⟨w.heap.size, 0, none⟩) bs.length bs := by
  refine ⟨Nat.le_refl _, hm, (fun h => by cases h), fun j c hj => ⟨_, _, rfl, ?_⟩⟩
  rw [cell_of_row _ w.heap.size (0 + j) cs t (0, 0) (heap_alloc_new w _), Nat.zero_add, ← Array.getElem?_toList, hc]
  simp [cellsOf, hj]

/-- The text of bytes. -/
def strOf (bs : List UInt8) : ByteArray := ⟨bs.toArray⟩
theorem strOf_beq (a b : List UInt8) : ((strOf a).toList == (strOf b).toList) = decide (a = b) := by
  rw [ByteArray.toList_eq, ByteArray.toList_eq, Bool.eq_iff_iff]
  simp [strOf]
/-- The slice value '.slice A cs.length cap' reads as these cells (of elements of one cell each). -/
structure Sl (w : World) (A : Option Addr) (cap : Nat) (cs : List Value) : Prop where
  le : cs.length ≤ cap
  max : cap ≤ maxLen
  nil : A = none → cap = 0
  at_ : ∀ j u, cs[j]? = some u → ∃ b off, A = some ⟨b, off, none⟩ ∧ w.cell? ⟨b, off + j, none⟩ = some u

section
variable {w w' : World} {A : Option Addr} {cap : Nat} {cs : List Value}
theorem Sl.keep (h : Sl w A cap cs) (hk : ∀ p : Addr, p.block < w.heap.size → w'.cell? p = w.cell? p) : Sl w' A cap cs :=
  ⟨h.le, h.max, h.nil, fun j c hj => by
    obtain ⟨b, off, e, hc⟩ := h.at_ j c hj
    exact ⟨b, off, e, (hk _ (World.block_lt_of_cell? w _ hc)).trans hc⟩⟩
theorem Sl.below (h : Sl w A cap cs) {B : Nat} (hb : Below B w w') (hB : w.heap.size ≤ B) : Sl w' A cap cs := h.keep fun _ hp => hb.cell (by omega)
theorem Sl.alloc (h : Sl w A cap cs) (o : Obj) : Sl (w.alloc o) A cap cs := h.keep fun p hp => World.cell?_alloc_lt w o p hp
theorem Sl.lt (h : Sl w A cap cs) {j : Nat} (hj : j < cs.length) : ∃ b off, A = some ⟨b, off, none⟩ ∧ w.cell? ⟨b, off + j, none⟩ = some cs[j] :=
  h.at_ j _ (List.getElem?_eq_getElem hj)
theorem Sl.own {base : Nat} {e : TypeId} {v : Value} {n : Nat} (h : w.ownsRow base e 1 v n cs) : n = cs.length ∧ ∃ A cap, v = .slice A cs.length cap ∧ Sl w A cap cs := by
  have hn : n = cs.length := by have := h.1; omega
  subst hn
  refine ⟨rfl, ?_⟩
  rcases h.2 with ⟨rfl, h0⟩ | ⟨g, cap, cur, rfl, hb, hh, hle, hm, hs, ht⟩
  · refine ⟨none, 0, by rw [h0], by omega, by decide, fun _ => rfl, fun j c hj => ?_⟩
    have := (List.getElem?_eq_some_iff.1 hj).1
    omega
  · refine ⟨_, cap, rfl, hle, hm, (fun h => by cases h), fun j c hj => ⟨g, 0, rfl, ?_⟩⟩
    have hlt := (List.getElem?_eq_some_iff.1 hj).1
    have := h.cellAt (g := g) j (by omega)
    rw [Nat.zero_add, this]
    exact hj
end

/-! ### What came in -/
theorem plain_addr {w : World} {x : Addr} {v : Value} (h : w.cell? (x.add 0) = some v) : ∃ b off, x = ⟨b, off, none⟩ ∧ ∀ j, x.add j = ⟨b, off + j, none⟩ := by
  obtain ⟨b, off, spot⟩ := x
  have hs := World.cell?_spot h
  have hspot : spot = none := by simpa [Addr.add] using hs
  subst hspot
  exact ⟨b, off, rfl, fun j => by unfold Addr.add; split <;> simp_all⟩

theorem u64_came {a : Int} (h : (Lit.int .u64 a).wf = true) : ∃ n : Nat, a = (n : Int) ∧ n < 18446744073709551616 := by
  have h1 : IntKind.u64.min = 0 := rfl
  have h2 : IntKind.u64.max = 18446744073709551615 := rfl
  simp only [Lit.wf, Bool.and_eq_true, decide_eq_true_eq] at h
  exact ⟨a.toNat, by omega, by omega⟩
/-- What the call owns stays owned while a callee makes memory of its own. -/
theorem own_below {w w1 : World} {base : Nat} {e : TypeId} {size n : Nat} {v : Value} {xs : List Value} (h : w.ownsRow base e size v n xs) (hb : Below w.heap.size w w1) : w1.ownsRow base e size v n xs :=
  h.kept (row := none) ⟨hb.os, hb.tape, hb.output, hb.size, fun k hk _ => hb.block k hk⟩ (by cases hv : v.ownBlock <;> simp)

end Go.Proofs.YtmdekdmcnnbofaaDoor

/- Numbers that came in lie between the bounds of their types (no program here). -/
namespace Go.Proofs.YtmdekdmcnnbofaaDoor
open Go.RowKit

theorem i64_came {a : Int} (h : (Lit.int .i64 a).wf = true) : -9223372036854775808 ≤ a ∧ a < 9223372036854775808 := by
  have h1 : IntKind.i64.min = -9223372036854775808 := rfl
  have h2 : IntKind.i64.max = 9223372036854775807 := rfl
  simp only [Lit.wf, Bool.and_eq_true, decide_eq_true_eq] at h
  omega
theorem ret_int' {k : IntKind} {a b : Int} (h : a = b) : Ending.returned (.int k a) = .returned (.int k b) := by rw [h]
theorem ret_bool' {a b : Bool} (h : a = b) : Ending.returned (.bool a) = .returned (.bool b) := by rw [h]
end Go.Proofs.YtmdekdmcnnbofaaDoor

/- Lists of texts that came in (no program here). -/
namespace Go.Proofs.YtmdekdmcnnbofaaDoor
open Go.RowKit

/-- The cells of texts. -/
def txts (ts : List (List UInt8)) : List Value := ts.map fun t => Value.string (strOf t)
theorem txts_length (ts : List (List UInt8)) : (txts ts).length = ts.length := by simp [txts]
end Go.Proofs.YtmdekdmcnnbofaaDoor

/- What stands ahead of a field, as plain functions (no program here). -/
namespace Go.Proofs.YtmdekdmcnnbofaaDoor

def isWire (t : Int) : Bool := t == 0 || (t == 1 || (t == 2 || t == 5))
def numOk (n : Int) : Bool := decide (1 ≤ n ∧ n ≤ 536870911)
def rightB (n t : Int) : Bool := numOk n && isWire t
end Go.Proofs.YtmdekdmcnnbofaaDoor

/- append onto a row of texts of the call's own: whatever list of texts. Conditions: those that each theorem names. -/
namespace Go.Proofs.YtmdekdmcnnbofaaDoor
open Go.RowKit
set_option linter.unusedVariables false

theorem info_str : (Tryd.prog.info? 9).map (fun i => (i.zero, i.size, i.bytes)) = some (some (.string ByteArray.empty), 1, 16) := by kernel_rfl
theorem info_str_parts : ∃ i, Tryd.prog.info? 9 = some i ∧ i.zero = some (.string ByteArray.empty) ∧ i.size = 1 ∧ i.bytes = 16 := by
  have h := info_str
  cases hi : Tryd.prog.info? 9 with
  | none => rw [hi] at h; simp at h
  | some i =>
    rw [hi] at h
    simp only [Option.map_some, Option.some.injEq, Prod.mk.injEq] at h
    exact ⟨i, rfl, h.1, h.2.1, h.2.2⟩
theorem txts_append (a b : List (List UInt8)) : txts (a ++ b) = txts a ++ txts b := by simp [txts]
theorem txts_one (ts : List (List UInt8)) : ∀ u ∈ txts ts, u.oneCell' = true := by
  intro u hu
  obtain ⟨_, _, rfl⟩ := List.mem_map.1 hu
  rfl
theorem wpList_append_sl {w : World} {ops : Array Oper} {rest : List Oper} {o : Oper} {a : Act} {Q : Exit → Act → World → Prop} (hgd : o.guard = none) (s x : Operand)
    (ho : o.op = .call { callee := .builtin .append, args := #[s, x], argTypes := #[70, 70] })
    (base : Nat) (v : Value) (n : Nat) (pre : List (List UInt8)) (hs : a.eval s = v) (hown : w.ownsRow base 9 1 v n (txts pre))
    (A : Option Addr) (m c : Nat) (bs : List (List UInt8)) (hx : a.eval x = .slice A m c) (hm : m = bs.length) (hb : Sl w A c (txts bs))
    (h47 : pre.length + bs.length ≤ 1000000) (hbase : base ≤ w.heap.size)
    (h : ∀ v' w', w'.ownsRow base 9 1 v' (pre.length + bs.length) (txts (pre ++ bs)) → w.grownBy w' v.ownBlock → wpList Tryd.prog ops Q rest (a.put o.dst v') w') : wpList Tryd.prog ops Q (o :: rest) a w := by
  obtain ⟨i, hi, hz, hsize, hby⟩ := info_str_parts
  subst hm
  obtain ⟨hn, _⟩ := Sl.own hown
  rw [txts_length] at hn
  subst hn
  rcases A with _ | ad
  · have h0 := hb.nil rfl
    have hle := hb.le
    rw [txts_length] at hle
    have hbs : bs = [] := List.eq_nil_of_length_eq_zero (by omega)
    subst hbs h0
    refine wpList_plain hgd fun K hK' => ?_
    have hrun := run_append_owned_none (P := Tryd.prog) w base 70 o.type 9 i 1 Tryd.underlying70 hi v pre.length (txts pre) hown
    unfold Oper.wp
    simp [execOp, ho, resolve, invoke, builtin, hs, hx, hrun, Result.andThen]
    exact hK' _ _ (h v w (by simpa using hown) (World.grownBy.refl _ _))
  · exact wpList_append_own w hgd s x 70 ho base 9 i (.string ByteArray.empty) 1 16 Tryd.underlying70 hi hz hsize hby rfl (by decide) v pre.length (txts pre) hs hown ad bs.length c (txts bs) hx
      (by rw [txts_length]; omega) (fun j u hu => by
        obtain ⟨bl, off, ea, hcell⟩ := hb.at_ j u hu
        cases ea
        have hplain : (⟨bl, off, none⟩ : Addr).add j = ⟨bl, off + j, none⟩ := by unfold Addr.add; split <;> simp_all
        rw [hplain]; exact hcell) (txts_one bs) (by unfold maxLen; omega) (by omega) hbase (fun v' w' h1 h2 _ => h v' w' (by rw [txts_append]; exact h1) h2)
end Go.Proofs.YtmdekdmcnnbofaaDoor

/- tag.Right: what it returns, for every input; the world is as it was. -/
namespace Go.Proofs.YtmdekdmcnnbofaaDoor
open Go.RowKit
set_option linter.unusedVariables false
set_option maxRecDepth 100000

theorem numbered_any (n : Int) (w : World) :
    Calls Tryd.prog 64 #[.int .i64 n] w fun e w' => e = .returned (.bool (numOk n)) ∧ w = w' := by
  by_cases h1 : 1 ≤ n
  · have HF : Hid (decide (n ≤ 536870911) = numOk n) := by show _ = _; simp [numOk, h1]
    have g1 : decide (1 ≤ n) = true := decide_eq_true h1
    go_enter Tryd.func64, Tryd.ntmps64
    go_wp2
    go_ret
    exact ⟨ret_bool' HF.out, rfl⟩
  · have HF : Hid (false = numOk n) := by show _ = _; simp [numOk, h1]
    have g1 : decide (1 ≤ n) = false := decide_eq_false h1
    go_enter Tryd.func64, Tryd.ntmps64
    go_wp2
    go_ret
    exact ⟨ret_bool' HF.out, rfl⟩
theorem known_any (t : Int) (w : World) :
    Calls Tryd.prog 65 #[.int .i64 t] w fun e w' => e = .returned (.bool (isWire t)) ∧ w = w' := by
  go_enter Tryd.func65, Tryd.ntmps65
  go_wp2
  all_goals go_ret
  all_goals exact ⟨ret_bool' (by simp only [isWire, *, Bool.true_or, Bool.or_true, Bool.or_false]), rfl⟩
theorem right_any (n t : Int) (w : World) :
    Calls Tryd.prog 44 #[.int .i64 n, .int .i64 t] w fun e w' => e = .returned (.bool (rightB n t)) ∧ w = w' := by
  have H1 := Lib.hid (fun w => numbered_any n w)
  have H2 := Lib.hid (fun w => known_any t w)
  have HF : Hid (rightB n t = (numOk n && isWire t)) := rfl
  generalize rightB n t = r at *
  generalize numOk n = p at *
  generalize isWire t = q at *
  cases p
  all_goals
    go_enter Tryd.func44, Tryd.ntmps44
    go_wp2_with (first
      | (go_at_call 64; refine (H1.out _).mono ?_; rintro e w' ⟨rfl, rfl⟩)
      | (go_at_call 65; refine (H2.out _).mono ?_; rintro e w' ⟨rfl, rfl⟩))
    go_ret
    exact ⟨ret_bool' (by rw [HF.out]; rfl), rfl⟩
end Go.Proofs.YtmdekdmcnnbofaaDoor

/- The document's Right: what it returns, for every input; the world is as it was. -/
namespace Go.Proofs.YtmdekdmcnnbofaaDoor
open Go.RowKit
set_option linter.unusedVariables false
set_option maxRecDepth 100000

theorem rright_any (n t : Int) (w : World) :
    Calls Tryd.prog 50 #[.int .i64 n, .int .i64 t] w fun e w' => e = .returned (.bool (rightB n t)) ∧ w = w' := by
  by_cases h1 : 1 ≤ n
  · have g1 : decide (1 ≤ n) = true := decide_eq_true h1
    by_cases h2 : n ≤ 536870911
    · have g2 : decide (n ≤ 536870911) = true := decide_eq_true h2
      have HF : Hid (rightB n t = (t == 0 || (t == 1 || (t == 2 || t == 5)))) := by show _ = _; simp [rightB, numOk, h1, h2, isWire]
      cases e0 : (t == 0) <;> cases e1 : (t == 1) <;> cases e2 : (t == 2)
      all_goals rw [e0, e1, e2] at HF
      all_goals
        go_enter Tryd.func50, Tryd.ntmps50
        go_wp2
        go_ret
        exact ⟨ret_bool' (by rw [HF.out]; simp only [Bool.true_or, Bool.or_true, Bool.false_or]), rfl⟩
    · have g2 : decide (n ≤ 536870911) = false := decide_eq_false h2
      have HF : Hid (rightB n t = false) := by show _ = _; simp [rightB, numOk, h2]
      go_enter Tryd.func50, Tryd.ntmps50
      go_wp2
      go_ret
      exact ⟨ret_bool' HF.out.symm, rfl⟩
  · have g1 : decide (1 ≤ n) = false := decide_eq_false h1
    have HF : Hid (rightB n t = false) := by show _ = _; simp [rightB, numOk, h1]
    go_enter Tryd.func50, Tryd.ntmps50
    go_wp2
    go_ret
    exact ⟨ret_bool' HF.out.symm, rfl⟩
end Go.Proofs.YtmdekdmcnnbofaaDoor
