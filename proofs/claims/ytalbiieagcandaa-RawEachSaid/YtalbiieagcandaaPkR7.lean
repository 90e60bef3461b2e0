/- Several texts in one: EmW. What each proves, and its conditions, stands at its own head. -/
import Derived.Test.YtalbiieagcandaaPkR2
import Derived.Test.YtalbiieagcandaaPkR6
import Derived.Test.YtalbiieagcandaaPkR1
import Derived.Deep.QuietTactic
import Derived.BigQuiet
/- A writer in memory: its block, its bytes, its frames and the places of those that are open, each in a row of the call's own; what a call on it leaves. Conditions: those that each theorem names. -/
namespace Go.Proofs.Ytalbiieagcandaa
open Go.RowKit
set_option linter.unusedVariables false

/-- A frame's four cells; h: the slice of its head. -/
def frCells (q : Fr × Value) : List Value := [.int .u64 (q.1.tag : Int), .int .i64 (q.1.place : Int), .int .i64 (q.1.before : Int), q.2]
theorem frCells_length (q : Fr × Value) : (frCells q).length = 4 := rfl
def frRow (ps : List (Fr × Value)) : List Value := ps.flatMap frCells
theorem frRow_length (ps : List (Fr × Value)) : (frRow ps).length = ps.length * 4 := flat_length frCells 4 frCells_length ps
theorem frRow_get {ps : List (Fr × Value)} {j : Nat} {q : Fr × Value} (h : ps[j]? = some q) {i : Nat} (hi : i < 4) : (frRow ps)[j * 4 + i]? = (frCells q)[i]? := by
  rw [Nat.mul_comm j 4]
  exact flat_get frCells 4 frCells_length ps j q i h hi

/-- The blocks that are written to. -/
def Mut (p : Nat) (vb vf vo : Value) (k : Nat) : Prop := k = p ∨ vb.ownBlock = some k ∨ vf.ownBlock = some k ∨ vo.ownBlock = some k
/-- The head's slice reads as the head, in a block of S that is none of those that are written to. -/
def Hd (w : World) (S X : Nat → Prop) (h : List UInt8) (v : Value) : Prop :=
  ∃ A cap, v = .slice A h.length cap ∧ Bs w A cap h ∧ ∀ a, A = some a → S a.block ∧ ¬ X a.block

/-- What a writer's block holds. -/
structure WrAt (B : Nat) (w : World) (p : Nat) (S : Nat → Prop) (made : Bool) (s : Ws) (vb vf vo : Value) (ps : List (Fr × Value)) : Prop where
  obj : w.heap[p]? = some (.cells #[.bool made, vb, vf, vo, .int .i64 (s.room : Int)] 66 (0, 0))
  raw : w.ownsRow B 5 1 vb s.raw.length (cellsOf s.raw)
  row : w.ownsRow B 133 4 vf ps.length (frRow ps)
  op : w.ownsRow B 3 1 vo s.op.length (ints s.op)
  fs : ps.map Prod.fst = s.fs
  hd : ∀ q ∈ ps, Hd w S (Mut p vb vf vo) q.1.head q.2
  sp : S p
  sb : ∀ k, vb.ownBlock = some k → S k
  sf : ∀ k, vf.ownBlock = some k → S k
  so : ∀ k, vo.ownBlock = some k → S k
  lt : ∀ k, S k → B ≤ k ∧ k < w.heap.size
/-- A writer in memory; S: the blocks that it hangs on, all from B on. -/
def Wr (B : Nat) (w : World) (p : Nat) (S : Nat → Prop) (made : Bool) (s : Ws) : Prop := ∃ vb vf vo ps, WrAt B w p S made s vb vf vo ps

section
variable {B : Nat} {w w' : World} {p : Nat} {S S' : Nat → Prop} {made : Bool} {s : Ws} {vb vf vo : Value} {ps : List (Fr × Value)}
theorem Hd.keep {X : Nat → Prop} {h : List UInt8} {v : Value} (hh : Hd w S X h v) (hk : ∀ k, S k → w'.heap[k]? = w.heap[k]?) : Hd w' S X h v := by
  obtain ⟨A, cap, e, hb, hs⟩ := hh
  refine ⟨A, cap, e, ⟨hb.le, hb.max, hb.nil, fun j c hj => ?_⟩, hs⟩
  obtain ⟨b, off, ea, hc⟩ := hb.at_ j c hj
  exact ⟨b, off, ea, (World.cell?_of_block (hk b (hs _ ea).1)).trans hc⟩
theorem WrAt.keep (h : WrAt B w p S made s vb vf vo ps) (hk : ∀ k, S k → w'.heap[k]? = w.heap[k]?) (hs : w.heap.size ≤ w'.heap.size) : WrAt B w' p S made s vb vf vo ps :=
  ⟨(hk p h.sp).trans h.obj, own_block h.raw (fun k e => hk k (h.sb k e)), own_block h.row (fun k e => hk k (h.sf k e)), own_block h.op (fun k e => hk k (h.so k e)), h.fs, fun q hq => (h.hd q hq).keep hk, h.sp, h.sb, h.sf, h.so,
    fun k e => ⟨(h.lt k e).1, Nat.lt_of_lt_of_le (h.lt k e).2 hs⟩⟩
theorem Wr.keep (h : Wr B w p S made s) (hk : ∀ k, S k → w'.heap[k]? = w.heap[k]?) (hs : w.heap.size ≤ w'.heap.size) : Wr B w' p S made s := by
  obtain ⟨vb, vf, vo, ps, h⟩ := h
  exact ⟨vb, vf, vo, ps, h.keep hk hs⟩
theorem Wr.lt (h : Wr B w p S made s) : ∀ k, S k → B ≤ k ∧ k < w.heap.size := by
  obtain ⟨_, _, _, _, h⟩ := h; exact h.lt
theorem Wr.mem (h : Wr B w p S made s) : S p := by
  obtain ⟨_, _, _, _, h⟩ := h; exact h.sp
theorem Wr.bel (h : Wr B w p S made s) (hb : Below w.heap.size w w') : Wr B w' p S made s := h.keep (fun k hk => hb.block k (h.lt k hk).2) hb.size
/-- Where blocks that S does not know were turned. -/
theorem Wr.apart {T : Nat → Prop} (h : Wr B w p S made s) (ht : Touch T w w') (hd : ∀ k, S k → ¬ T k) : Wr B w' p S made s := h.keep (fun k hk => ht.block k (h.lt k hk).2 (hd k hk)) ht.size

theorem drew_below (w : World) (n : Nat) : Below w.heap.size w (w.drewN n) := ⟨rfl, rfl, rfl, Nat.le_refl _, fun _ _ => rfl⟩
/-- What a call on a writer leaves. -/
def WrTo (B : Nat) (w : World) (p : Nat) (S : Nat → Prop) (made : Bool) (s : Ws) (v : Value) (e : Ending) (w' : World) : Prop :=
  e = .returned v ∧ ∃ S', Wr B w' p S' made s ∧ (∀ k, S' k → S k ∨ w.heap.size ≤ k) ∧ Touch S w w'
theorem WrTo.same {v : Value} (h : Wr B w p S made s) (n : Nat) : WrTo B w p S made s v (.returned v) (w.drewN n) :=
  ⟨rfl, S, h.bel (drew_below w n), fun _ hk => .inl hk, Touch.of_below S (drew_below w n)⟩
end
end Go.Proofs.Ytalbiieagcandaa
