/- Several texts in one: RemA. What each proves, and its conditions, stands at its own head. -/
import Derived.Test.YtnhaeapkncnimaaPkR3
import Derived.Test.YtnhaeapkncnimaaPkR4
import Derived.Test.YtnhaeapkncnimaaPkR1
import Derived.Test.YtnhaeapkncnimaaPkR9
import Derived.WalkKit
import Derived.OwnWalk
import Derived.RowKitTokens
import Derived.Lib.Hide
import Derived.BigQuiet
import Derived.Deep.QuietTactic
import Derived.IntWalk
/- The document's writer in memory: its parts and their numbers, each in a row of the call's own. Conditions: those that each theorem names. -/
namespace Go.Proofs.Ytnhaeapkncnimaa
open Go.RowKit
set_option linter.unusedVariables false
set_option maxRecDepth 100000

/-- What the document's writer holds. -/
structure Rs where
  parts : List (List UInt8)
  nums : List Int
def numsRow (l : List Int) : List Value := l.map (Value.int .i64)
structure RfAt (B : Nat) (w : World) (p : Nat) (S : Nat → Prop) (s : Rs) (vp vn : Value) (vs : List Value) : Prop where
  obj : w.heap[p]? = some (.cells #[vp, vn] 37 (0, 0))
  row : w.ownsRow B 38 1 vp s.parts.length vs
  nums : w.ownsRow B 3 1 vn s.nums.length (numsRow s.nums)
  part : ∀ (j : Nat) v bs, vs[j]? = some v → s.parts[j]? = some bs → ∃ A cap, v = .slice A bs.length cap ∧ Bs w A cap bs ∧ ∀ a, A = some a → S a.block ∧ a.block ≠ p ∧ vp.ownBlock ≠ some a.block ∧ vn.ownBlock ≠ some a.block
  sp : S p
  sv : ∀ k, vp.ownBlock = some k → S k
  sn : ∀ k, vn.ownBlock = some k → S k
  lt : ∀ k, S k → B ≤ k ∧ k < w.heap.size
def Rf (B : Nat) (w : World) (p : Nat) (S : Nat → Prop) (s : Rs) : Prop := ∃ vp vn vs, RfAt B w p S s vp vn vs
section
variable {B p : Nat} {S : Nat → Prop} {s : Rs} {vp vn : Value} {vs : List Value} {w w' : World}
theorem RfAt.keep (h : RfAt B w p S s vp vn vs) (hk : ∀ k, S k → w'.heap[k]? = w.heap[k]?) (hs : w.heap.size ≤ w'.heap.size) : RfAt B w' p S s vp vn vs :=
  ⟨(hk p h.sp).trans h.obj, own_block h.row (fun k e => hk k (h.sv k e)), own_block h.nums (fun k e => hk k (h.sn k e)), fun j v bs hv hb => by
    obtain ⟨A, cap, e, hB, ha⟩ := h.part j v bs hv hb
    exact ⟨A, cap, e, Bs.heap hB (fun a ea => hk _ (ha a ea).1), ha⟩, h.sp, h.sv, h.sn, fun k e => ⟨(h.lt k e).1, Nat.lt_of_lt_of_le (h.lt k e).2 hs⟩⟩
theorem Rf.keep (h : Rf B w p S s) (hk : ∀ k, S k → w'.heap[k]? = w.heap[k]?) (hs : w.heap.size ≤ w'.heap.size) : Rf B w' p S s := by
  obtain ⟨vp, vn, vs, h⟩ := h
  exact ⟨vp, vn, vs, h.keep hk hs⟩
theorem Rf.lt (h : Rf B w p S s) : ∀ k, S k → B ≤ k ∧ k < w.heap.size := by
  obtain ⟨_, _, _, h⟩ := h; exact h.lt
theorem Rf.mem (h : Rf B w p S s) : S p := by
  obtain ⟨_, _, _, h⟩ := h; exact h.sp
theorem Rf.bel (h : Rf B w p S s) (hb : Below w.heap.size w w') : Rf B w' p S s := h.keep (fun k hk => hb.block k (h.lt k hk).2) hb.size
theorem Rf.apart {T : Nat → Prop} (h : Rf B w p S s) (ht : Touch T w w') (hd : ∀ k, S k → ¬ T k) : Rf B w' p S s := h.keep (fun k hk => ht.block k (h.lt k hk).2 (hd k hk)) ht.size
def RfTo (B : Nat) (w : World) (p : Nat) (S : Nat → Prop) (s : Rs) (v : Value) (e : Ending) (w' : World) : Prop :=
  e = .returned v ∧ ∃ S', Rf B w' p S' s ∧ (∀ k, S' k → S k ∨ w.heap.size ≤ k) ∧ Touch S w w'
end
end Go.Proofs.Ytnhaeapkncnimaa
