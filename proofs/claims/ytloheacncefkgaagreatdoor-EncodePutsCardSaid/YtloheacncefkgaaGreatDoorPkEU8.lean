/- Several texts in one: EmW, EmA, EmB, EmPlain, EmCat. What each proves, and its conditions, stands at its own head. -/
import Derived.Test.YtloheacncefkgaaGreatDoorPkEU2
import Derived.Test.YtloheacncefkgaaGreatDoorPkEU1
import Derived.Test.YtloheacncefkgaaGreatDoorPkEU0
import Derived.Deep.QuietTactic
import Derived.BigQuiet
import Derived.WalkKit
import Derived.OwnWalk
import Derived.RowKitTokens
import Derived.Lib.Hide
import Derived.Lib.Small
import Derived.Lib.Walk
import Derived.IntWalk
import Derived.Test.YtloheacncefkgaaGreatDoorPkEU5
import Derived.Lib.AppendZeros
/- A writer in memory: its block, its bytes, its frames and the places of those that are open, each in a row of the call's own; what a call on it leaves. Conditions: those that each theorem names. -/
namespace Go.Proofs.YtloheacncefkgaaGreatDoor
open Go.RowKit
set_option linter.unusedVariables false

/-- A frame's four cells; h: the slice of its head. -/
def frCells (q : Fr × Value) : List Value := [.int .u64 (q.1.tag : Int), .int .i64 (q.1.place : Int), .int .i64 (q.1.before : Int), q.2]
theorem frCells_length (q : Fr × Value) : (frCells q).length = 4 := rfl
def frRow (ps : List (Fr × Value)) : List Value := ps.flatMap frCells
theorem frRow_length (ps : List (Fr × Value)) : (frRow ps).length = ps.length * 4 := flat_length frCells 4 frCells_length ps
theorem frRow_get {ps : List (Fr × Value)} {j : Nat} {q : Fr × Value} (h : ps[j]? = some q) {i : Nat} (hi : i < 4) : (frRow ps)[j * 4 + i]? = (frCells q)[i]? := by
 rw [Nat.mul_comm j 4]
 exact flat_get frCells 4 frCells_length ps j q i h hi

/-- The blocks that are written to. -/
def Mut (p : Nat) (vb vf vo : Value) (k : Nat) : Prop := k = p ∨ vb.ownBlock = some k ∨ vf.ownBlock = some k ∨ vo.ownBlock = some k
/-- The head's slice reads as the head, in a block of S that is none of those that are written to. -/
def Hd (w : World) (S X : Nat → Prop) (h : List UInt8) (v : Value) : Prop :=
 ∃ A cap, v = .slice A h.length cap ∧ Bs w A cap h ∧ ∀ a, A = some a → S a.block ∧ ¬ X a.block

/-- What a writer's block holds. -/
structure WrAt (B : Nat) (w : World) (p : Nat) (S : Nat → Prop) (made : Bool) (s : Ws) (vb vf vo : Value) (ps : List (Fr × Value)) : Prop where
 obj : w.heap[p]? = some (.cells #[.bool made, vb, vf, vo, .int .i64 (s.room : Int)] 112 (0, 0))
 raw : w.ownsRow B 5 1 vb s.raw.length (cellsOf s.raw)
 row : w.ownsRow B 162 4 vf ps.length (frRow ps)
 op : w.ownsRow B 3 1 vo s.op.length (ints s.op)
 fs : ps.map Prod.fst = s.fs
 hd : ∀ q ∈ ps, Hd w S (Mut p vb vf vo) q.1.head q.2
 sp : S p
 sb : ∀ k, vb.ownBlock = some k → S k
 sf : ∀ k, vf.ownBlock = some k → S k
 so : ∀ k, vo.ownBlock = some k → S k
 lt : ∀ k, S k → B ≤ k ∧ k < w.heap.size
/-- A writer in memory; S: the blocks that it hangs on, all from B on. -/
def Wr (B : Nat) (w : World) (p : Nat) (S : Nat → Prop) (made : Bool) (s : Ws) : Prop := ∃ vb vf vo ps, WrAt B w p S made s vb vf vo ps

section
variable {B : Nat} {w w' : World} {p : Nat} {S S' : Nat → Prop} {made : Bool} {s : Ws} {vb vf vo : Value} {ps : List (Fr × Value)}
theorem Hd.keep {X : Nat → Prop} {h : List UInt8} {v : Value} (hh : Hd w S X h v) (hk : ∀ k, S k → w'.heap[k]? = w.heap[k]?) : Hd w' S X h v := by
 obtain ⟨A, cap, e, hb, hs⟩ := hh
 refine ⟨A, cap, e, ⟨hb.le, hb.max, hb.nil, fun j c hj => ?_⟩, hs⟩
 obtain ⟨b, off, ea, hc⟩ := hb.at_ j c hj
 exact ⟨b, off, ea, (World.cell?_of_block (hk b (hs _ ea).1)).trans hc⟩
theorem WrAt.keep (h : WrAt B w p S made s vb vf vo ps) (hk : ∀ k, S k → w'.heap[k]? = w.heap[k]?) (hs : w.heap.size ≤ w'.heap.size) : WrAt B w' p S made s vb vf vo ps :=
 ⟨(hk p h.sp).trans h.obj, own_block h.raw (fun k e => hk k (h.sb k e)), own_block h.row (fun k e => hk k (h.sf k e)), own_block h.op (fun k e => hk k (h.so k e)), h.fs, fun q hq => (h.hd q hq).keep hk, h.sp, h.sb, h.sf, h.so,
   fun k e => ⟨(h.lt k e).1, Nat.lt_of_lt_of_le (h.lt k e).2 hs⟩⟩
theorem Wr.keep (h : Wr B w p S made s) (hk : ∀ k, S k → w'.heap[k]? = w.heap[k]?) (hs : w.heap.size ≤ w'.heap.size) : Wr B w' p S made s := by
 obtain ⟨vb, vf, vo, ps, h⟩ := h
 exact ⟨vb, vf, vo, ps, h.keep hk hs⟩
theorem Wr.lt (h : Wr B w p S made s) : ∀ k, S k → B ≤ k ∧ k < w.heap.size := by
 obtain ⟨_, _, _, _, h⟩ := h; exact h.lt
theorem Wr.bel (h : Wr B w p S made s) (hb : Below w.heap.size w w') : Wr B w' p S made s := h.keep (fun k hk => hb.block k (h.lt k hk).2) hb.size
/-- Where blocks that S does not know were turned. -/
theorem Wr.apart {T : Nat → Prop} (h : Wr B w p S made s) (ht : Touch T w w') (hd : ∀ k, S k → ¬ T k) : Wr B w' p S made s := h.keep (fun k hk => ht.block k (h.lt k hk).2 (hd k hk)) ht.size

theorem drew_below (w : World) (n : Nat) : Below w.heap.size w (w.drewN n) := ⟨rfl, rfl, rfl, Nat.le_refl _, fun _ _ => rfl⟩
/-- What a call on a writer leaves. -/
def WrTo (B : Nat) (w : World) (p : Nat) (S : Nat → Prop) (made : Bool) (s : Ws) (v : Value) (e : Ending) (w' : World) : Prop :=
 e = .returned v ∧ ∃ S', Wr B w' p S' made s ∧ (∀ k, S' k → S k ∨ w.heap.size ≤ k) ∧ Touch S w w'
theorem WrTo.same {v : Value} (h : Wr B w p S made s) (n : Nat) : WrTo B w p S made s v (.returned v) (w.drewN n) :=
 ⟨rfl, S, h.bel (drew_below w n), fun _ hk => .inl hk, Touch.of_below S (drew_below w n)⟩
end
end Go.Proofs.YtloheacncefkgaaGreatDoor

/- The calls on a writer that only look: ready, Len, Deep; New; the nil writer. Conditions: those that each theorem names. -/
namespace Go.Proofs.YtloheacncefkgaaGreatDoor
open Go.RowKit
set_option linter.unusedVariables false
set_option maxRecDepth 100000

section
variable {B p : Nat} {S : Nat → Prop} {made : Bool} {s : Ws} {w : World}
theorem ready_any (h : Wr B w p S made s) : Calls Tryz.prog 142 #[.pointer (some ⟨p, 0, none⟩)] w fun e w' => e = .returned (.bool made) ∧ w = w' := by
 obtain ⟨vb, vf, vo, ps, h⟩ := h
 have c0 := obj_cell h.obj 0
 clear h
 go_enter Tryz.func142, Tryz.ntmps142
 go_wp2
 go_ret
 exact ⟨rfl, rfl⟩
theorem wdeep_any (h : Wr B w p S made s) : Calls Tryz.prog 81 #[.pointer (some ⟨p, 0, none⟩)] w fun e w' => e = .returned (.int .i64 (s.op.length : Int)) ∧ w = w' := by
 obtain ⟨vb, vf, vo, ps, h⟩ := h
 obtain ⟨A, cap, rfl, h1, h2, _, _⟩ := own_form h.op
 have c3 := obj_cell h.obj 3
 clear h
 obtain ⟨n, hn⟩ : ∃ n, n = s.op.length := ⟨_, rfl⟩
 rw [← hn] at c3 h1 ⊢
 unfold maxLen at h2
 clear hn
 go_enter Tryz.func81, Tryz.ntmps81
 go_wp2
 go_ret
 exact ⟨rfl, rfl⟩
theorem wlen_any (h : Wr B w p S made s) (hb : s.raw.length + s.room ≤ 70368744177664) : Calls Tryz.prog 80 #[.pointer (some ⟨p, 0, none⟩)] w fun e w' => e = .returned (.int .i64 ((s.raw.length + s.room : Nat) : Int)) ∧ ∃ n, w' = w.drewN n := by
 obtain ⟨vb, vf, vo, ps, h⟩ := h
 obtain ⟨A, cap, rfl, h1, h2, _, _⟩ := own_form h.raw
 have c1 := obj_cell h.obj 1
 have c4 := obj_cell h.obj 4
 clear h
 obtain ⟨n, hn⟩ : ∃ n, n = s.raw.length := ⟨_, rfl⟩
 obtain ⟨r, hr⟩ : ∃ r, r = s.room := ⟨_, rfl⟩
 rw [← hn] at c1 h1 hb ⊢
 rw [← hr] at c1 c4 hb ⊢
 unfold maxLen at h2
 clear hn hr
 have e : ((n + r : Nat) : Int) = (n : Int) + (r : Int) := Int.natCast_add n r
 rw [e]
 clear e
 have hwr : IntKind.i64.wrap ((n : Int) + (r : Int)) = (n : Int) + (r : Int) := IntWalk.i64_in _ (by omega)
 go_enter Tryz.func80, Tryz.ntmps80
 go_wp2
 go_quiet (fail)
 go_wp2
 go_ret
 exact ⟨rfl, _, rfl⟩
end
/-- A new block that is a writer of nothing. -/
theorem wr_new (w : World) (made : Bool) : Wr w.heap.size (w.alloc (.cells #[.bool made, .slice none 0 0, .slice none 0 0, .slice none 0 0, .int .i64 0] 112)) w.heap.size (fun k => k = w.heap.size) made ⟨[], [], [], 0⟩ :=
 ⟨.slice none 0 0, .slice none 0 0, .slice none 0 0, [], ⟨heap_alloc_new w _, World.ownsRow_nil _ _ _ _, World.ownsRow_nil _ _ _ _, World.ownsRow_nil _ _ _ _, rfl, (fun q hq => by cases hq), rfl, (fun k e => by cases e), (fun k e => by cases e), (fun k e => by cases e), (fun k e => by subst e; simp)⟩⟩
theorem wnew_any (w : World) : Calls Tryz.prog 30 #[] w fun e w' => e = .returned (.pointer (some ⟨w.heap.size, 0, none⟩)) ∧ w' = w.alloc (.cells #[.bool true, .slice none 0 0, .slice none 0 0, .slice none 0 0, .int .i64 0] 112) := by
 go_enter Tryz.func30, Tryz.ntmps30
 go_wp2
 go_ret
 exact ⟨rfl, rfl⟩
end Go.Proofs.YtloheacncefkgaaGreatDoor

/- What becomes of a writer when its bytes, its frames or the places of the open ones are others (no program here). Conditions: those that each theorem names. -/
namespace Go.Proofs.YtloheacncefkgaaGreatDoor
open Go.RowKit
set_option linter.unusedVariables false

/-- S and what was made since. -/
def Since (S : Nat → Prop) (w w' : World) (k : Nat) : Prop := S k ∨ (w.heap.size ≤ k ∧ k < w'.heap.size)
theorem since_of {S : Nat → Prop} {w w' : World} : ∀ k, Since S w w' k → S k ∨ w.heap.size ≤ k := fun k h => h.imp id And.left
section
variable {B p : Nat} {S : Nat → Prop} {made : Bool} {s : Ws} {vb vf vo : Value} {ps : List (Fr × Value)} {w w2 : World}
theorem moved_lt {v v2 : Value} {e : TypeId} {size n i : Nat} {xs : List Value} {u : Value} (hm : Moved w v v2) (hs : ∀ k, v.ownBlock = some k → S k) (ho : w2.ownsRow B e size v2 n xs) : ∀ k, v2.ownBlock = some k → Since S w (w2.setCell ⟨p, i, none⟩ u) k := by
 intro k hk
 rcases hm with e | ⟨g, e, hg⟩
 ·exact .inl (hs k (e ▸ hk))
 ·rw [e] at hk
  cases hk
  exact .inr ⟨hg, by rw [show (w2.setCell ⟨p, i, none⟩ u).heap.size = w2.heap.size from by simp [World.setCell]]; exact (ho.lt k e).2⟩
theorem not_moved {v v2 : Value} (hm : Moved w v v2) {k : Nat} (hk : k < w.heap.size) (hv : v.ownBlock ≠ some k) : v2.ownBlock ≠ some k := by
 rcases hm with e | ⟨g, e, hg⟩
 ·rw [e]; exact hv
 ·rw [e]; intro e2; cases e2; omega
theorem since_lt {i : Nat} {u : Value} (h : ∀ k, S k → B ≤ k ∧ k < w.heap.size) (hB : B ≤ w.heap.size) (hs : w.heap.size ≤ w2.heap.size) : ∀ k, Since S w (w2.setCell ⟨p, i, none⟩ u) k → B ≤ k ∧ k < (w2.setCell ⟨p, i, none⟩ u).heap.size := by
 intro k hk
 have e : (w2.setCell ⟨p, i, none⟩ u).heap.size = w2.heap.size := by simp [World.setCell]
 rcases hk with hk | hk
 ·exact ⟨(h k hk).1, by rw [e]; have := (h k hk).2; omega⟩
 ·exact ⟨by omega, hk.2⟩
theorem put_other {row : Option Nat} (hg : w.grownBy w2 row) (i : Nat) (u : Value) {k : Nat} (hk : k < w.heap.size) (h1 : some k ≠ row) (h2 : k ≠ p) : (w2.setCell ⟨p, i, none⟩ u).heap[k]? = w.heap[k]? :=
 (heap_setCell_other w2 ⟨p, i, none⟩ k u h2).trans (hg.block k hk h1)
theorem own_put {v : Value} {e : TypeId} {size n : Nat} {xs : List Value} (ho : w2.ownsRow B e size v n xs) (i : Nat) (u : Value) (hp : v.ownBlock ≠ some p) : (w2.setCell ⟨p, i, none⟩ u).ownsRow B e size v n xs :=
 own_block ho (fun k hk => heap_setCell_other w2 ⟨p, i, none⟩ k u (fun e => hp (hk.trans (congrArg some e))))
theorem touch_put {row : Option Nat} (hg : w.grownBy w2 row) (hr : ∀ k, row = some k → S k) (hp : S p) (i : Nat) (u : Value) : Touch S w (w2.setCell ⟨p, i, none⟩ u) :=
 ((Touch.refl S w).grown hg (fun k e => .inl (hr k e))).set (q := ⟨p, i, none⟩) (.inl hp) u
theorem hd_put {X X' : Nat → Prop} {row : Option Nat} {h : List UInt8} {v : Value} (hh : Hd w S X h v) (hlt : ∀ k, S k → k < w.heap.size) (hg : w.grownBy w2 row) (i : Nat) (u : Value) (hX : ∀ k, S k → ¬ X k → ¬ X' k ∧ some k ≠ row ∧ k ≠ p) {T : Nat → Prop} (hT : ∀ k, S k → T k) : Hd (w2.setCell ⟨p, i, none⟩ u) T X' h v := by
 obtain ⟨A, cap, e, hb, hs⟩ := hh
 refine ⟨A, cap, e, ⟨hb.le, hb.max, hb.nil, fun j c hj => ?_⟩, fun a ha => ⟨hT _ (hs a ha).1, (hX _ (hs a ha).1 (hs a ha).2).1⟩⟩
 obtain ⟨b, off, ea, hc⟩ := hb.at_ j c hj
 obtain ⟨q1, q2⟩ := hs _ ea
 obtain ⟨_, q3, q4⟩ := hX _ q1 q2
 exact ⟨b, off, ea, (World.cell?_of_block (a := ⟨b, off + j, none⟩) (put_other hg i u (hlt _ q1) q3 q4)).trans hc⟩

theorem wr_raw (h : WrAt B w p S made s vb vf vo ps) (hg : w.grownBy w2 vb.ownBlock) {v2 : Value} (hm : Moved w vb v2) {raw2 : List UInt8} (ho : w2.ownsRow B 5 1 v2 raw2.length (cellsOf raw2)) :
 ∃ S', WrAt B (w2.setCell ⟨p, 1, none⟩ v2) p S' made ⟨raw2, s.fs, s.op, s.room⟩ v2 vf vo ps ∧ (∀ k, S' k → S k ∨ w.heap.size ≤ k) ∧ Touch S w (w2.setCell ⟨p, 1, none⟩ v2) := by
 have hlt := fun k hk => (h.lt k hk).2
 have hpl := hlt p h.sp
 have hB : B ≤ w.heap.size := by have := h.lt p h.sp; omega
 have hpb : some p ≠ vb.ownBlock := fun e => own_other h.raw h.obj (by decide) e.symm
 have hp2 := (hg.block p hpl hpb).trans h.obj
 refine ⟨Since S w (w2.setCell ⟨p, 1, none⟩ v2), ⟨(obj_set hp2 1 v2).trans rfl, own_put ho 1 v2 (not_moved hm hpl (fun e => hpb e.symm)), ?_, ?_, h.fs, fun q hq => ?_, .inl h.sp, moved_lt hm h.sb ho, fun k e => .inl (h.sf k e), fun k e => .inl (h.so k e), since_lt h.lt hB hg.size⟩, since_of, touch_put hg h.sb h.sp _ _⟩
 ·exact own_block h.row (fun k e => put_other hg 1 v2 (hlt k (h.sf k e)) (fun e' => own_own h.raw h.row (by decide) e e'.symm) (fun e' => own_other h.row h.obj (by decide) (e' ▸ e)))
 ·exact own_block h.op (fun k e => put_other hg 1 v2 (hlt k (h.so k e)) (fun e' => own_own h.raw h.op (by decide) e e'.symm) (fun e' => own_other h.op h.obj (by decide) (e' ▸ e)))
 ·refine hd_put (h.hd q hq) hlt hg 1 v2 (fun k hk hX => ⟨?_, fun e => hX (.inr (.inl e.symm)), fun e => hX (.inl e)⟩) (fun k hk => .inl hk)
  rintro (e | e | e | e)
  ·exact hX (.inl e)
  ·exact not_moved hm (hlt k hk) (fun e' => hX (.inr (.inl e'))) e
  ·exact hX (.inr (.inr (.inl e)))
  ·exact hX (.inr (.inr (.inr e)))
theorem wr_op (h : WrAt B w p S made s vb vf vo ps) (hg : w.grownBy w2 vo.ownBlock) {v2 : Value} (hm : Moved w vo v2) {op2 : List Nat} (ho : w2.ownsRow B 3 1 v2 op2.length (ints op2)) :
 ∃ S', WrAt B (w2.setCell ⟨p, 3, none⟩ v2) p S' made ⟨s.raw, s.fs, op2, s.room⟩ vb vf v2 ps ∧ (∀ k, S' k → S k ∨ w.heap.size ≤ k) ∧ Touch S w (w2.setCell ⟨p, 3, none⟩ v2) := by
 have hlt := fun k hk => (h.lt k hk).2
 have hpl := hlt p h.sp
 have hB : B ≤ w.heap.size := by have := h.lt p h.sp; omega
 have hpb : some p ≠ vo.ownBlock := fun e => own_other h.op h.obj (by decide) e.symm
 have hp2 := (hg.block p hpl hpb).trans h.obj
 refine ⟨Since S w (w2.setCell ⟨p, 3, none⟩ v2), ⟨(obj_set hp2 3 v2).trans rfl, ?_, ?_, own_put ho 3 v2 (not_moved hm hpl (fun e => hpb e.symm)), h.fs, fun q hq => ?_, .inl h.sp, fun k e => .inl (h.sb k e), fun k e => .inl (h.sf k e), moved_lt hm h.so ho, since_lt h.lt hB hg.size⟩, since_of, touch_put hg h.so h.sp _ _⟩
 ·exact own_block h.raw (fun k e => put_other hg 3 v2 (hlt k (h.sb k e)) (fun e' => own_own h.op h.raw (by decide) e e'.symm) (fun e' => own_other h.raw h.obj (by decide) (e' ▸ e)))
 ·exact own_block h.row (fun k e => put_other hg 3 v2 (hlt k (h.sf k e)) (fun e' => own_own h.op h.row (by decide) e e'.symm) (fun e' => own_other h.row h.obj (by decide) (e' ▸ e)))
 ·refine hd_put (h.hd q hq) hlt hg 3 v2 (fun k hk hX => ⟨?_, fun e => hX (.inr (.inr (.inr e.symm))), fun e => hX (.inl e)⟩) (fun k hk => .inl hk)
  rintro (e | e | e | e)
  ·exact hX (.inl e)
  ·exact hX (.inr (.inl e))
  ·exact hX (.inr (.inr (.inl e)))
  ·exact not_moved hm (hlt k hk) (fun e' => hX (.inr (.inr (.inr e')))) e
theorem wr_row (h : WrAt B w p S made s vb vf vo ps) (hg : w.grownBy w2 vf.ownBlock) {v2 : Value} (hm : Moved w vf v2) {f : Fr} (hf : f.head = []) (ho : w2.ownsRow B 162 4 v2 (ps.length + 1) (frRow (ps ++ [(f, .slice none 0 0)]))) :
 ∃ S', WrAt B (w2.setCell ⟨p, 2, none⟩ v2) p S' made ⟨s.raw, s.fs ++ [f], s.op, s.room⟩ vb v2 vo (ps ++ [(f, .slice none 0 0)]) ∧ (∀ k, S' k → S k ∨ w.heap.size ≤ k) ∧ Touch S w (w2.setCell ⟨p, 2, none⟩ v2) := by
 have hlt := fun k hk => (h.lt k hk).2
 have hpl := hlt p h.sp
 have hB : B ≤ w.heap.size := by have := h.lt p h.sp; omega
 have hpb : some p ≠ vf.ownBlock := fun e => own_other h.row h.obj (by decide) e.symm
 have hp2 := (hg.block p hpl hpb).trans h.obj
 refine ⟨Since S w (w2.setCell ⟨p, 2, none⟩ v2), ⟨(obj_set hp2 2 v2).trans rfl, ?_, ?_, ?_, ?_, fun q hq => ?_, .inl h.sp, fun k e => .inl (h.sb k e), moved_lt hm h.sf ho, fun k e => .inl (h.so k e), since_lt h.lt hB hg.size⟩, since_of, touch_put hg h.sf h.sp _ _⟩
 ·exact own_block h.raw (fun k e => put_other hg 2 v2 (hlt k (h.sb k e)) (fun e' => own_own h.row h.raw (by decide) e e'.symm) (fun e' => own_other h.raw h.obj (by decide) (e' ▸ e)))
 ·rw [List.length_append]; exact own_put ho 2 v2 (not_moved hm hpl (fun e => hpb e.symm))
 ·exact own_block h.op (fun k e => put_other hg 2 v2 (hlt k (h.so k e)) (fun e' => own_own h.row h.op (by decide) e e'.symm) (fun e' => own_other h.op h.obj (by decide) (e' ▸ e)))
 ·rw [List.map_append, h.fs]; rfl
 ·rcases List.mem_append.1 hq with hq | hq
  ·refine hd_put (h.hd q hq) hlt hg 2 v2 (fun k hk hX => ⟨?_, fun e => hX (.inr (.inr (.inl e.symm))), fun e => hX (.inl e)⟩) (fun k hk => .inl hk)
   rintro (e | e | e | e)
   ·exact hX (.inl e)
   ·exact hX (.inr (.inl e))
   ·exact not_moved hm (hlt k hk) (fun e' => hX (.inr (.inr (.inl e')))) e
   ·exact hX (.inr (.inr (.inr e)))
  ·obtain rfl : q = (f, .slice none 0 0) := by simpa using hq
   exact ⟨none, 0, by simp [hf], by rw [hf]; exact bs_nil _, fun a ha => by cases ha⟩
/-- The room of the heads. -/
theorem wr_room (h : WrAt B w p S made s vb vf vo ps) (r : Nat) : WrAt B (w.setCell ⟨p, 4, none⟩ (.int .i64 (r : Int))) p S made ⟨s.raw, s.fs, s.op, r⟩ vb vf vo ps := by
 have ho : ∀ k, k ≠ p → (w.setCell ⟨p, 4, none⟩ (.int .i64 (r : Int))).heap[k]? = w.heap[k]? := fun k hk => heap_setCell_other w ⟨p, 4, none⟩ k _ hk
 refine ⟨(obj_set h.obj 4 _).trans rfl, own_block h.raw (fun k e => ho k (fun e' => own_other h.raw h.obj (by decide) (e' ▸ e))), own_block h.row (fun k e => ho k (fun e' => own_other h.row h.obj (by decide) (e' ▸ e))), own_block h.op (fun k e => ho k (fun e' => own_other h.op h.obj (by decide) (e' ▸ e))), h.fs, fun q hq => ?_, h.sp, h.sb, h.sf, h.so, fun k hk => ⟨(h.lt k hk).1, by have := (h.lt k hk).2; simpa [World.setCell] using this⟩⟩
 obtain ⟨A, cap, e, hb, hs⟩ := h.hd q hq
 refine ⟨A, cap, e, ⟨hb.le, hb.max, hb.nil, fun j c hj => ?_⟩, hs⟩
 obtain ⟨b, off, ea, hc⟩ := hb.at_ j c hj
 exact ⟨b, off, ea, (World.cell?_of_block (a := ⟨b, off + j, none⟩) (ho b (fun e' => (hs _ ea).2 (.inl e')))).trans hc⟩
end
end Go.Proofs.YtloheacncefkgaaGreatDoor

/- Plain: pieces of bytes are written behind the writer's. Conditions: those that each theorem names. -/
namespace Go.Proofs.YtloheacncefkgaaGreatDoor
open Go.RowKit
set_option linter.unusedVariables false
set_option maxRecDepth 100000

def Ws.plain (s : Ws) (bs : List UInt8) : Ws := ⟨s.raw ++ bs, s.fs, s.op, s.room⟩
/-- A slice of slices that read as these pieces, none of it in a block of S. -/
def Pcs (w : World) (S : Nat → Prop) (A : Option Addr) (cap : Nat) (pcs : List (List UInt8)) : Prop :=
 ∃ vs : List Value, vs.length = pcs.length ∧ Sl w A cap vs ∧ (∀ a, A = some a → ¬ S a.block ∧ a.block < w.heap.size) ∧
   ∀ (j : Nat) (v : Value) (p : List UInt8), vs[j]? = some v → pcs[j]? = some p → ∃ Aj cj, v = .slice Aj p.length cj ∧ Bs w Aj cj p ∧ ∀ a, Aj = some a → ¬ S a.block ∧ a.block < w.heap.size

def PlainRel (B : Nat) (w : World) (p : Nat) (S : Nat → Prop) (s : Ws) (pcs : List (List UInt8)) (k : Nat) (wr : World) : Prop :=
 ∃ S', Wr B wr p S' true (s.plain (pcs.take k).flatten) ∧ (∀ i, S' i → S i ∨ w.heap.size ≤ i) ∧ Touch S w wr

theorem flat_len_le {α : Type} (l : List (List α)) (k : Nat) : (l.take k).flatten.length ≤ l.flatten.length := by
 have h := congrArg List.length (congrArg List.flatten (List.take_append_drop k l))
 rw [List.flatten_append, List.length_append] at h
 omega

set_option maxHeartbeats 1000000 in
theorem plain_any {B p : Nat} {S : Nat → Prop} {s : Ws} {w : World} (h : Wr B w p S true s) {A : Option Addr} {n cap : Nat} {pcs : List (List UInt8)} (hp : Pcs w S A cap pcs) (hn : n = pcs.length) (hb : s.raw.length + pcs.flatten.length ≤ 140737488355328) :
 Calls Tryz.prog 121 #[.pointer (some ⟨p, 0, none⟩), .slice A n cap] w (WrTo B w p S true (s.plain pcs.flatten) (.bool true)) := by
 obtain ⟨i0, hi, hz0, hz1, hz2⟩ := info_parts info_u8
 obtain ⟨vs, hvl, hsl, hA, hps⟩ := hp
 have hmax : n ≤ 9223372036854775807 := by have h1 := hsl.le; have h2 := hsl.max; unfold maxLen at h2; omega
 have HW := Lib.hid h
 have HS := Lib.hid hsl
 have HVL := Lib.hid hvl
 have HA := Lib.hid hA
 have HPS := Lib.hid hps
 have HN := Lib.hid hn
 clear h hsl hvl hA hps hn
 go_enter Tryz.func121, Tryz.ntmps121
 go_wp2_with (go_at_call 142; refine (ready_any HW.out).mono ?_; rintro e w' ⟨rfl, rfl⟩)
 go_loopw [6, 12] (fun _ x wr => ∃ k : Nat, k ≤ n ∧ x = .int .i64 (k : Int) ∧ PlainRel B w p S s pcs k wr) (fun _ x _ => n - (intOf x).toNat)
 case atStart => exact ⟨0, Nat.zero_le _, rfl, S, by simpa [Ws.plain] using HW.out, fun i hi => .inl hi, Touch.refl _ _⟩
 case round =>
  obtain ⟨k, hk, rfl, S1, hw1, hs1, ht1⟩ := hrel
  by_cases hlt : k < n
  ·have g1 : decide ((k : Int) < (n : Int)) = true := decide_eq_true (by omega)
   obtain ⟨pc, hpc⟩ : ∃ pc, pcs[k]? = some pc := ⟨_, List.getElem?_eq_getElem (by have := HN.out; omega)⟩
   obtain ⟨v, hv⟩ : ∃ v, vs[k]? = some v := ⟨_, List.getElem?_eq_getElem (by have := HN.out; have := HVL.out; omega)⟩
   obtain ⟨bl, off, hAe, hcell0⟩ := HS.out.at_ k v hv
   obtain ⟨Aj, cj, hve, hbs, haj⟩ := HPS.out k v pc hv hpc
   subst hve
   subst hAe
   obtain ⟨q1, q2⟩ := HA.out _ rfl
   have hcell := (ht1.cell (p := ⟨bl, off + k, none⟩) q2 q1).trans hcell0
   have hbs1 : Bs wr Aj cj pc := Bs.heap hbs fun a ha => ht1.block _ (haj a ha).2 (haj a ha).1
   obtain ⟨vb, vf, vo, ps, hat⟩ := hw1
   obtain ⟨Ab, capb, hvb, _, _, _, _⟩ := own_form hat.raw
   subst hvb
   have c1 := obj_cell hat.obj 1
   have f1 := obj_free hat.obj 1
   obtain ⟨N, hN⟩ : ∃ N, N = (s.plain (pcs.take k).flatten).raw.length := ⟨_, rfl⟩
   obtain ⟨M, hM⟩ : ∃ M, M = pc.length := ⟨_, rfl⟩
   rw [← hN] at c1
   rw [← hM] at hcell
   have hfl : (pcs.take k).flatten.length + pc.length ≤ pcs.flatten.length := by
    have := flat_len_le pcs (k + 1)
    rw [List.take_add_one, hpc] at this
    simpa using this
   have hNle : N = s.raw.length + (pcs.take k).flatten.length := by rw [hN]; simp [Ws.plain]
   have HAT := Lib.hid hat
   have HBS := Lib.hid hbs1
   have HPC := Lib.hid hpc
   have HNN := Lib.hid hN
   have HMM := Lib.hid hM
   have HNL := Lib.hid hNle
   have HFL := Lib.hid hfl
   have HS1 := Lib.hid hs1
   have HT1 := Lib.hid ht1
   have hple := (hat.lt p hat.sp)
   clear hat hbs1 hpc hN hM hNle hfl hs1 ht1 hv hcell0 hbs haj q1 q2
   go_wp2_with (at_builtin; refine wpList_append_bs2 rfl _ _ _ rfl B 5 i0 Tryz.underlying34 hi hz0 hz1 hz2 _ N (s.plain (pcs.take k).flatten).raw rfl (show wr.ownsRow B 5 1 (.slice Ab N capb) N _ from by have := HAT.out.raw; rwa [← HNN.out] at this) _ _ _ pc rfl HMM.out HBS.out (by have := HNN.out; have := HNL.out; have := HFL.out; omega) (by omega) ?_; intro v2 w2 hown2 hg2 hm2; obtain ⟨A2, cap2, hv2, _, _, _, _⟩ := own_form hown2; subst hv2; have c21 := obj_cell ((hg2.block p (by omega) (fun e => own_other HAT.out.raw HAT.out.obj (by decide) (by rw [← HNN.out]; exact e.symm))).trans HAT.out.obj) 1; have f21 := obj_free ((hg2.block p (by omega) (fun e => own_other HAT.out.raw HAT.out.obj (by decide) (by rw [← HNN.out]; exact e.symm))).trans HAT.out.obj) 1)
   have hres : PlainRel B w p S s pcs (k + 1) (w2.setCell ⟨p, 1, none⟩ (.slice A2 ((s.plain (pcs.take k).flatten).raw.length + pc.length) cap2)) := by
    have hg3 : wr.grownBy w2 (Value.slice Ab N capb).ownBlock := hg2
    have hm3 : Moved wr (.slice Ab N capb) (.slice A2 ((s.plain (pcs.take k).flatten).raw.length + pc.length) cap2) := hm2
    rw [HNN.out] at hg3 hm3
    obtain ⟨S2, r1, r2, r3⟩ := wr_raw HAT.out (v2 := .slice A2 ((s.plain (pcs.take k).flatten).raw.length + pc.length) cap2) (raw2 := (s.plain (pcs.take k).flatten).raw ++ pc) hg3 hm3 (by rw [List.length_append]; exact hown2)
    refine ⟨S2, ?_, fun i hi => ?_, HT1.out.trans r3 HS1.out⟩
    ·have e : s.plain (pcs.take (k + 1)).flatten = ⟨(s.plain (pcs.take k).flatten).raw ++ pc, s.fs, s.op, s.room⟩ := by
      rw [List.take_add_one, HPC.out]
      simp [Ws.plain]
     rw [e]
     exact ⟨_, _, _, _, r1⟩
    ·rcases r2 i hi with q | q
     ·exact HS1.out i q
     ·exact .inr (by have := HT1.out.size; omega)
   clear hown2 hg2 hm2 c1 f1
   go_wp2
   go_roundw
   case rel => exact ⟨k + 1, by omega, by go_num, hres⟩
   case measure => simp [intOf]; omega
  ·have g1 : decide ((k : Int) < (n : Int)) = false := decide_eq_false (by omega)
   have hkn : k = pcs.length := by have := HN.out; omega
   have hres : Hid (PlainRel B w p S s pcs pcs.length wr) := by rw [hkn] at hw1; exact ⟨S1, hw1, hs1, ht1⟩
   clear hw1 hs1 ht1 hkn
   go_wp2
   go_ret
   obtain ⟨S2, r1, r2, r3⟩ := hres.out
   rw [List.take_length] at r1
   exact ⟨rfl, S2, r1, r2, r3⟩
end Go.Proofs.YtloheacncefkgaaGreatDoor

/- slices.Concat of two slices of bytes, slices.Grow of none. Conditions: those that each theorem names. -/
namespace Go.Proofs.YtloheacncefkgaaGreatDoor
open Go.RowKit
set_option linter.unusedVariables false
set_option maxRecDepth 100000

/-- slices.Grow of nil: a row with that room. -/
theorem grow_any (n : Nat) (w : World) (h : n ≤ 1099511627776) (h0 : 0 < n) :
 Calls Tryz.prog 155 #[.slice none 0 0, .int .i64 (n : Int)] w fun e w' => ∃ v, e = .returned v ∧ w'.ownsRow w.heap.size 5 1 v 0 (cellsOf []) ∧ Below w.heap.size w w' := by
 obtain ⟨i, hi, hz0, hz1, hz2⟩ := info_parts info_u8
 have hr := fun ty => Lib.run_append_nil_zeros (P := Tryz.prog) w 34 3 ty 5 i (.int .u8 0) .i64 .i64 Tryz.underlying34 Tryz.underlying3 hi hz0 n h0 (by omega) (by omega) (by rw [hz2]; omega)
 have hG := grownCap_ge w n 0 5
 have hM := grownCap_le_maxLen w n 0 5 (by unfold maxLen; omega)
 obtain ⟨G, hGG⟩ : ∃ G, G = grownCap w n 0 5 := ⟨_, rfl⟩
 rw [← hGG] at hr hG hM
 unfold maxLen at hM
 clear hGG
 go_enter Tryz.func155, Tryz.ntmps155
 have hHR := Lib.hid hr
 clear hr
 go_wp2_with (at_builtin; refine Lib.wpList_append_run _ rfl _ _ _ _ rfl _ _ rfl rfl _ _ (hHR.out _) ?_)
 go_ret
 have e1 : (Builtin.zeroCells #[Value.int .u8 0] n ++ Builtin.zeroCells #[Value.int .u8 0] (G - n)).size = G := by
  simp [Builtin.zeroCells]
  omega
 exact ⟨_, rfl, World.ownsRow_made w.drew _ G (Nat.le_refl _) (by unfold maxLen; omega) (by rw [Nat.mul_one]; exact e1), (drew_below w 1).alloc (Nat.le_refl _) _⟩

theorem emflat_snoc {pcs : List (List UInt8)} {k : Nat} {pc : List UInt8} (h : pcs[k]? = some pc) : (pcs.take (k + 1)).flatten = (pcs.take k).flatten ++ pc := by
 rw [List.take_add_one, h]
 simp

set_option maxHeartbeats 1000000 in
theorem concat_any {A : Option Addr} {n cap : Nat} {pcs : List (List UInt8)} (w : World) (hp : Pcs w (fun _ => False) A cap pcs) (hn : n = pcs.length) (h0 : 0 < pcs.flatten.length) (hb : pcs.flatten.length ≤ 1099511627776) :
 Calls Tryz.prog 143 #[.slice A n cap] w (GivesN w pcs.flatten) := by
 obtain ⟨i0, hi, hz0, hz1, hz2⟩ := info_parts info_u8
 obtain ⟨vs, hvl, hsl, _, hps⟩ := hp
 have hmax : n ≤ 9223372036854775807 := by have h1 := hsl.le; have h2 := hsl.max; unfold maxLen at h2; omega
 have hget : ∀ k, k < n → ∃ pc v bl off Aj cj, pcs[k]? = some pc ∧ A = some ⟨bl, off, none⟩ ∧ v = .slice Aj pc.length cj ∧ Bs w Aj cj pc ∧ w.cell? ⟨bl, off + k, none⟩ = some v := fun k hk => by
  obtain ⟨pc, hpc⟩ : ∃ pc, pcs[k]? = some pc := ⟨_, List.getElem?_eq_getElem (by omega)⟩
  obtain ⟨v, hv⟩ : ∃ v, vs[k]? = some v := ⟨_, List.getElem?_eq_getElem (by omega)⟩
  obtain ⟨bl, off, hA, hc⟩ := hsl.at_ k v hv
  obtain ⟨Aj, cj, he, hB, _⟩ := hps k v pc hv hpc
  exact ⟨pc, v, bl, off, Aj, cj, hpc, hA, he, hB, hc⟩
 obtain ⟨T, hT⟩ : ∃ T, T = pcs.flatten.length := ⟨_, rfl⟩
 have hlen : ∀ k, (pcs.take k).flatten.length ≤ T := fun k => by rw [hT]; exact flat_len_le pcs k
 rw [← hT] at h0 hb
 have HG := Lib.hid hget
 have HL := Lib.hid hlen
 have HN := Lib.hid hn
 have HT := Lib.hid hT
 clear hget hlen hn hT hvl hsl hps
 go_enter Tryz.func143, Tryz.ntmps143
 go_wp2
 go_loop [3, 5, 11] (fun t _ x => ∃ k : Nat, k ≤ n ∧ x = .int .i64 (k : Int) ∧ t = .int .i64 (((pcs.take k).flatten.length : Nat) : Int)) (fun _ _ x => n - (intOf x).toNat)
 case atStart => exact ⟨0, Nat.zero_le _, rfl, by simp⟩
 case round =>
  obtain ⟨k, hk, rfl, rfl⟩ := hrel
  by_cases hlt : k < n
  ·have g1 : decide ((k : Int) < (n : Int)) = true := decide_eq_true (by omega)
   obtain ⟨pc, v, bl, off, Aj, cj, hpc, rfl, rfl, hB, hc⟩ := HG.out k hlt
   have h1 := HL.out (k + 1)
   rw [emflat_snoc hpc, List.length_append] at h1
   have HPC := Lib.hid hpc
   have hBB := Lib.hid hB
   obtain ⟨L, hL⟩ : ∃ L, L = (pcs.take k).flatten.length := ⟨_, rfl⟩
   obtain ⟨M, hM⟩ : ∃ M, M = pc.length := ⟨_, rfl⟩
   rw [← hL] at h1 ⊢
   rw [← hM] at h1 hc
   have HLL := Lib.hid hL
   have HMM := Lib.hid hM
   have g2 : decide ((L : Int) + (M : Int) < 0) = false := decide_eq_false (by omega)
   clear hpc hB hL hM
   go_wp2
   go_round
   case rel => exact ⟨k + 1, by omega, by go_num, by rw [emflat_snoc HPC.out, List.length_append, ← HLL.out, ← HMM.out]; go_num⟩
   case measure => simp [intOf]; omega
  ·have g1 : decide ((k : Int) < (n : Int)) = false := decide_eq_false (by omega)
   have hTk : (pcs.take k).flatten.length = T := by rw [HT.out, show k = pcs.length by have := HN.out; omega, List.take_length]
   rw [hTk]
   clear hTk
   go_wp2_with (go_at_call 155; refine (grow_any T _ hb h0).mono ?_; rintro e w1 ⟨v1, rfl, hown1, hb1⟩; have HOW1 := Lib.hid hown1; have HB1 := Lib.hid hb1; clear hown1 hb1)
   go_loopw [6, 8, 27] (fun v _ x wr => ∃ k : Nat, k ≤ n ∧ x = .int .i64 (k : Int) ∧ wr.ownsRow w.heap.size 5 1 v (pcs.take k).flatten.length (cellsOf (pcs.take k).flatten) ∧ Below w.heap.size w wr) (fun _ _ x _ => n - (intOf x).toNat)
   case atStart => exact ⟨0, Nat.zero_le _, rfl, HOW1.out, HB1.out⟩
   case round =>
    obtain ⟨j, hj, rfl, hown, hbel⟩ := hrel
    have HOW := Lib.hid hown
    have HBE := Lib.hid hbel
    have hsz := hbel.size
    clear hown hbel
    by_cases hlt2 : j < n
    ·have g3 : decide ((j : Int) < (n : Int)) = true := decide_eq_true (by omega)
     obtain ⟨pc, v, bl, off, Aj, cj, hpc, rfl, rfl, hB, hc0⟩ := HG.out j hlt2
     have h1 := HL.out (j + 1)
     rw [emflat_snoc hpc, List.length_append] at h1
     have hc := (HBE.out.cell (p := ⟨bl, off + j, none⟩) (World.block_lt_of_cell? w _ hc0)).trans hc0
     have hB2 := hB.below HBE.out (Nat.le_refl _)
     have HPC := Lib.hid hpc
     have hBB := Lib.hid hB2
     obtain ⟨L, hL⟩ : ∃ L, L = (pcs.take j).flatten.length := ⟨_, rfl⟩
     obtain ⟨M, hM⟩ : ∃ M, M = pc.length := ⟨_, rfl⟩
     rw [← hL] at h1
     rw [← hM] at h1 hc
     have HLL := Lib.hid hL
     have HMM := Lib.hid hM
     clear hpc hB hB2 hL hM hc0
     go_wp2_with (at_builtin; refine wpList_append_bs2 rfl _ _ _ rfl w.heap.size 5 i0 Tryz.underlying34 hi hz0 hz1 hz2 _ _ (pcs.take j).flatten rfl HOW.out _ _ _ pc rfl HMM.out hBB.out (by have := HLL.out; have := HMM.out; omega) hsz ?_; intro v2 w2 hown2 hg2 hm2; have HOW2 := Lib.hid hown2; have HB2 := Lib.hid (HBE.out.grown hg2 hsz (fun k e => (HOW.out.lt k e).1)); clear hown2 hg2 hm2)
     go_roundw
     case rel => exact ⟨j + 1, by omega, by go_num, by rw [emflat_snoc HPC.out, List.length_append]; exact HOW2.out, HB2.out⟩
     case measure => simp [intOf]; omega
    ·have g3 : decide ((j : Int) < (n : Int)) = false := decide_eq_false (by omega)
     have hTj : pcs.take j = pcs := by rw [show j = pcs.length by have := HN.out; omega, List.take_length]
     rw [hTj] at HOW
     clear hTj
     go_wp2
     go_ret
     exact new_own HOW.out HBE.out
end Go.Proofs.YtloheacncefkgaaGreatDoor
