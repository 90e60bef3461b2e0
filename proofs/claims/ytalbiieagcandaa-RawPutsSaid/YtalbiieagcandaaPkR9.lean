/- Several texts in one: EmB. What each proves, and its conditions, stands at its own head. -/
import Derived.Test.YtalbiieagcandaaPkR7
import Derived.Test.YtalbiieagcandaaPkR3
/- What becomes of a writer when its bytes, its frames or the places of the open ones are others (no program here). Conditions: those that each theorem names. -/
namespace Go.Proofs.Ytalbiieagcandaa
open Go.RowKit
set_option linter.unusedVariables false

/-- S and what was made since. -/
def Since (S : Nat → Prop) (w w' : World) (k : Nat) : Prop := S k ∨ (w.heap.size ≤ k ∧ k < w'.heap.size)
theorem since_of {S : Nat → Prop} {w w' : World} : ∀ k, Since S w w' k → S k ∨ w.heap.size ≤ k := fun k h => h.imp id And.left
section
variable {B p : Nat} {S : Nat → Prop} {made : Bool} {s : Ws} {vb vf vo : Value} {ps : List (Fr × Value)} {w w2 : World}
theorem moved_lt {v v2 : Value} {e : TypeId} {size n i : Nat} {xs : List Value} {u : Value} (hm : Moved w v v2) (hs : ∀ k, v.ownBlock = some k → S k) (ho : w2.ownsRow B e size v2 n xs) : ∀ k, v2.ownBlock = some k → Since S w (w2.setCell ⟨p, i, none⟩ u) k := by
  intro k hk
  rcases hm with e | ⟨g, e, hg⟩
  · exact .inl (hs k (e ▸ hk))
  · rw [e] at hk
    cases hk
    exact .inr ⟨hg, by rw [show (w2.setCell ⟨p, i, none⟩ u).heap.size = w2.heap.size from by simp [World.setCell]]; exact (ho.lt k e).2⟩
theorem not_moved {v v2 : Value} (hm : Moved w v v2) {k : Nat} (hk : k < w.heap.size) (hv : v.ownBlock ≠ some k) : v2.ownBlock ≠ some k := by
  rcases hm with e | ⟨g, e, hg⟩
  · rw [e]; exact hv
  · rw [e]; intro e2; cases e2; omega
theorem since_lt {i : Nat} {u : Value} (h : ∀ k, S k → B ≤ k ∧ k < w.heap.size) (hB : B ≤ w.heap.size) (hs : w.heap.size ≤ w2.heap.size) : ∀ k, Since S w (w2.setCell ⟨p, i, none⟩ u) k → B ≤ k ∧ k < (w2.setCell ⟨p, i, none⟩ u).heap.size := by
  intro k hk
  have e : (w2.setCell ⟨p, i, none⟩ u).heap.size = w2.heap.size := by simp [World.setCell]
  rcases hk with hk | hk
  · exact ⟨(h k hk).1, by rw [e]; have := (h k hk).2; omega⟩
  · exact ⟨by omega, hk.2⟩
theorem put_other {row : Option Nat} (hg : w.grownBy w2 row) (i : Nat) (u : Value) {k : Nat} (hk : k < w.heap.size) (h1 : some k ≠ row) (h2 : k ≠ p) : (w2.setCell ⟨p, i, none⟩ u).heap[k]? = w.heap[k]? :=
  (heap_setCell_other w2 ⟨p, i, none⟩ k u h2).trans (hg.block k hk h1)
theorem own_put {v : Value} {e : TypeId} {size n : Nat} {xs : List Value} (ho : w2.ownsRow B e size v n xs) (i : Nat) (u : Value) (hp : v.ownBlock ≠ some p) : (w2.setCell ⟨p, i, none⟩ u).ownsRow B e size v n xs :=
  own_block ho (fun k hk => heap_setCell_other w2 ⟨p, i, none⟩ k u (fun e => hp (hk.trans (congrArg some e))))
theorem touch_put {row : Option Nat} (hg : w.grownBy w2 row) (hr : ∀ k, row = some k → S k) (hp : S p) (i : Nat) (u : Value) : Touch S w (w2.setCell ⟨p, i, none⟩ u) :=
  ((Touch.refl S w).grown hg (fun k e => .inl (hr k e))).set (q := ⟨p, i, none⟩) (.inl hp) u
theorem hd_put {X X' : Nat → Prop} {row : Option Nat} {h : List UInt8} {v : Value} (hh : Hd w S X h v) (hlt : ∀ k, S k → k < w.heap.size) (hg : w.grownBy w2 row) (i : Nat) (u : Value) (hX : ∀ k, S k → ¬ X k → ¬ X' k ∧ some k ≠ row ∧ k ≠ p) {T : Nat → Prop} (hT : ∀ k, S k → T k) : Hd (w2.setCell ⟨p, i, none⟩ u) T X' h v := by
  obtain ⟨A, cap, e, hb, hs⟩ := hh
  refine ⟨A, cap, e, ⟨hb.le, hb.max, hb.nil, fun j c hj => ?_⟩, fun a ha => ⟨hT _ (hs a ha).1, (hX _ (hs a ha).1 (hs a ha).2).1⟩⟩
  obtain ⟨b, off, ea, hc⟩ := hb.at_ j c hj
  obtain ⟨q1, q2⟩ := hs _ ea
  obtain ⟨_, q3, q4⟩ := hX _ q1 q2
  exact ⟨b, off, ea, (World.cell?_of_block (a := ⟨b, off + j, none⟩) (put_other hg i u (hlt _ q1) q3 q4)).trans hc⟩

theorem wr_raw (h : WrAt B w p S made s vb vf vo ps) (hg : w.grownBy w2 vb.ownBlock) {v2 : Value} (hm : Moved w vb v2) {raw2 : List UInt8} (ho : w2.ownsRow B 5 1 v2 raw2.length (cellsOf raw2)) :
    ∃ S', WrAt B (w2.setCell ⟨p, 1, none⟩ v2) p S' made ⟨raw2, s.fs, s.op, s.room⟩ v2 vf vo ps ∧ (∀ k, S' k → S k ∨ w.heap.size ≤ k) ∧ Touch S w (w2.setCell ⟨p, 1, none⟩ v2) := by
  have hlt := fun k hk => (h.lt k hk).2
  have hpl := hlt p h.sp
  have hB : B ≤ w.heap.size := by have := h.lt p h.sp; omega
  have hpb : some p ≠ vb.ownBlock := fun e => own_other h.raw h.obj (by decide) e.symm
  have hp2 := (hg.block p hpl hpb).trans h.obj
  refine ⟨Since S w (w2.setCell ⟨p, 1, none⟩ v2), ⟨(obj_set hp2 1 v2).trans rfl, own_put ho 1 v2 (not_moved hm hpl (fun e => hpb e.symm)), ?_, ?_, h.fs, fun q hq => ?_, .inl h.sp, moved_lt hm h.sb ho, fun k e => .inl (h.sf k e), fun k e => .inl (h.so k e), since_lt h.lt hB hg.size⟩, since_of, touch_put hg h.sb h.sp _ _⟩
  · exact own_block h.row (fun k e => put_other hg 1 v2 (hlt k (h.sf k e)) (fun e' => own_own h.raw h.row (by decide) e e'.symm) (fun e' => own_other h.row h.obj (by decide) (e' ▸ e)))
  · exact own_block h.op (fun k e => put_other hg 1 v2 (hlt k (h.so k e)) (fun e' => own_own h.raw h.op (by decide) e e'.symm) (fun e' => own_other h.op h.obj (by decide) (e' ▸ e)))
  · refine hd_put (h.hd q hq) hlt hg 1 v2 (fun k hk hX => ⟨?_, fun e => hX (.inr (.inl e.symm)), fun e => hX (.inl e)⟩) (fun k hk => .inl hk)
    rintro (e | e | e | e)
    · exact hX (.inl e)
    · exact not_moved hm (hlt k hk) (fun e' => hX (.inr (.inl e'))) e
    · exact hX (.inr (.inr (.inl e)))
    · exact hX (.inr (.inr (.inr e)))
theorem wr_op (h : WrAt B w p S made s vb vf vo ps) (hg : w.grownBy w2 vo.ownBlock) {v2 : Value} (hm : Moved w vo v2) {op2 : List Nat} (ho : w2.ownsRow B 3 1 v2 op2.length (ints op2)) :
    ∃ S', WrAt B (w2.setCell ⟨p, 3, none⟩ v2) p S' made ⟨s.raw, s.fs, op2, s.room⟩ vb vf v2 ps ∧ (∀ k, S' k → S k ∨ w.heap.size ≤ k) ∧ Touch S w (w2.setCell ⟨p, 3, none⟩ v2) := by
  have hlt := fun k hk => (h.lt k hk).2
  have hpl := hlt p h.sp
  have hB : B ≤ w.heap.size := by have := h.lt p h.sp; omega
  have hpb : some p ≠ vo.ownBlock := fun e => own_other h.op h.obj (by decide) e.symm
  have hp2 := (hg.block p hpl hpb).trans h.obj
  refine ⟨Since S w (w2.setCell ⟨p, 3, none⟩ v2), ⟨(obj_set hp2 3 v2).trans rfl, ?_, ?_, own_put ho 3 v2 (not_moved hm hpl (fun e => hpb e.symm)), h.fs, fun q hq => ?_, .inl h.sp, fun k e => .inl (h.sb k e), fun k e => .inl (h.sf k e), moved_lt hm h.so ho, since_lt h.lt hB hg.size⟩, since_of, touch_put hg h.so h.sp _ _⟩
  · exact own_block h.raw (fun k e => put_other hg 3 v2 (hlt k (h.sb k e)) (fun e' => own_own h.op h.raw (by decide) e e'.symm) (fun e' => own_other h.raw h.obj (by decide) (e' ▸ e)))
  · exact own_block h.row (fun k e => put_other hg 3 v2 (hlt k (h.sf k e)) (fun e' => own_own h.op h.row (by decide) e e'.symm) (fun e' => own_other h.row h.obj (by decide) (e' ▸ e)))
  · refine hd_put (h.hd q hq) hlt hg 3 v2 (fun k hk hX => ⟨?_, fun e => hX (.inr (.inr (.inr e.symm))), fun e => hX (.inl e)⟩) (fun k hk => .inl hk)
    rintro (e | e | e | e)
    · exact hX (.inl e)
    · exact hX (.inr (.inl e))
    · exact hX (.inr (.inr (.inl e)))
    · exact not_moved hm (hlt k hk) (fun e' => hX (.inr (.inr (.inr e')))) e
theorem wr_row (h : WrAt B w p S made s vb vf vo ps) (hg : w.grownBy w2 vf.ownBlock) {v2 : Value} (hm : Moved w vf v2) {f : Fr} (hf : f.head = []) (ho : w2.ownsRow B 133 4 v2 (ps.length + 1) (frRow (ps ++ [(f, .slice none 0 0)]))) :
    ∃ S', WrAt B (w2.setCell ⟨p, 2, none⟩ v2) p S' made ⟨s.raw, s.fs ++ [f], s.op, s.room⟩ vb v2 vo (ps ++ [(f, .slice none 0 0)]) ∧ (∀ k, S' k → S k ∨ w.heap.size ≤ k) ∧ Touch S w (w2.setCell ⟨p, 2, none⟩ v2) := by
  have hlt := fun k hk => (h.lt k hk).2
  have hpl := hlt p h.sp
  have hB : B ≤ w.heap.size := by have := h.lt p h.sp; omega
  have hpb : some p ≠ vf.ownBlock := fun e => own_other h.row h.obj (by decide) e.symm
  have hp2 := (hg.block p hpl hpb).trans h.obj
  refine ⟨Since S w (w2.setCell ⟨p, 2, none⟩ v2), ⟨(obj_set hp2 2 v2).trans rfl, ?_, ?_, ?_, ?_, fun q hq => ?_, .inl h.sp, fun k e => .inl (h.sb k e), moved_lt hm h.sf ho, fun k e => .inl (h.so k e), since_lt h.lt hB hg.size⟩, since_of, touch_put hg h.sf h.sp _ _⟩
  · exact own_block h.raw (fun k e => put_other hg 2 v2 (hlt k (h.sb k e)) (fun e' => own_own h.row h.raw (by decide) e e'.symm) (fun e' => own_other h.raw h.obj (by decide) (e' ▸ e)))
  · rw [List.length_append]; exact own_put ho 2 v2 (not_moved hm hpl (fun e => hpb e.symm))
  · exact own_block h.op (fun k e => put_other hg 2 v2 (hlt k (h.so k e)) (fun e' => own_own h.row h.op (by decide) e e'.symm) (fun e' => own_other h.op h.obj (by decide) (e' ▸ e)))
  · rw [List.map_append, h.fs]; rfl
  · rcases List.mem_append.1 hq with hq | hq
    · refine hd_put (h.hd q hq) hlt hg 2 v2 (fun k hk hX => ⟨?_, fun e => hX (.inr (.inr (.inl e.symm))), fun e => hX (.inl e)⟩) (fun k hk => .inl hk)
      rintro (e | e | e | e)
      · exact hX (.inl e)
      · exact hX (.inr (.inl e))
      · exact not_moved hm (hlt k hk) (fun e' => hX (.inr (.inr (.inl e')))) e
      · exact hX (.inr (.inr (.inr e)))
    · obtain rfl : q = (f, .slice none 0 0) := by simpa using hq
      exact ⟨none, 0, by simp [hf], by rw [hf]; exact bs_nil _, fun a ha => by cases ha⟩
/-- The room of the heads. -/
theorem wr_room (h : WrAt B w p S made s vb vf vo ps) (r : Nat) : WrAt B (w.setCell ⟨p, 4, none⟩ (.int .i64 (r : Int))) p S made ⟨s.raw, s.fs, s.op, r⟩ vb vf vo ps := by
  have ho : ∀ k, k ≠ p → (w.setCell ⟨p, 4, none⟩ (.int .i64 (r : Int))).heap[k]? = w.heap[k]? := fun k hk => heap_setCell_other w ⟨p, 4, none⟩ k _ hk
  refine ⟨(obj_set h.obj 4 _).trans rfl, own_block h.raw (fun k e => ho k (fun e' => own_other h.raw h.obj (by decide) (e' ▸ e))), own_block h.row (fun k e => ho k (fun e' => own_other h.row h.obj (by decide) (e' ▸ e))), own_block h.op (fun k e => ho k (fun e' => own_other h.op h.obj (by decide) (e' ▸ e))), h.fs, fun q hq => ?_, h.sp, h.sb, h.sf, h.so, fun k hk => ⟨(h.lt k hk).1, by have := (h.lt k hk).2; simpa [World.setCell] using this⟩⟩
  obtain ⟨A, cap, e, hb, hs⟩ := h.hd q hq
  refine ⟨A, cap, e, ⟨hb.le, hb.max, hb.nil, fun j c hj => ?_⟩, hs⟩
  obtain ⟨b, off, ea, hc⟩ := hb.at_ j c hj
  exact ⟨b, off, ea, (World.cell?_of_block (a := ⟨b, off + j, none⟩) (ho b (fun e' => (hs _ ea).2 (.inl e')))).trans hc⟩
end
end Go.Proofs.Ytalbiieagcandaa
