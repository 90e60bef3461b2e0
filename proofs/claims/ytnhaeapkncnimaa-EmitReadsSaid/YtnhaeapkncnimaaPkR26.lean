/- Several texts in one: EmH. What each proves, and its conditions, stands at its own head. -/
import Derived.Test.YtnhaeapkncnimaaPkR9
import Derived.Test.YtnhaeapkncnimaaPkR22
/- What becomes of a writer when a frame's head is laid down, and when fewer frames are open (no program here); the plain words for Close. Conditions: those that each theorem names. -/
namespace Go.Proofs.Ytnhaeapkncnimaa
open Go.RowKit
open Go.Lib (uvarint)
set_option linter.unusedVariables false

def Fr.headed (f : Fr) (h : List UInt8) : Fr := ⟨f.tag, f.place, f.before, h⟩
/-- The head of a frame that ends at this length. -/
def Fr.headAt (f : Fr) (len : Nat) : List UInt8 := uvarint f.tag ++ uvarint (len - f.before)
/-- The innermost frame, number o, has ended. -/
def Ws.shut1 (s : Ws) (init : List Nat) (o : Nat) (f : Fr) : Ws := ⟨s.raw, s.fs.set o (f.headed (f.headAt (s.raw.length + s.room))), init, s.room + (f.headAt (s.raw.length + s.room)).length⟩
def Ws.shut (s : Ws) (init : List Nat) (o : Nat) (f : Fr) : Ws := if init = [] then (s.shut1 init o f).lay else s.shut1 init o f

section
variable {B p : Nat} {S : Nat → Prop} {made : Bool} {s : Ws} {vb vf vo : Value} {ps : List (Fr × Value)} {w w2 : World}
theorem wr_head (h : WrAt B w p S made s vb vf vo ps) (hb : Below w.heap.size w w2) {gf o : Nat} (hgf : vf.ownBlock = some gf) {f : Fr} {v : Value} (ho : ps[o]? = some (f, v)) {A : Option Addr} {n cap : Nat} {hd : List UInt8} (hB : Bs w2 A cap hd) (hn : n = hd.length) (hA : ∀ a, A = some a → w.heap.size ≤ a.block ∧ a.block < w2.heap.size) :
    ∃ S', WrAt B (w2.setCell ⟨gf, o * 4 + 3, none⟩ (.slice A n cap)) p S' made ⟨s.raw, s.fs.set o (f.headed hd), s.op, s.room⟩ vb vf vo (ps.set o (f.headed hd, .slice A n cap)) ∧ (∀ k, S' k → S k ∨ w.heap.size ≤ k) ∧ Touch S w (w2.setCell ⟨gf, o * 4 + 3, none⟩ (.slice A n cap)) := by
  subst hn
  have h2 : WrAt B w2 p S made s vb vf vo ps := h.keep (fun k hk => hb.block k (h.lt k hk).2) hb.size
  have hlt := fun k hk => (h.lt k hk).2
  have hlo : o < ps.length := (List.getElem?_eq_some_iff.1 ho).1
  have hne : ∀ k, k ≠ gf → (w2.setCell ⟨gf, o * 4 + 3, none⟩ (.slice A hd.length cap)).heap[k]? = w2.heap[k]? := fun k hk => heap_setCell_other w2 ⟨gf, o * 4 + 3, none⟩ k _ hk
  have hpg : p ≠ gf := fun e => own_other h.row h.obj (by decide) (e ▸ hgf)
  have hrow := own_set h2.row hgf (j := o * 4 + 3) (by rw [frRow_length]; omega) (.slice A hd.length cap)
  rw [show (frRow ps).set (o * 4 + 3) (.slice A hd.length cap) = frRow (ps.set o (f.headed hd, .slice A hd.length cap)) from by
    unfold frRow
    rw [Nat.mul_comm o 4]
    exact flat_set frCells 4 frCells_length ps o (f, v) (f.headed hd, .slice A hd.length cap) 3 _ ho (by decide) rfl] at hrow
  refine ⟨Since S w (w2.setCell ⟨gf, o * 4 + 3, none⟩ (.slice A hd.length cap)), ⟨(hne p hpg).trans h2.obj, own_block h2.raw (fun k e => hne k (fun e' => own_own h.raw h.row (by decide) hgf (e' ▸ e))), by rw [List.length_set]; exact hrow, own_block h2.op (fun k e => hne k (fun e' => own_own h.op h.row (by decide) hgf (e' ▸ e))), ?_, fun q hq => ?_, .inl h.sp, fun k e => .inl (h.sb k e), fun k e => .inl (h.sf k e), fun k e => .inl (h.so k e), ?_⟩, since_of, (Touch.of_below S hb).set (q := ⟨gf, o * 4 + 3, none⟩) (.inl (h.sf gf hgf)) _⟩
  · rw [List.map_set, h.fs]
  · have hkeepB : ∀ {A' : Option Addr} {c' : Nat} {bs : List UInt8}, Bs w2 A' c' bs → (∀ a, A' = some a → a.block ≠ gf) → Bs (w2.setCell ⟨gf, o * 4 + 3, none⟩ (.slice A hd.length cap)) A' c' bs := fun hb' hk => Bs.heap hb' (fun a ha => hne _ (hk a ha))
    rcases List.mem_or_eq_of_mem_set hq with hq | rfl
    · obtain ⟨A', c', e, hb', hs'⟩ := h2.hd q hq
      exact ⟨A', c', e, hkeepB hb' (fun a ha e' => (hs' a ha).2 (.inr (.inr (.inl (e' ▸ hgf))))), fun a ha => ⟨.inl (hs' a ha).1, (hs' a ha).2⟩⟩
    · refine ⟨A, cap, rfl, hkeepB hB (fun a ha e' => by have := (hA a ha).1; have := hlt gf (h.sf gf hgf); omega), fun a ha => ⟨.inr ⟨(hA a ha).1, by rw [show (w2.setCell ⟨gf, o * 4 + 3, none⟩ (.slice A hd.length cap)).heap.size = w2.heap.size from by simp [World.setCell]]; exact (hA a ha).2⟩, fun hm => ?_⟩⟩
      have q1 := (hA a ha).1
      rcases hm with e | e | e | e
      · have := hlt p h.sp; omega
      · have := hlt _ (h.sb _ e); omega
      · have := hlt _ (h.sf _ e); omega
      · have := hlt _ (h.so _ e); omega
  · intro k hk
    have e : (w2.setCell ⟨gf, o * 4 + 3, none⟩ (.slice A hd.length cap)).heap.size = w2.heap.size := by simp [World.setCell]
    rcases hk with hk | hk
    · exact ⟨(h.lt k hk).1, by rw [e]; have := (h.lt k hk).2; have := hb.size; omega⟩
    · exact ⟨by have := h.lt p h.sp; omega, hk.2⟩
/-- Fewer frames are open. -/
theorem wr_take {g : Nat} {capo : Nat} (h : WrAt B w p S made s vb vf (.slice (some ⟨g, 0, none⟩) s.op.length capo) ps) {init : List Nat} {o : Nat} (hop : s.op = init ++ [o]) :
    ∃ S', WrAt B (w.setCell ⟨p, 3, none⟩ (.slice (some ⟨g, 0, none⟩) init.length capo)) p S' made ⟨s.raw, s.fs, init, s.room⟩ vb vf (.slice (some ⟨g, 0, none⟩) init.length capo) ps ∧ (∀ k, S' k → S k ∨ w.heap.size ≤ k) ∧ Touch S w (w.setCell ⟨p, 3, none⟩ (.slice (some ⟨g, 0, none⟩) init.length capo)) := by
  have ho := own_take h.op (k := init.length) (by rw [hop]; simp)
  rw [hop, ints_append, Nat.mul_one, List.take_append_of_le_length (by rw [ints_length]; omega), List.take_of_length_le (by rw [ints_length]; omega)] at ho
  exact wr_op h (World.grownBy.refl _ _) (v2 := .slice (some ⟨g, 0, none⟩) init.length capo) (.inl rfl) (op2 := init) ho
end
end Go.Proofs.Ytnhaeapkncnimaa
