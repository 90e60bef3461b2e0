/- Several texts in one: RrE. What each proves, and its conditions, stands at its own head. -/
import Derived.Test.YtpfdnggacpehdaaGreatDoorPkDU23
import Derived.Test.YtpfdnggacpehdaaGreatDoorPkDU31
import Derived.Test.YtpfdnggacpehdaaGreatDoorPkDU32
import Derived.Test.YtpfdnggacpehdaaGreatDoorPkDU27
import Derived.Test.YtpfdnggacpehdaaGreatDoorPkDU7
/- All fields of bytes, read by the document's cursor. Conditions: those that each theorem names. -/
namespace Go.Proofs.YtpfdnggacpehdaaGreatDoor
open Go.RowKit
set_option linter.unusedVariables false
set_option maxRecDepth 100000

/-- The cursor, and the two lists, in memory. -/
structure GetAt (w0 wr : World) (p g : Nat) (bs : List UInt8) (s : St) (acc : List (Rw × Nat)) (vo va : Value) : Prop where
  ref : Ref w0 wr p g bs s
  out : wr.ownsRow w0.heap.size 98 4 vo acc.length (rawRow (acc.map Prod.fst))
  at_ : wr.ownsRow w0.heap.size 3 1 va acc.length (ints (acc.map Prod.snd))
  ne : va.ownBlock ≠ some g
section
variable {w0 wr : World} {p g : Nat} {bs : List UInt8} {s : St} {acc : List (Rw × Nat)} {vo va : Value}
theorem GetAt.p_out (h : GetAt w0 wr p g bs s acc vo va) (hfr : s.fr ≠ []) : vo.ownBlock ≠ some p ∧ va.ownBlock ≠ some p ∧ vo.ownBlock ≠ some g := by
  obtain ⟨l, r, hlr⟩ : ∃ l r, s.fr = l :: r := by cases hf : s.fr with | nil => exact absurd hf hfr | cons l r => exact ⟨l, r, rfl⟩
  obtain ⟨A, cap, c, _, hp, hst⟩ := ref_some h.ref hlr
  obtain ⟨cur, h1, _⟩ := hst.row
  exact ⟨own_other h.out hp (by decide), own_other h.at_ hp (by decide), own_other h.out h1 (by decide)⟩
/-- Behind one field. -/
theorem GetAt.one (h : GetAt w0 wr p g bs s acc vo va) (hfr : s.fr ≠ []) {w2 : World} {s2 : St} {v : Value} {e : Ending} (hr : RefTo w0 wr p g bs s2 v e w2) : e = .returned v ∧ ∃ g2, GetAt w0 w2 p g2 bs s2 acc vo va := by
  obtain ⟨he, g2, hg2, hr2, ho⟩ := hr
  obtain ⟨n1, n2, n3⟩ := h.p_out hfr
  refine ⟨he, g2, hr2, own_block h.out (fun k hk => ho.block k (h.out.lt k hk).2 (fun e => n1 (e ▸ hk)) (fun e => n3 (e ▸ hk))), own_block h.at_ (fun k hk => ho.block k (h.at_.lt k hk).2 (fun e => n2 (e ▸ hk)) (fun e => h.ne (e ▸ hk))), ?_⟩
  intro hk
  have := h.at_.lt _ hk
  rcases hg2 with rfl | hg
  · exact h.ne hk
  · omega
end
theorem grown_keep {w w' : World} {v : Value} (hg : w.grownBy w' v.ownBlock) {k : Nat} (hk : k < w.heap.size) (hv : v.ownBlock ≠ some k) : w'.heap[k]? = w.heap[k]? := hg.block k hk (fun e => hv e.symm)
/-- Behind both appends. -/
theorem GetAt.more {w0 w2 a1 a2 a3 a4 a5 : World} {p g : Nat} {bs : List UInt8} {s : St} {acc : List (Rw × Nat)} {vo va vo2 va2 : Value} {x : Rw} {at0 : Nat} {o1 o2 o4 : Obj}
    (h : GetAt w0 w2 p g bs s acc vo va) (hfr : s.fr ≠ []) (e1 : a1 = w2.alloc o1) (e2 : a2 = a1.alloc o2)
    (h3 : a3.ownsRow w0.heap.size 98 4 vo2 (acc.length + 1) (rawRow (acc.map Prod.fst) ++ rawCells x)) (g3 : a2.grownBy a3 vo.ownBlock) (m3 : Moved a2 vo vo2)
    (e4 : a4 = a3.alloc o4) (h5 : a5.ownsRow w0.heap.size 3 1 va2 (acc.length + 1) (ints (acc.map Prod.snd) ++ [.int .i64 (at0 : Int)])) (g5 : a4.grownBy a5 va.ownBlock) (m5 : Moved a4 va va2) :
    GetAt w0 a5 p g bs s (acc ++ [(x, at0)]) vo2 va2 := by
  obtain ⟨n1, n2, n3⟩ := h.p_out hfr
  have s1 : a1.heap.size = w2.heap.size + 1 := by rw [e1]; simp
  have s2 : a2.heap.size = a1.heap.size + 1 := by rw [e2]; simp
  have s4 : a4.heap.size = a3.heap.size + 1 := by rw [e4]; simp
  have z3 := g3.size
  have z5 := g5.size
  have hp := h.ref.1.2.2.2.1
  have hg := h.ref.1.2.2.2.2.1
  have hW := h.ref.1.2.2.2.2.2.1.size
  have b12 : Below w2.heap.size w2 a2 := by rw [e2, e1]; exact ((Below.refl _ w2).alloc (Nat.le_refl _) o1).alloc (by simp) o2
  have k2 : ∀ k, k < w2.heap.size → a2.heap[k]? = w2.heap[k]? := fun k hk => b12.block k hk
  have k4 : ∀ k, k < a3.heap.size → a4.heap[k]? = a3.heap[k]? := fun k hk => by rw [e4]; exact Below.heap_alloc _ _ _ hk
  have stay : ∀ k, k < w2.heap.size → vo.ownBlock ≠ some k → va.ownBlock ≠ some k → a5.heap[k]? = w2.heap[k]? := fun k hk i1 i2 => by
    rw [grown_keep g5 (by omega) i2, k4 k (by omega), grown_keep g3 (by omega) i1, k2 k hk]
  have va3 : a3.ownsRow w0.heap.size 3 1 va acc.length (ints (acc.map Prod.snd)) := own_block h.at_ (fun k hk => by
    have hkl := (h.at_.lt k hk).2
    rw [grown_keep g3 (by omega) (own_own h.out h.at_ (by decide) hk), k2 k hkl])
  have hbel : Below w0.heap.size w0 a5 := by
    have q2 := h.ref.1.2.2.2.2.2.1.trans (b12.mono hW)
    have q3 := q2.grown g3 (by omega) (fun k hk => (h.out.lt k hk).1)
    have q4 : Below w0.heap.size w0 a4 := by rw [e4]; exact q3.alloc (by omega) o4
    exact q4.grown g5 (by omega) (fun k hk => (h.at_.lt k hk).1)
  have nvg : va2.ownBlock ≠ some g := by
    rcases m5 with e | ⟨k, e, hk⟩
    · rw [e]; exact h.ne
    · rw [e]; intro e'; injection e' with e'; omega
  refine ⟨h.ref.keep (by omega) hbel (stay p hp n1 n2) (stay g hg n3 h.ne), ?_, ?_, nvg⟩
  · rw [List.length_append, List.map_append, rawRow_append]
    have e : rawRow (List.map Prod.fst [(x, at0)]) = rawCells x := by simp [rawRow]
    rw [e]
    exact own_block h3 (fun k hk => by
      have hkl := (h3.lt k hk).2
      rw [grown_keep g5 (by omega) (own_own va3 h3 (by decide) hk), k4 k hkl])
  · rw [List.length_append, List.map_append, ints_append]
    exact h5

def sliceLen : Value → Nat
  | .slice _ n _ => n
  | _ => 0
theorem GetAt.bel {w0 wr w' : World} {p g : Nat} {bs : List UInt8} {s : St} {acc : List (Rw × Nat)} {vo va : Value} (h : GetAt w0 wr p g bs s acc vo va) (hb : Below wr.heap.size wr w') : GetAt w0 w' p g bs s acc vo va :=
  ⟨h.ref.bel hb, own_below h.out hb, own_below h.at_ hb, h.ne⟩
theorem GetAt.len {w0 wr : World} {p g : Nat} {bs : List UInt8} {s : St} {acc : List (Rw × Nat)} {vo va : Value} (h : GetAt w0 wr p g bs s acc vo va) : sliceLen vo = acc.length := by
  obtain ⟨A, cap, e, _⟩ := own_form h.out
  rw [e]; rfl
end Go.Proofs.YtpfdnggacpehdaaGreatDoor
