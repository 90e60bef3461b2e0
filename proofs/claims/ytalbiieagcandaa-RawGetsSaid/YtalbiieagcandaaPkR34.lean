/- Several texts in one: RawMem. What each proves, and its conditions, stands at its own head. -/
import Derived.Test.YtalbiieagcandaaChecked
import Derived.Test.YtalbiieagcandaaPkR20
import Derived.Test.YtalbiieagcandaaPkR0
import Derived.Test.YtalbiieagcandaaPkR2
import Derived.Deep.SlicePairs
/- Fields in memory: lists that are read, lists that came in. Conditions: those that each theorem names. -/
namespace Go.Proofs.Ytalbiieagcandaa
open Go.RowKit Go.ChangeShapes
set_option linter.unusedVariables false
set_option maxRecDepth 100000

def rawV (x : Rw) : Value := .agg #[.int .i64 x.num, .int .i64 x.wire, .int .u64 (x.n : Int), .string (strOf x.s)]
def rawCells (x : Rw) : List Value := [.int .i64 x.num, .int .i64 x.wire, .int .u64 (x.n : Int), .string (strOf x.s)]
theorem rawCells_length (x : Rw) : (rawCells x).length = 4 := rfl
def rawRow (l : List Rw) : List Value := l.flatMap rawCells
theorem rawRow_length (l : List Rw) : (rawRow l).length = l.length * 4 := flat_length rawCells 4 rawCells_length l
theorem rawRow_append (a b : List Rw) : rawRow (a ++ b) = rawRow a ++ rawRow b := by simp [rawRow]
/-- A slice that reads as these fields. -/
structure Raws (w : World) (A : Option Addr) (cap : Nat) (l : List Rw) : Prop where
  le : l.length ≤ cap
  max : cap ≤ 9223372036854775807
  at_ : ∀ (j : Nat) x, l[j]? = some x → ∃ g off, A = some ⟨g, off, none⟩ ∧ w.cell? ⟨g, off + j * 4, none⟩ = some (.int .i64 x.num) ∧ w.cell? ⟨g, off + j * 4 + 1, none⟩ = some (.int .i64 x.wire) ∧ w.cell? ⟨g, off + j * 4 + 2, none⟩ = some (.int .u64 (x.n : Int)) ∧ w.cell? ⟨g, off + j * 4 + 3, none⟩ = some (.string (strOf x.s))
theorem raws_nil (w : World) (A : Option Addr) (cap : Nat) (h : cap ≤ 9223372036854775807) : Raws w A cap [] := ⟨Nat.zero_le _, h, fun j x hj => by simp at hj⟩
theorem lt_of_cell {w : World} {b o : Nat} {v : Value} (h : w.cell? ⟨b, o, none⟩ = some v) : b < w.heap.size := by
  rcases Nat.lt_or_ge b w.heap.size with h' | h'
  · exact h'
  · simp [World.cell?, Array.getElem?_eq_none h'] at h
theorem Raws.bel {w w' : World} {A : Option Addr} {cap : Nat} {l : List Rw} (h : Raws w A cap l) (hb : Below w.heap.size w w') : Raws w' A cap l :=
  ⟨h.le, h.max, fun j x hj => by
    obtain ⟨g, off, e, c0, c1, c2, c3⟩ := h.at_ j x hj
    have hg := lt_of_cell c0
    exact ⟨g, off, e, (hb.cell (p := ⟨g, off + j * 4, none⟩) hg).trans c0, (hb.cell (p := ⟨g, off + j * 4 + 1, none⟩) hg).trans c1, (hb.cell (p := ⟨g, off + j * 4 + 2, none⟩) hg).trans c2, (hb.cell (p := ⟨g, off + j * 4 + 3, none⟩) hg).trans c3⟩⟩
/-- A row of the call's own reads so. -/
theorem Raws.own {w : World} {base : Nat} {t : TypeId} {v : Value} {n : Nat} {l : List Rw} (h : w.ownsRow base t 4 v n (rawRow l)) : n = l.length ∧ ∃ A cap, v = .slice A l.length cap ∧ Raws w A cap l := by
  have hn : n = l.length := by have := h.1; rw [rawRow_length] at this; omega
  subst hn
  obtain ⟨A, cap, rfl, h1, h2, h3, _⟩ := own_form h
  refine ⟨rfl, A, cap, rfl, h1, by unfold maxLen at h2; omega, fun j x hj => ?_⟩
  have hjl := (List.getElem?_eq_some_iff.mp hj).1
  obtain ⟨g, cp, hv, _, _, _, _⟩ := own_pos h (by omega)
  injection hv with e1 e2 e3
  subst e1 e3
  have hget : ∀ i, i < 4 → (rawRow l)[j * 4 + i]? = (rawCells x)[i]? := fun i hi => by rw [Nat.mul_comm j 4]; exact flat_get rawCells 4 rawCells_length l j x i hj hi
  have hc : ∀ i u, i < 4 → (rawCells x)[i]? = some u → w.cell? ⟨g, j * 4 + i, none⟩ = some u := fun i u hi hu => own_cell h rfl ((hget i hi).trans hu)
  refine ⟨g, 0, rfl, ?_, ?_, ?_, ?_⟩
  · have := hc 0 _ (by omega) rfl; rwa [Nat.zero_add]
  · have := hc 1 _ (by omega) rfl; rwa [Nat.zero_add]
  · have := hc 2 _ (by omega) rfl; rwa [Nat.zero_add]
  · have := hc 3 _ (by omega) rfl; rwa [Nat.zero_add]

theorem cells_raw : Try.prog.cellsOf 28 = 4 := by kernel_rfl
theorem cellsof_int : Try.prog.cellsOf 3 = 1 := by kernel_rfl
theorem cellsof_u64 : Try.prog.cellsOf 26 = 1 := by kernel_rfl
theorem cellsof_str : Try.prog.cellsOf 9 = 1 := by kernel_rfl
theorem raws_came {H : Type} {enc : TypeId × Value → H} {w : World} {base : Nat} {spare : Nat → Bool} {held : Bool} {fuel : Nat} {A : Option Addr} {len cap : Nat} {x : DataW H × List MemPlace}
    (h : DataW.trod enc Try.prog w base spare held fuel 22 [.slice A len cap] = some x) :
    ∃ l : List Rw, len = l.length ∧ Raws w A cap l ∧ ∀ a ∈ l, a.n < 18446744073709551616 := by
  rcases Deep.open_slice Try.underlying22 h with ⟨hcs, _⟩ | ⟨a, len', cap', m, n, D, Pl, hcs, hb, hl, hm, hmm, rfl, hx⟩
  · simp at hcs
    obtain ⟨rfl, rfl, rfl⟩ := hcs
    exact ⟨[], rfl, ⟨Nat.le_refl _, by decide, fun j a hj => by simp at hj⟩, by simp⟩
  simp at hcs
  obtain ⟨rfl, rfl, rfl⟩ := hcs
  have hlm : len ≤ m := by rw [hmm]; split <;> omega
  have each : ∀ i, i < len → ∃ q : Rw, q.n < 18446744073709551616 ∧ w.cell? (a.add (i * 4)) = some (.int .i64 q.num) ∧ w.cell? (a.add (i * 4 + 1)) = some (.int .i64 q.wire) ∧ w.cell? (a.add (i * 4 + 2)) = some (.int .u64 (q.n : Int)) ∧ w.cell? (a.add (i * 4 + 3)) = some (.string (strOf q.s)) := by
    intro i hi
    obtain ⟨cs', h1, h2⟩ := hx i (by omega)
    rw [cells_raw] at h1
    obtain ⟨_, hlen, hcell⟩ := World.cells?_some h1
    obtain ⟨xs, k, hk, hxy, _, hxl, hf⟩ := DataW.trod_struct Try.underlying28 h2
    match xs, hxl, cs', hlen with
    | [y0, y1, y2, y3], _, [v0, v1, v2, v3], _ =>
      have g0 : DataW.trod enc Try.prog w base spare held k 3 (([v0, v1, v2, v3].drop 0).take (Try.prog.cellsOf 3)) = some y0 := hf 0 _ rfl
      have g1 : DataW.trod enc Try.prog w base spare held k 3 (([v0, v1, v2, v3].drop 1).take (Try.prog.cellsOf 3)) = some y1 := hf 1 _ rfl
      have g2 : DataW.trod enc Try.prog w base spare held k 26 (([v0, v1, v2, v3].drop 2).take (Try.prog.cellsOf 26)) = some y2 := hf 2 _ rfl
      have g3 : DataW.trod enc Try.prog w base spare held k 9 (([v0, v1, v2, v3].drop 3).take (Try.prog.cellsOf 9)) = some y3 := hf 3 _ rfl
      rw [cellsof_int] at g0 g1
      rw [cellsof_u64] at g2
      rw [cellsof_str] at g3
      simp only [List.drop_zero, List.drop_succ_cons, List.take_succ_cons, List.take_zero] at g0 g1 g2 g3
      have e0 := hcell 0 (by omega)
      have e1 := hcell 1 (by omega)
      have e2 := hcell 2 (by omega)
      have e3 := hcell 3 (by omega)
      rw [Deep.add_add] at e0 e1 e2 e3
      obtain ⟨n0, q0, _, _⟩ := DataW.trod_int Try.underlying3 g0
      obtain ⟨n1, q1, _, _⟩ := DataW.trod_int Try.underlying3 g1
      obtain ⟨n2, q2, _, w2⟩ := DataW.trod_int Try.underlying26 g2
      obtain ⟨s3, q3, _, _⟩ := DataW.trod_string Try.underlying9 g3
      obtain ⟨m2, rfl, hm2⟩ := u64_came w2
      simp at q0 q1 q2 q3
      subst q0 q1 q2 q3
      exact ⟨⟨n0, n1, m2, s3.data.toList⟩, hm2, by simpa using e0, by simpa using e1, by simpa using e2, by simpa [strOf_data] using e3⟩
  obtain ⟨q, hq⟩ : ∃ f : Nat → Rw, ∀ i, i < len → (f i).n < 18446744073709551616 ∧ w.cell? (a.add (i * 4)) = some (.int .i64 (f i).num) ∧ w.cell? (a.add (i * 4 + 1)) = some (.int .i64 (f i).wire) ∧ w.cell? (a.add (i * 4 + 2)) = some (.int .u64 ((f i).n : Int)) ∧ w.cell? (a.add (i * 4 + 3)) = some (.string (strOf (f i).s)) := by
    haveI : Inhabited Rw := ⟨⟨0, 0, 0, []⟩⟩
    exact Deep.choose_lt each
  refine ⟨(List.range len).map q, by simp, ⟨by simpa using hl, by unfold maxLen at hm; omega, fun j c hj => ?_⟩, fun c hc => ?_⟩
  · have hjl : j < len := by have := (List.getElem?_eq_some_iff.mp hj).1; simpa using this
    have hc : c = q j := by simp [hjl] at hj; exact hj.symm
    subst hc
    obtain ⟨_, e0, e1, e2, e3⟩ := hq j hjl
    obtain ⟨b, off, rfl, e⟩ := plain_addr (x := a) (by have := (hq 0 (by omega)).2.1; rw [Nat.zero_mul] at this; exact this)
    rw [e] at e0 e1 e2 e3
    exact ⟨b, off, rfl, e0, e1, e2, e3⟩
  · obtain ⟨j, hj, rfl⟩ := List.mem_map.mp hc
    exact (hq j (by simpa using hj)).1
end Go.Proofs.Ytalbiieagcandaa
