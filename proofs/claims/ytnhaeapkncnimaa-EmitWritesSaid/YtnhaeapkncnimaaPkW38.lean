/- Several texts in one: Acts. What each proves, and its conditions, stands at its own head. -/
import Derived.Test.YtnhaeapkncnimaaPkW34
import Derived.Test.YtnhaeapkncnimaaPkW0
import Derived.Deep.SlicePairs
/- Acts that came in. Conditions: none but those that each theorem names. -/
namespace Go.Proofs.Ytnhaeapkncnimaa
open Go.RowKit Go.ChangeShapes
set_option linter.unusedVariables false

theorem cells_act : Try.prog.cellsOf 32 = 4 := by kernel_rfl
theorem cells_int : Try.prog.cellsOf 3 = 1 := by kernel_rfl
theorem cells_u64 : Try.prog.cellsOf 30 = 1 := by kernel_rfl
theorem cells_str : Try.prog.cellsOf 9 = 1 := by kernel_rfl
theorem acts_came {H : Type} {enc : TypeId × Value → H} {w : World} {base : Nat} {spare : Nat → Bool} {held : Bool} {fuel : Nat} {A : Option Addr} {len cap : Nat} {x : DataW H × List MemPlace}
    (h : DataW.trod enc Try.prog w base spare held fuel 22 [.slice A len cap] = some x) :
    ∃ l : List Ac, len = l.length ∧ Acts w A cap l ∧ ∀ a ∈ l, a.n < 18446744073709551616 := by
  rcases Deep.open_slice Try.underlying22 h with ⟨hcs, _⟩ | ⟨a, len', cap', m, n, D, Pl, hcs, hb, hl, hm, hmm, rfl, hx⟩
  · simp at hcs
    obtain ⟨rfl, rfl, rfl⟩ := hcs
    exact ⟨[], rfl, ⟨Nat.le_refl _, by decide, fun j a hj => by simp at hj⟩, by simp⟩
  simp at hcs
  obtain ⟨rfl, rfl, rfl⟩ := hcs
  have hlm : len ≤ m := by rw [hmm]; split <;> omega
  have each : ∀ i, i < len → ∃ q : Ac, q.n < 18446744073709551616 ∧ w.cell? (a.add (i * 4)) = some (.int .i64 q.what) ∧ w.cell? (a.add (i * 4 + 1)) = some (.int .i64 q.num) ∧ w.cell? (a.add (i * 4 + 2)) = some (.int .u64 (q.n : Int)) ∧ w.cell? (a.add (i * 4 + 3)) = some (.string (strOf q.s)) := by
    intro i hi
    obtain ⟨cs', h1, h2⟩ := hx i (by omega)
    rw [cells_act] at h1
    obtain ⟨_, hlen, hcell⟩ := World.cells?_some h1
    obtain ⟨xs, k, hk, hxy, _, hxl, hf⟩ := DataW.trod_struct Try.underlying32 h2
    match xs, hxl, cs', hlen with
    | [y0, y1, y2, y3], _, [v0, v1, v2, v3], _ =>
      have g0 : DataW.trod enc Try.prog w base spare held k 3 (([v0, v1, v2, v3].drop 0).take (Try.prog.cellsOf 3)) = some y0 := hf 0 _ rfl
      have g1 : DataW.trod enc Try.prog w base spare held k 3 (([v0, v1, v2, v3].drop 1).take (Try.prog.cellsOf 3)) = some y1 := hf 1 _ rfl
      have g2 : DataW.trod enc Try.prog w base spare held k 30 (([v0, v1, v2, v3].drop 2).take (Try.prog.cellsOf 30)) = some y2 := hf 2 _ rfl
      have g3 : DataW.trod enc Try.prog w base spare held k 9 (([v0, v1, v2, v3].drop 3).take (Try.prog.cellsOf 9)) = some y3 := hf 3 _ rfl
      rw [cells_int] at g0 g1
      rw [cells_u64] at g2
      rw [cells_str] at g3
      simp only [List.drop_zero, List.drop_succ_cons, List.take_succ_cons, List.take_zero] at g0 g1 g2 g3
      have e0 := hcell 0 (by omega)
      have e1 := hcell 1 (by omega)
      have e2 := hcell 2 (by omega)
      have e3 := hcell 3 (by omega)
      rw [Deep.add_add] at e0 e1 e2 e3
      obtain ⟨n0, q0, _, _⟩ := DataW.trod_int Try.underlying3 g0
      obtain ⟨n1, q1, _, _⟩ := DataW.trod_int Try.underlying3 g1
      obtain ⟨n2, q2, _, w2⟩ := DataW.trod_int Try.underlying30 g2
      obtain ⟨s3, q3, _, _⟩ := DataW.trod_string Try.underlying9 g3
      obtain ⟨m2, rfl, hm2⟩ := u64_came w2
      simp at q0 q1 q2 q3
      subst q0 q1 q2 q3
      exact ⟨⟨n0, n1, m2, s3.data.toList⟩, hm2, by simpa using e0, by simpa using e1, by simpa using e2, by simpa [strOf_data] using e3⟩
  obtain ⟨q, hq⟩ : ∃ f : Nat → Ac, ∀ i, i < len → (f i).n < 18446744073709551616 ∧ w.cell? (a.add (i * 4)) = some (.int .i64 (f i).what) ∧ w.cell? (a.add (i * 4 + 1)) = some (.int .i64 (f i).num) ∧ w.cell? (a.add (i * 4 + 2)) = some (.int .u64 ((f i).n : Int)) ∧ w.cell? (a.add (i * 4 + 3)) = some (.string (strOf (f i).s)) := by
    haveI : Inhabited Ac := ⟨⟨0, 0, 0, []⟩⟩
    exact Deep.choose_lt each
  refine ⟨(List.range len).map q, by simp, ⟨by simpa using hl, hm, fun j c hj => ?_⟩, fun c hc => ?_⟩
  · have hjl : j < len := by have := (List.getElem?_eq_some_iff.mp hj).1; simpa using this
    have hc : c = q j := by simp [hjl] at hj; exact hj.symm
    subst hc
    obtain ⟨_, e0, e1, e2, e3⟩ := hq j hjl
    obtain ⟨b, off, rfl, e⟩ := plain_addr (x := a) (by have := (hq 0 (by omega)).2.1; rw [Nat.zero_mul] at this; exact this)
    rw [e] at e0 e1 e2 e3
    exact ⟨b, off, rfl, e0, e1, e2, e3⟩
  · obtain ⟨j, hj, rfl⟩ := List.mem_map.mp hc
    exact (hq j (by simpa using hj)).1
end Go.Proofs.Ytnhaeapkncnimaa
