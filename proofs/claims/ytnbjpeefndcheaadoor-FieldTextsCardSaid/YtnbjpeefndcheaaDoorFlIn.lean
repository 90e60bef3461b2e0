/- What came in by value as a field. Conditions: those that each theorem names. -/
import Derived.Test.YtnbjpeefndcheaaDoorAggIn
import Derived.Test.YtnbjpeefndcheaaDoorFlMath
import Derived.SizedLaws
namespace Go.Proofs.YtnbjpeefndcheaaDoor
open Go.RowKit Go.ChangeShapes Go.WideShapes
set_option linter.unusedVariables false
set_option maxRecDepth 100000

theorem cells_fd : Tryd.prog.cellsOf 23 = 7 := by kernel_rfl
theorem cells_fdb : Tryd.prog.cellsOf 4 = 1 := by kernel_rfl
theorem cells_fds : Tryd.prog.cellsOf 9 = 1 := by kernel_rfl
theorem cells_fdi : Tryd.prog.cellsOf 3 = 1 := by kernel_rfl
theorem str_of_data (s : ByteArray) : s = strOf s.data.toList := by cases s; simp [strOf]
theorem field_came {H : Type} {enc : TypeId × Value → H} {w : World} {base : Nat} {spare : Nat → Bool} {held : Bool} {xs : Array Value} {d : DataW H} {p : List MemPlace}
    (h : DataW.Trod enc Tryd.prog w base spare held 23 (.agg xs) d p) : ∃ f : Fd, Value.agg xs = fdV f ∧ d = fdD f ∧ Int64 f.num ∧ Int64 f.ty := by
  obtain ⟨fuel, hf⟩ := h
  have hcs : (Value.agg xs).cells.toList = xs.toList := rfl
  rw [hcs] at hf
  obtain ⟨ys, m, rfl, ex, hl, hn, he⟩ := DataW.trod_struct Tryd.underlying23 hf
  rw [cells_fd] at hl
  obtain ⟨l⟩ := xs
  match l, hl, ys, hn with
  | [v0, v1, v2, v3, v4, v5, v6], _, [y0, y1, y2, y3, y4, y5, y6], _ =>
    have g0 : DataW.trod enc Tryd.prog w base spare held m 9 (([v0, v1, v2, v3, v4, v5, v6].drop 0).take (Tryd.prog.cellsOf 9)) = some y0 := he 0 _ rfl
    have g1 : DataW.trod enc Tryd.prog w base spare held m 3 (([v0, v1, v2, v3, v4, v5, v6].drop 1).take (Tryd.prog.cellsOf 3)) = some y1 := he 1 _ rfl
    have g2 : DataW.trod enc Tryd.prog w base spare held m 3 (([v0, v1, v2, v3, v4, v5, v6].drop 2).take (Tryd.prog.cellsOf 3)) = some y2 := he 2 _ rfl
    have g3 : DataW.trod enc Tryd.prog w base spare held m 9 (([v0, v1, v2, v3, v4, v5, v6].drop 3).take (Tryd.prog.cellsOf 9)) = some y3 := he 3 _ rfl
    have g4 : DataW.trod enc Tryd.prog w base spare held m 4 (([v0, v1, v2, v3, v4, v5, v6].drop 4).take (Tryd.prog.cellsOf 4)) = some y4 := he 4 _ rfl
    have g5 : DataW.trod enc Tryd.prog w base spare held m 4 (([v0, v1, v2, v3, v4, v5, v6].drop 5).take (Tryd.prog.cellsOf 4)) = some y5 := he 5 _ rfl
    have g6 : DataW.trod enc Tryd.prog w base spare held m 9 (([v0, v1, v2, v3, v4, v5, v6].drop 6).take (Tryd.prog.cellsOf 9)) = some y6 := he 6 _ rfl
    rw [cells_fds] at g0 g3 g6
    rw [cells_fdi] at g1 g2
    rw [cells_fdb] at g4 g5
    simp only [List.drop_zero, List.drop_succ_cons, List.take_succ_cons, List.take_zero] at g0 g1 g2 g3 g4 g5 g6
    obtain ⟨s0, q0, z0, _⟩ := DataW.trod_string Tryd.underlying9 g0
    obtain ⟨n1, q1, z1, w1⟩ := DataW.trod_int Tryd.underlying3 g1
    obtain ⟨n2, q2, z2, w2⟩ := DataW.trod_int Tryd.underlying3 g2
    obtain ⟨s3, q3, z3, _⟩ := DataW.trod_string Tryd.underlying9 g3
    obtain ⟨b4, q4, z4⟩ := DataW.trod_bool Tryd.underlying4 g4
    obtain ⟨b5, q5, z5⟩ := DataW.trod_bool Tryd.underlying4 g5
    obtain ⟨s6, q6, z6, _⟩ := DataW.trod_string Tryd.underlying9 g6
    simp at q0 q1 q2 q3 q4 q5 q6
    subst q0 q1 q2 q3 q4 q5 q6
    refine ⟨⟨s0.data.toList, n1, n2, s3.data.toList, b4, b5, s6.data.toList⟩, ?_, ?_, i64_came w1, i64_came w2⟩
    · unfold fdV
      rw [← str_of_data, ← str_of_data, ← str_of_data]
    · have e := congrArg Prod.fst ex
      simp only [List.map_cons, List.map_nil, z0, z1, z2, z3, z4, z5, z6] at e
      exact e
theorem field_sized {H : Type} {ts : List TypeId} {ds : List (DataW H)} {j : Nat} {f : Fd} (h : (DataW.weightsEach Tryd.prog ts ds).all (· ≤ reachBytes) = true) (ht : ts[j]? = some 23) (hd : ds[j]? = some (fdD f)) :
    f.name.length ≤ reachBytes ∧ f.ref.length ≤ reachBytes ∧ f.one.length ≤ reachBytes := by
  have hm := DataW.weights_mem_each (P := Tryd.prog) ht hd
  have hall : ∀ n ∈ DataW.weightsEach Tryd.prog ts ds, n ≤ reachBytes := fun n hn => by simpa using List.all_eq_true.1 h n hn
  have hw : (fdD f : DataW H).weights Tryd.prog 23 = [f.name.length, f.ref.length, f.one.length] := by
    unfold fdD
    simp only [DataW.weights, Tryd.underlying23]
    rfl
  rw [hw] at hm
  exact ⟨hall _ (hm _ (by simp)), hall _ (hm _ (by simp)), hall _ (hm _ (by simp))⟩
end Go.Proofs.YtnbjpeefndcheaaDoor
