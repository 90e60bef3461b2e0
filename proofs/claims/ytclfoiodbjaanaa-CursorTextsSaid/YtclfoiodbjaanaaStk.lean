/- append onto a list of whole numbers that may have less room than its block: what it answers. -/
import Derived.Test.YtclfoiodbjaanaaCurA
import Derived.Deep.AppendLies
namespace Go.Proofs.Ytclfoiodbjaanaa
open Go.RowKit
set_option linter.unusedVariables false
set_option maxRecDepth 100000

theorem info_int : (Try.prog.info? 3).map (fun i => (i.zero, i.size, i.bytes)) = some (some (.int .i64 0), 1, 8) := by kernel_rfl

theorem run_append_stk {w : World} {g c : Nat} {xs : List Nat} (ty : TypeId) (h : Stk w g c xs) (hb : xs.length ≤ 1099511627776) (ad : Addr) (c2 n : Nat) (hn : w.cell? (ad.add 0) = some (.int .i64 (n : Int))) :
    ∃ g' c' w', (Builtin.append_ #[39, 39] ty #[.slice (some ⟨g, 0, none⟩) xs.length c, .slice (some ad) 1 c2]).run Try.prog w = .ok (.slice (some ⟨g', 0, none⟩) (xs.length + 1) c') w' ∧
      Stk w' g' c' (xs ++ [n]) ∧ w.grownBy w' (some g) ∧ (g' = g ∨ g' ≥ w.heap.size) ∧ g' < w'.heap.size := by
  obtain ⟨i, hi, hz0, hz1, hz2⟩ := info_parts info_int
  obtain ⟨cur, h1, h2, h3⟩ := h.row
  have hle := h.le
  have hmax := h.max
  have hc : ∀ j u, [Value.int .i64 (n : Int)][j]? = some u → w.cell? (ad.add j) = some u := by
    intro j u hu
    match j, hu with
    | 0, hu => simp at hu; rw [hn, hu]
  have hone : ∀ u ∈ [Value.int .i64 (n : Int)], u.oneCell' = true := by
    intro u hu; simp at hu; subst hu; rfl
  by_cases hroom : xs.length + 1 ≤ c
  · have hr := run_append_room (P := Try.prog) (w := w) 39 ty 3 i Try.underlying39 hi g xs.length c cur h1 ad 1 c2 [.int .i64 (n : Int)] (by rw [hz1]; rfl) hc hone hroom (by rw [hz1]; simp; omega)
    refine ⟨g, c, _, hr, ⟨⟨_, setRow_heap w g cur _ _ _ h1, ?_, ?_⟩, by simp; omega, hmax⟩, ⟨rfl, rfl, rfl, by simp, fun k hk hne => ?_⟩, .inl rfl, ?_⟩
    · rw [hz1]
      simp
      omega
    · rw [hz1]
      simp only [Nat.mul_one, List.length_append, List.length_cons, List.length_nil]
      rw [ints_append, List.take_append_of_le_length (by simp; omega), List.take_of_length_le (by simp; omega), h3]
      rfl
    · have hne' : k ≠ g := fun e => hne (by rw [e])
      simp only [World.setRow, Array.getElem?_modify]
      rw [if_neg (fun e => hne' e.symm)]
    · rw [size_setRow]; exact lt_of_block h1
  · have hr := run_append_arg_grows (P := Try.prog) w 39 ty 3 i (.int .i64 0) 1 8 Try.underlying39 hi hz0 hz1 hz2 rfl (by omega) ⟨g, 0, none⟩ xs.length c (ints xs) (by simp [ints_length]) (fun j u hu => ?_) ad 1 c2 [.int .i64 (n : Int)] rfl hc (by omega) (by unfold maxLen; omega) (by omega)
    · obtain ⟨v', w', hrun, ho, hg⟩ := hr
      rcases ho.2 with ⟨_, h0⟩ | ⟨g', cap, cur', rfl, hbase, hh, hle', hm', hs', ht'⟩
      · omega
      · refine ⟨g', cap, w', hrun, ⟨⟨cur', hh, by omega, ?_⟩, by simp; omega, hm'⟩, ⟨hg.os, hg.tape, hg.output, hg.size, fun k hk _ => hg.block k hk (by simp)⟩, .inr hbase, lt_of_block hh⟩
        rw [Nat.mul_one] at ht'
        rw [List.length_append, ints_append]
        exact ht'
    · obtain ⟨m, hm, rfl⟩ : ∃ m, xs[j]? = some m ∧ u = .int .i64 (m : Int) := by
        rw [ints, List.getElem?_map, Option.map_eq_some_iff] at hu
        obtain ⟨m, hm, rfl⟩ := hu
        exact ⟨m, hm, rfl⟩
      have := h.cell hm
      cases j <;> simpa [Addr.add] using this
theorem wp_append_stk {o : Oper} {a : Act} {w : World} {K : Act → World → Prop} {Q : Exit → Act → World → Prop} (s x : Operand)
    (ho : o.op = .call { callee := .builtin .append, args := #[s, x], argTypes := #[39, 39] }) {g c m : Nat} {xs : List Nat} (h : Stk w g c xs) (hb : xs.length ≤ 1099511627776) (hm : m = xs.length)
    (hs : a.eval s = .slice (some ⟨g, 0, none⟩) m c) (ad : Addr) (c2 n : Nat) (hx : a.eval x = .slice (some ad) 1 c2) (hn : w.cell? (ad.add 0) = some (.int .i64 (n : Int)))
    (hK : ∀ g' c' w', Stk w' g' c' (xs ++ [n]) → w.grownBy w' (some g) → (g' = g ∨ g' ≥ w.heap.size) → g' < w'.heap.size → K (a.put o.dst (.slice (some ⟨g', 0, none⟩) (m + 1) c')) w') : o.wp Try.prog a w K Q := by
  subst hm
  obtain ⟨g', c', w', hr, h2, h3, h4, h5⟩ := run_append_stk o.type h hb ad c2 n hn
  unfold Oper.wp execOp
  simp only [ho, resolve, invoke, builtin, Sem.run_bind, Sem.run_pure, Result.andThen_ok, List.map_toArray, List.map_cons, List.map_nil, hs, hx, hr]
  exact hK g' c' w' h2 h3 h4 h5
theorem step_append_stk {ops : Array Oper} {o : Oper} {a : Act} {w : World} {K : Act → World → Prop} {Q : Exit → Act → World → Prop} {E : Prop} (hgd : o.guard = none) (s x : Operand)
    (ho : o.op = .call { callee := .builtin .append, args := #[s, x], argTypes := #[39, 39] }) {g c m : Nat} {xs : List Nat} (h : Stk w g c xs) (hb : xs.length ≤ 1099511627776) (hm : m = xs.length)
    (hs : a.eval s = .slice (some ⟨g, 0, none⟩) m c) (ad : Addr) (c2 n : Nat) (hx : a.eval x = .slice (some ad) 1 c2) (hn : w.cell? (ad.add 0) = some (.int .i64 (n : Int)))
    (hK : ∀ g' c' w', Stk w' g' c' (xs ++ [n]) → w.grownBy w' (some g) → (g' = g ∨ g' ≥ w.heap.size) → g' < w'.heap.size → K (a.put o.dst (.slice (some ⟨g', 0, none⟩) (m + 1) c')) w') :
    if Region.wanted o (yielded ops a.tmps) = true then Oper.wp Try.prog o a w K Q else E := by
  have hw : Region.wanted o (yielded ops a.tmps) = true := by simp [Region.wanted, hgd]
  rw [if_pos hw]
  exact wp_append_stk s x ho h hb hm hs ad c2 n hx hn hK
theorem wpList_append_stk {ops : Array Oper} {rest : List Oper} {o : Oper} {a : Act} {w : World} {Q : Exit → Act → World → Prop} (hgd : o.guard = none) (s x : Operand)
    (ho : o.op = .call { callee := .builtin .append, args := #[s, x], argTypes := #[39, 39] }) {g c m : Nat} {xs : List Nat} (h : Stk w g c xs) (hb : xs.length ≤ 1099511627776) (hm : m = xs.length)
    (hs : a.eval s = .slice (some ⟨g, 0, none⟩) m c) (ad : Addr) (c2 n : Nat) (hx : a.eval x = .slice (some ad) 1 c2) (hn : w.cell? (ad.add 0) = some (.int .i64 (n : Int)))
    (hK : ∀ g' c' w', Stk w' g' c' (xs ++ [n]) → w.grownBy w' (some g) → (g' = g ∨ g' ≥ w.heap.size) → g' < w'.heap.size → wpList Try.prog ops Q rest (a.put o.dst (.slice (some ⟨g', 0, none⟩) (m + 1) c')) w') : wpList Try.prog ops Q (o :: rest) a w :=
  wpList_plain hgd fun _ hK' => wp_append_stk s x ho h hb hm hs ad c2 n hx hn fun g' c' w' h2 h3 h4 h5 => hK' _ _ (hK g' c' w' h2 h3 h4 h5)
end Go.Proofs.Ytclfoiodbjaanaa
