/- Several texts in one: TpI, TpJ. What each proves, and its conditions, stands at its own head. -/
import Derived.Test.YtakdkocobcicdaaPkTL22
import Derived.Shelf.Spec.SlicesInsert
/- slices.Insert at slots: one more slot at a place of a row of the call's own. Conditions: those that each theorem names. -/
namespace Go.Proofs.Ytakdkocobcicdaa
open Go.RowKit
set_option linter.unusedVariables false
set_option maxRecDepth 100000

theorem wpList_copy_x {P : Program} {w : World} {ops : Array Oper} {rest : List Oper} {o : Oper} {a : Act} {Q : Exit → Act → World → Prop} {t : TypeId} {v y : Value} (hgd : o.guard = none) (s x : Operand)
    (ho : o.op = .call { callee := .builtin .copy, args := #[s, x], argTypes := #[t, t] }) (hs : a.eval s = v) (hx : a.eval x = y) {v' : Value} {w' : World}
    (hr : (Builtin.copy_ #[t, t] o.type #[v, y]).run P w = .ok v' w') (h : wpList P ops Q rest (a.put o.dst v') w') : wpList P ops Q (o :: rest) a w :=
  wpList_copy_runI w hgd s x t t ho v y hs hx hr h

theorem rowC_grown (W : World) {css : List (List Value)} (h2 : ∀ c ∈ css, c.length = 2) (h1 : ∀ c ∈ css, ∀ u ∈ c, u.oneCell' = true) {k cap : Nat} (hk : css.length + k ≤ cap) (hm : cap ≤ maxLen) :
    RowC (W.alloc (.cells (css.flatten.toArray ++ Builtin.zeroCells (Value.agg #[.int .i64 0, .slice none 0 0]).cells k ++ Builtin.zeroCells (Value.agg #[.int .i64 0, .slice none 0 0]).cells (cap - (css.length + k))) 32)) W.heap.size cap (css ++ List.replicate k [.int .i64 0, .slice none 0 0]) (List.replicate (cap - (css.length + k)) [Value.int .i64 0, Value.slice none 0 0]).flatten := by
  have e : (Value.agg #[.int .i64 0, .slice none 0 0]).cells = #[.int .i64 0, .slice none 0 0] := by simp [Value.cells]
  have hr : ∀ n, (List.replicate n [Value.int .i64 0, Value.slice none 0 0]).flatten.length = n * 2 := fun n => by rw [flat_two (fun c hc => by rw [List.eq_of_mem_replicate hc]; rfl), List.length_replicate]
  refine ⟨?_, fun c hc => ?_, fun c hc => ?_, ?_, hm⟩
  · rw [heap_alloc_new, e]
    congr 2
    apply Array.ext'
    rw [Array.toList_append, Array.toList_append, zeros_two, zeros_two, List.flatten_append]
  · rcases List.mem_append.mp hc with hc | hc
    · exact h2 c hc
    · rw [List.eq_of_mem_replicate hc]; rfl
  · rcases List.mem_append.mp hc with hc | hc
    · exact h1 c hc
    · rw [List.eq_of_mem_replicate hc]
      intro u hu
      simp at hu
      rcases hu with rfl | rfl <;> rfl
  · rw [List.length_append, List.length_replicate, hr]; omega

section
variable {R : List Value → Slt → Prop} {base vb i : Nat} {w0 : World} {l : List Slt} {x : Slt} {a b : Value}
set_option maxHeartbeats 8000000 in
theorem ins_end (w : World) {v : Value} (h : OwnL base 32 2 R w v l) (hm : l.length ≤ 1000) (hi : i = l.length) (hv : w.heap[vb]? = some (.cells #[a, b] 32 (0, 0))) (hR : R [a, b] x) (h1 : a.oneCell' = true) (h2 : b.oneCell' = true) (hb : Below base w0 w) (hbs : base ≤ w.heap.size) :
    Calls Try.prog 40 #[v, .int .i64 (i : Int), .slice (some ⟨vb, 0, none⟩) 1 1] w fun e w' => ∃ v', e = .returned v' ∧ OwnL base 32 2 R w' v' (l.take i ++ x :: l.drop i) ∧ Below base w0 w' := by
  have happ : ∀ ty, ∃ v' w', (Builtin.append_ #[22, 22] ty #[v, .slice (some ⟨vb, 0, none⟩) 1 1]).run Try.prog w = .ok v' w' ∧ (OwnL base 32 2 R w' v' (l ++ [x]) ∧ Below base w0 w') := fun ty => by
    obtain ⟨it, i1, i2, i3, i4⟩ := info_ofs info_slt
    obtain ⟨v', w', hr, ho, hg, hm⟩ := ownL_append (P := Try.prog) ty Try.underlying22 i1 i2 i3 i4 rfl (by decide) h hR rfl (by intro u hu; simp at hu; rcases hu with rfl | rfl <;> assumption) (World.news_of_block hv) (by omega) (by decide) hbs
    refine ⟨v', w', hr, ho, hb.trans ⟨hg.os, hg.tape, hg.output, hg.size, fun k hk => hg.block k (Nat.lt_of_lt_of_le hk hbs) (fun e => ?_)⟩⟩
    have := (ownL_blk h k e.symm).1
    omega
  have HA := Lib.hid happ
  obtain ⟨A, cap, ev, q1, q2⟩ := ownL_form h
  subst ev
  unfold maxLen at q2
  obtain ⟨n, hn⟩ : ∃ n, n = l.length := ⟨_, rfl⟩
  rw [← hn] at HA hi q1 hm ⊢
  subst hi
  have HN := Lib.hid hn
  clear h hn hv hR h1 h2 hb hbs happ
  have HE : Hid (l.take i ++ x :: l.drop i = l ++ [x]) := Lib.hid (by rw [HN.out, List.take_length, List.drop_length])
  go_enter Try.func40, Try.ntmps40
  go_wp2_with (at_builtin; refine wpList_append_x rfl _ _ rfl rfl rfl (HA.out _) ?_; rintro v' w' ⟨ho, hb'⟩; have HO := Lib.hid ho; have HB := Lib.hid hb'; clear ho hb')
  all_goals (go_ret; exact ⟨_, rfl, by rw [HE.out]; exact HO.out, HB.out⟩)

/-- The row that holds one slot more. -/
theorem zip_ins {css : List (List Value)} (hz : Zip R css l) {c : List Value} (hR : R c x) (i : Nat) : Zip R (css.take i ++ [c] ++ css.drop i) (l.take i ++ x :: l.drop i) := by
  rw [show l.take i ++ x :: l.drop i = l.take i ++ [x] ++ l.drop i by simp]
  exact zip_app (zip_app (zip_take hz i) (zip_one hR)) (zip_drop hz i)
theorem set_take {css : List (List Value)} {c : List Value} {i : Nat} (h : i < css.length) : (css.set i c).take (i + 1) = css.take i ++ [c] := by
  rw [take_snoc' (x := c) (by rw [List.getElem?_set_self h]), List.take_set_of_le (Nat.le_refl _)]

set_option maxHeartbeats 16000000 in
theorem ins_grow (w : World) {g cap n : Nat} {css : List (List Value)} {tail : List Value} (h : RowC w g cap css tail) (hz : Zip R css l) (hn : n = l.length) (hm : n ≤ 1000) (hi : i < n) (hc : cap < n + 1) (hv : w.heap[vb]? = some (.cells #[a, b] 32 (0, 0))) (hR : R [a, b] x) (h1 : a.oneCell' = true) (h2 : b.oneCell' = true) (hb : Below base w0 w) (hbs : base ≤ w.heap.size) :
    Calls Try.prog 40 #[.slice (some ⟨g, 0, none⟩) n cap, .int .i64 (i : Int), .slice (some ⟨vb, 0, none⟩) 1 1] w fun e w' => ∃ v', e = .returned v' ∧ OwnL base 32 2 R w' v' (l.take i ++ x :: l.drop i) ∧ Below base w0 w' := by
  have hcl : css.length = n := by rw [hz.1, hn]
  have hcn : cap = n := by have := rowC_le h; omega
  have htl : (css.take i).length = i := by rw [List.length_take]; omega
  have ht2 : ∀ c ∈ css.take i, c.length = 2 := fun c hc => h.r_two c (List.mem_of_mem_take hc)
  have ht1 : ∀ c ∈ css.take i, ∀ u ∈ c, u.oneCell' = true := fun c hc => h.r_one c (List.mem_of_mem_take hc)
  have hsz : (Try.prog.info? 32).map (·.size) = some 2 := by
    obtain ⟨it, i1, i2, i3, i4⟩ := info_ofs info_slt
    rw [i1]; simp [i3]
  have hvl := lt_of_block hv
  have hgl := lt_of_block h.r_blk
  obtain ⟨W1, cap2, hrun, hrow1, hb1, hs1, hk1, hcap2⟩ : ∃ (W1 : World) (cap2 : Nat), (∀ (ty : TypeId) (kz : Int), kz = ((n + 1 - i : Nat) : Int) → (Builtin.append_ #[22, 3] ty #[.slice (some ⟨g, 0, none⟩) i cap, .int .i64 kz]).run Try.prog w = .ok (.slice (some ⟨w.heap.size, 0, none⟩) (n + 1) cap2) W1) ∧ RowC W1 w.heap.size cap2 (css.take i ++ List.replicate (n + 1 - i) [.int .i64 0, .slice none 0 0]) (List.replicate (cap2 - (n + 1)) [Value.int .i64 0, Value.slice none 0 0]).flatten ∧ Below base w0 W1 ∧ W1.heap.size = w.heap.size + 1 ∧ (∀ k, k < w.heap.size → W1.heap[k]? = w.heap[k]?) ∧ n + 1 ≤ cap2 ∧ cap2 ≤ maxLen := by
    obtain ⟨it, i1, i2, i3, i4⟩ := info_ofs info_slt
    have hca := grownCap_ge w (i + (n + 1 - i)) cap 32
    have hcb := grownCap_le_maxLen w (i + (n + 1 - i)) cap 32 (by unfold maxLen; omega)
    have hfl : (css.take i).flatten.length = i * 2 := by rw [flat_two ht2, htl]
    have hr := Lib.run_append_grow_zeros (P := Try.prog) w 22 3 0 32 it _ .i64 .i64 Try.underlying22 Try.underlying3 i1 i2 (some ⟨g, 0, none⟩) i cap (css.take i).flatten (by
      rw [i3]
      refine run_firstCells_some w.drew 2 i ⟨g, 0, none⟩ i cap _ hfl (fun j v hj => ?_)
      show w.cell? _ = _
      rw [Addr.add_lit, Nat.zero_add, obj_cell h.r_blk]
      have e : css.flatten ++ tail = (css.take i).flatten ++ ((css.drop i).flatten ++ tail) := by rw [← List.append_assoc, ← List.flatten_append, List.take_append_drop]
      rw [e]
      have hjl := (List.getElem?_eq_some_iff.mp hj).1
      simp only [List.getElem?_toArray]
      rw [List.getElem?_append_left hjl]
      exact hj) (n + 1 - i) (by omega) (by omega) (by omega) (by omega) (by rw [i4]; omega) (by rw [i4]; exact growslice_fits (by omega) (by omega))
    have en : i + (n + 1 - i) = n + 1 := by omega
    have hg := rowC_grown w.drew ht2 ht1 (k := n + 1 - i) (cap := grownCap w (i + (n + 1 - i)) cap 32) (by rw [htl]; exact hca) hcb
    rw [htl] at hg
    rw [en] at hg hr hca hcb
    refine ⟨_, grownCap w (n + 1) cap 32, fun ty kz hk => by rw [hk]; exact hr, hg, hb.trans (((Below.refl _ w).drew).alloc (by exact hbs) _), by simp, fun k hk => (Below.heap_alloc _ _ _ hk), hca, hcb⟩
  have hl1 : (css.take i ++ List.replicate (n + 1 - i) [Value.int .i64 0, .slice none 0 0]).length = n + 1 := by rw [List.length_append, htl, List.length_replicate]; omega
  have hi1 : i < (css.take i ++ List.replicate (n + 1 - i) [Value.int .i64 0, .slice none 0 0]).length := by omega
  obtain ⟨C1, hC1⟩ : ∃ C1, C1 = css.take i ++ List.replicate (n + 1 - i) [Value.int .i64 0, .slice none 0 0] := ⟨_, rfl⟩
  rw [← hC1] at hrow1 hl1 hi1
  have hg1 : W1.heap[g]? = w.heap[g]? := hk1 g hgl
  have hrowg : RowC W1 g cap css tail := ⟨hg1.trans h.r_blk, h.r_two, h.r_one, h.r_cap, h.r_max⟩
  have hcp1 := fun (ty : TypeId) (dl dc : Nat) (hd : 1 ≤ dl) => rowC_copy hrow1 (o := i * 2) (dLen := dl) (dCap := dc) (sLen := 1) (sCap := 1) (a := ⟨vb, 0, none⟩) (cs := [a, b]) ty hsz (by rw [show Nat.min 1 dl = 1 from Nat.min_eq_left hd]; rfl) (World.news_of_block ((hk1 vb hvl).trans hv)) (by simp; omega) (by intro u hu; simp at hu; rcases hu with rfl | rfl <;> assumption)
  have hrow2 := rowC_put hrow1 hi1 h1 h2
  have hb2 := fun cs => bel_setRow hb1 hbs cs (by omega)
  obtain ⟨W2, hW2⟩ : ∃ W2, W2 = W1.setRow w.heap.size (((C1.flatten ++ (List.replicate (cap2 - (n + 1)) [Value.int .i64 0, Value.slice none 0 0]).flatten).take (i * 2) ++ [a, b] ++ (C1.flatten ++ (List.replicate (cap2 - (n + 1)) [Value.int .i64 0, Value.slice none 0 0]).flatten).drop (i * 2 + 2)).toArray) := ⟨_, rfl⟩
  have hcp1' : ∀ (ty : TypeId) (dl dc : Nat), 1 ≤ dl → (Builtin.copy_ #[22, 22] ty #[.slice (some ⟨w.heap.size, i * 2, none⟩) dl dc, .slice (some ⟨vb, 0, none⟩) 1 1]).run Try.prog W1 = .ok (goInt (Nat.min 1 dl)) W2 := fun ty dl dc hd => by rw [hW2]; exact hcp1 ty dl dc hd
  rw [← hW2] at hrow2
  have hbel2 : Below base w0 W2 := by rw [hW2]; exact hb2 _
  have hsz2 : W2.heap.size = w.heap.size + 1 := by rw [hW2, size_setRow]; exact hs1
  have hg2 : RowC W2 g cap css tail := ⟨by
    rw [hW2]
    simp only [World.setRow, Array.getElem?_modify]
    rw [if_neg (by omega)]
    exact hrowg.r_blk, h.r_two, h.r_one, h.r_cap, h.r_max⟩
  have hd2 : ∀ c ∈ css.drop i, c.length = 2 := fun c hc => h.r_two c (List.mem_of_mem_drop hc)
  have hd1 : ∀ c ∈ css.drop i, ∀ u ∈ c, u.oneCell' = true := fun c hc => h.r_one c (List.mem_of_mem_drop hc)
  have hdl : (css.drop i).flatten.length = (n - i) * 2 := by rw [flat_two hd2, List.length_drop, hcl]
  have hsrc : ∀ j u, (css.drop i).flatten[j]? = some u → W2.drew.cell? ((⟨g, i * 2, none⟩ : Addr).add j) = some u := fun j u hj => by
    show W2.cell? _ = _
    rw [Addr.add_lit, obj_cell hg2.r_blk]
    have e : css.flatten ++ tail = (css.take i).flatten ++ ((css.drop i).flatten ++ tail) := by rw [← List.append_assoc, ← List.flatten_append, List.take_append_drop]
    have hfl : (css.take i).flatten.length = i * 2 := by rw [flat_two ht2, htl]
    rw [e]
    have hjl := (List.getElem?_eq_some_iff.mp hj).1
    simp only [List.getElem?_toArray]
    rw [List.getElem?_append_right (by omega), hfl, show i * 2 + j - i * 2 = j by omega, List.getElem?_append_left hjl]
    exact hj
  have hrow2d : RowC W2.drew w.heap.size cap2 (C1.set i [a, b]) (List.replicate (cap2 - (n + 1)) [Value.int .i64 0, Value.slice none 0 0]).flatten := ⟨hrow2.r_blk, hrow2.r_two, hrow2.r_one, hrow2.r_cap, hrow2.r_max⟩
  have hls : (C1.set i [a, b]).length = n + 1 := by rw [List.length_set, hl1]
  have hcp2 := fun (ty : TypeId) (dc sc : Nat) => rowC_copy hrow2d (o := (i + 1) * 2) (dLen := n + 1 - (i + 1)) (dCap := dc) (sLen := n - i) (sCap := sc) (a := ⟨g, i * 2, none⟩) (cs := (css.drop i).flatten) ty hsz (by rw [hdl, show n + 1 - (i + 1) = n - i by omega]; simp) hsrc (by rw [hdl]; omega) (fun u hu => by
    obtain ⟨c, hc, hu⟩ := List.mem_flatten.mp hu
    exact hd1 c hc u hu)
  have hrow3 := rowC_write hrow2d (p := i + 1) (ds := css.drop i) hd2 hd1 (by omega) (by rw [List.length_drop]; omega) (by rw [List.length_drop]; omega)
  have hb3 := fun cs => bel_setRow (g := w.heap.size) hbel2.drew hbs cs (by show base ≤ W2.heap.size; omega)
  have e4 : C1.take i = css.take i := by rw [hC1, List.take_append_of_le_length (by omega), List.take_take, Nat.min_self]
  rw [set_take hi1, e4] at hrow3
  obtain ⟨W3, hW3⟩ : ∃ W3, W3 = W2.drew.setRow w.heap.size ((((C1.set i [a, b]).flatten ++ (List.replicate (cap2 - (n + 1)) [Value.int .i64 0, Value.slice none 0 0]).flatten).take ((i + 1) * 2) ++ (css.drop i).flatten ++ ((C1.set i [a, b]).flatten ++ (List.replicate (cap2 - (n + 1)) [Value.int .i64 0, Value.slice none 0 0]).flatten).drop ((i + 1) * 2 + (css.drop i).flatten.length)).toArray) := ⟨_, rfl⟩
  have hcp2' : ∀ (ty : TypeId) (dc sc : Nat), (Builtin.copy_ #[22, 22] ty #[.slice (some ⟨w.heap.size, (i + 1) * 2, none⟩) (n + 1 - (i + 1)) dc, .slice (some ⟨g, i * 2, none⟩) (n - i) sc]).run Try.prog W2.drew = .ok (goInt (Nat.min (n - i) (n + 1 - (i + 1)))) W3 := fun ty dc sc => by rw [hW3]; exact hcp2 ty dc sc
  rw [← hW3] at hrow3
  have hbel3 : Below base w0 W3 := by rw [hW3]; exact hb3 _
  have hlen : (l.take i ++ x :: l.drop i).length = n + 1 := by rw [List.length_append, List.length_cons, List.length_take, List.length_drop]; omega
  have hown : OwnL base 32 2 R W3 (.slice (some ⟨w.heap.size, 0, none⟩) (n + 1) cap2) (l.take i ++ x :: l.drop i) := by
    rw [← hlen]
    exact ownL_of_row hrow3 (zip_ins hz hR i) hbs
  have HRUN := Lib.hid hrun
  have HCP1 := Lib.hid hcp1'
  have HCP2 := Lib.hid hcp2'
  have HOWN := Lib.hid hown
  have HB3 := Lib.hid hbel3
  unfold maxLen at hcap2
  subst hcn
  clear hrun hcp1' hcp2' hown hbel3 hrow3 hcp2 hb3 hls hrow2d hsrc hdl hd1 hd2 hg2 hsz2 hbel2 hrow2 hb2 hcp1 hrowg hg1 hi1 hl1 hk1 hs1 hb1 hrow1 hsz ht1 ht2 htl hcl h hz hv hR h1 h2 hb hbs hlen hW3 hW2 hC1 hvl hgl e4 hn
  go_enter Try.func40, Try.ntmps40
  go_wp2_with (first
    | (at_builtin; refine Lib.wpList_append_run _ rfl _ _ _ _ rfl _ _ rfl rfl _ _ (HRUN.out _ _ (by go_num)) ?_)
    | (refine wpList_copy_x rfl _ _ rfl rfl rfl (HCP1.out _ (cap + 1 - i) _ (by omega)) ?_))
  have hw1 : IntKind.i64.wrap ((i : Int) + 1) = (i : Int) + 1 := by rw [IntKind.wrap_i64]; omega
  have hw2 : Go.RowKit.wrap64 ((i : Int) + 1) = (i : Int) + 1 := by unfold Go.RowKit.wrap64; omega
  have hp1 : (0 : Int) ≤ (i : Int) + 1 := by omega
  have hp2 : (i : Int) + 1 ≤ (cap : Int) + 1 := by omega
  have hp3 : (i : Int) ≤ (cap : Int) := by omega
  have hp4 : ((i : Int) + 1).toNat = i + 1 := by omega
  have hp5 : ¬ cap2 = i + 1 := by omega
  have hp6 : ¬ cap = i := by omega
  go_region_law (refine step_copy_runI rfl _ _ 22 22 rfl _ _ (by simp [Act.eval, Act.put]) (by simp [Act.eval, Act.put]) (HCP2.out _ (cap2 - (i + 1)) (cap - i)) ?_)
  all_goals (first | (go_wp2; done) | (go_wp2; go_ret; exact ⟨_, rfl, HOWN.out, HB3.out⟩) | (go_ret; exact ⟨_, rfl, HOWN.out, HB3.out⟩))
end
end Go.Proofs.Ytakdkocobcicdaa

/- slices.Insert at slots, in place; and all its roads. Conditions: those that each theorem names. -/
namespace Go.Proofs.Ytakdkocobcicdaa
open Go.RowKit
set_option linter.unusedVariables false
set_option maxRecDepth 100000

section
variable {R : List Value → Slt → Prop} {base vb i : Nat} {w0 : World} {l : List Slt} {x : Slt} {a b : Value}
theorem over_apart (w : World) {g o : Nat} {cs cs2 : Array Value} (hv : w.heap[vb]? = some (.cells cs 32 (0, 0))) (hg : w.heap[g]? = some (.cells cs2 32 (0, 0))) (h0 : cs2.size ≠ 0) (hne : vb ≠ g) (lb cb : Nat) :
    (callFunc 52 #[.slice (some ⟨vb, 0, none⟩) 1 1, .slice (some ⟨g, o, none⟩) lb cb]).run Try.prog w = .ok (.value (.bool false)) w := by
  have hz : ∀ w, (Go.sizeOf 32).run Try.prog w = .ok 2 w := fun w => by
    obtain ⟨it, i1, i2, i3, i4⟩ := info_ofs info_slt
    simp [sizeOf, typeInfo, i1, i3]
  rw [run_callFunc_extern Try.func52 (by kernel_rfl) (by kernel_rfl) (by kernel_rfl) (e := Extern.SlicesOverlaps.overlaps #[22, 22] #[4]) (by kernel_rfl),
    Lib.run_overlaps_apart w 22 4 32 Try.underlying22 2 hz ⟨vb, 0, none⟩ ⟨g, o, none⟩ 1 1 lb cb hne 32 32 cs.size cs2.size (by simp [World.shape?, hv]) (by simp [World.shape?, hg]) h0 (obj_free hv 0) (obj_free hv _)]
  rfl

set_option maxHeartbeats 16000000 in
theorem ins_shift (w : World) {g cap n : Nat} {css : List (List Value)} {tail : List Value} (h : RowC w g cap css tail) (hz : Zip R css l) (hn : n = l.length) (hm : n ≤ 1000) (hi : i < n) (hc : n + 1 ≤ cap) (hv : w.heap[vb]? = some (.cells #[a, b] 32 (0, 0))) (hR : R [a, b] x) (h1 : a.oneCell' = true) (h2 : b.oneCell' = true) (hne : vb ≠ g) (hb : Below base w0 w) (hbs : base ≤ w.heap.size) (hbg : base ≤ g) :
    Calls Try.prog 40 #[.slice (some ⟨g, 0, none⟩) n cap, .int .i64 (i : Int), .slice (some ⟨vb, 0, none⟩) 1 1] w fun e w' => ∃ v', e = .returned v' ∧ OwnL base 32 2 R w' v' (l.take i ++ x :: l.drop i) ∧ Below base w0 w' := by
  have hcl : css.length = n := by rw [hz.1, hn]
  have hcap : cap ≤ maxLen := h.r_max
  have hov : ∀ o lb cb, (callFunc 52 #[.slice (some ⟨vb, 0, none⟩) 1 1, .slice (some ⟨g, o, none⟩) lb cb]).run Try.prog w = .ok (.value (.bool false)) w := fun o lb cb => over_apart w hv h.r_blk (by
    have := h.r_cap
    have := flat_two h.r_two
    simp only [List.size_toArray, List.length_append]
    omega) hne lb cb
  have hsz : (Try.prog.info? 32).map (·.size) = some 2 := by
    obtain ⟨it, i1, i2, i3, i4⟩ := info_ofs info_slt
    rw [i1]; simp [i3]
  have hd2 : ∀ c ∈ css.drop i, c.length = 2 := fun c hc => h.r_two c (List.mem_of_mem_drop hc)
  have hd1 : ∀ c ∈ css.drop i, ∀ u ∈ c, u.oneCell' = true := fun c hc => h.r_one c (List.mem_of_mem_drop hc)
  have hdl : (css.drop i).flatten.length = (n - i) * 2 := by rw [flat_two hd2, List.length_drop, hcl]
  have hrowd : RowC w.drew g cap css tail := ⟨h.r_blk, h.r_two, h.r_one, h.r_cap, h.r_max⟩
  have hsrc : ∀ j u, (css.drop i).flatten[j]? = some u → w.drew.cell? ((⟨g, i * 2, none⟩ : Addr).add j) = some u := fun j u hj => by
    show w.cell? _ = _
    rw [Addr.add_lit, obj_cell h.r_blk]
    have e : css.flatten ++ tail = (css.take i).flatten ++ ((css.drop i).flatten ++ tail) := by rw [← List.append_assoc, ← List.flatten_append, List.take_append_drop]
    have hfl : (css.take i).flatten.length = i * 2 := by rw [flat_two (fun c hc => h.r_two c (List.mem_of_mem_take hc)), List.length_take]; omega
    rw [e]
    have hjl := (List.getElem?_eq_some_iff.mp hj).1
    simp only [List.getElem?_toArray]
    rw [List.getElem?_append_right (by omega), hfl, show i * 2 + j - i * 2 = j by omega, List.getElem?_append_left hjl]
    exact hj
  have hcp1 := fun (ty : TypeId) (dc sc : Nat) => rowC_copy hrowd (o := (i + 1) * 2) (dLen := n + 1 - (i + 1)) (dCap := dc) (sLen := n + 1 - i) (sCap := sc) (a := ⟨g, i * 2, none⟩) (cs := (css.drop i).flatten) ty hsz (by rw [hdl, show Nat.min (n + 1 - i) (n + 1 - (i + 1)) = n - i by simp only [Nat.min_def]; split <;> omega]) hsrc (by rw [hdl]; omega) (fun u hu => by
    obtain ⟨c, hc, hu⟩ := List.mem_flatten.mp hu
    exact hd1 c hc u hu)
  have hrow1 := rowC_write hrowd (p := i + 1) (ds := css.drop i) hd2 hd1 (by omega) (by rw [List.length_drop]; omega) (by rw [List.length_drop]; omega)
  have hb1 := fun cs => bel_setRow (g := g) hb.drew hbg cs (by show base ≤ w.heap.size; omega)
  obtain ⟨W1, hW1⟩ : ∃ W1, W1 = w.drew.setRow g (((css.flatten ++ tail).take ((i + 1) * 2) ++ (css.drop i).flatten ++ (css.flatten ++ tail).drop ((i + 1) * 2 + (css.drop i).flatten.length)).toArray) := ⟨_, rfl⟩
  have hcp1' : ∀ (ty : TypeId) (dc sc : Nat), (Builtin.copy_ #[22, 22] ty #[.slice (some ⟨g, (i + 1) * 2, none⟩) (n + 1 - (i + 1)) dc, .slice (some ⟨g, i * 2, none⟩) (n + 1 - i) sc]).run Try.prog w.drew = .ok (goInt (Nat.min (n + 1 - i) (n + 1 - (i + 1)))) W1 := fun ty dc sc => by rw [hW1]; exact hcp1 ty dc sc
  rw [← hW1] at hrow1
  have hbel1 : Below base w0 W1 := by rw [hW1]; exact hb1 _
  have hs1 : W1.heap.size = w.heap.size := by rw [hW1, size_setRow]; rfl
  have hv1 : W1.heap[vb]? = some (.cells #[a, b] 32 (0, 0)) := by
    rw [hW1]
    simp only [World.setRow, Array.getElem?_modify]
    rw [if_neg (by omega)]
    exact hv
  obtain ⟨T1, hT1⟩ : ∃ T1, T1 = tail.drop ((i + 1 + (css.drop i).length - css.length) * 2) := ⟨_, rfl⟩
  rw [← hT1] at hrow1
  obtain ⟨C1, hC1⟩ : ∃ C1, C1 = css.take (i + 1) ++ css.drop i := ⟨_, rfl⟩
  have hl1 : C1.length = n + 1 := by rw [hC1, List.length_append, List.length_take, List.length_drop]; omega
  have e4 : C1.set i [a, b] = css.take i ++ [[a, b]] ++ css.drop i := by
    have := set_take (css := css) (c := [a, b]) (i := i) (by omega)
    rw [hC1, List.set_append_left _ _ (by rw [List.length_take]; omega), ← this, List.take_set]
  rw [← hC1] at hrow1
  have hcp2 := fun (ty : TypeId) (dl dc : Nat) (hd : 1 ≤ dl) => rowC_copy hrow1 (o := i * 2) (dLen := dl) (dCap := dc) (sLen := 1) (sCap := 1) (a := ⟨vb, 0, none⟩) (cs := [a, b]) ty hsz (by rw [show Nat.min 1 dl = 1 from Nat.min_eq_left hd]; rfl) (World.news_of_block hv1) (by simp; omega) (by intro u hu; simp at hu; rcases hu with rfl | rfl <;> assumption)
  have hrow2 := rowC_put hrow1 (i := i) (by omega) h1 h2
  have hb2 := fun cs => bel_setRow hbel1 hbg cs (by omega)
  rw [e4] at hrow2
  have hlen : (l.take i ++ x :: l.drop i).length = n + 1 := by rw [List.length_append, List.length_cons, List.length_take, List.length_drop]; omega
  have hown := ownL_of_row hrow2 (zip_ins hz hR i) hbg
  rw [hlen] at hown
  obtain ⟨W2, hW2⟩ : ∃ W2, W2 = W1.setRow g (((C1.flatten ++ T1).take (i * 2) ++ [a, b] ++ (C1.flatten ++ T1).drop (i * 2 + 2)).toArray) := ⟨_, rfl⟩
  have hcp2' : ∀ (ty : TypeId) (dl dc : Nat), 1 ≤ dl → (Builtin.copy_ #[22, 22] ty #[.slice (some ⟨g, i * 2, none⟩) dl dc, .slice (some ⟨vb, 0, none⟩) 1 1]).run Try.prog W1 = .ok (goInt (Nat.min 1 dl)) W2 := fun ty dl dc hd => by rw [hW2]; exact hcp2 ty dl dc hd
  rw [← hW2] at hown
  have hbel2 : Below base w0 W2 := by rw [hW2]; exact hb2 _
  have HCP1 := Lib.hid hcp1'
  have HCP2 := Lib.hid hcp2'
  have HOWN := Lib.hid hown
  have HB2 := Lib.hid hbel2
  unfold maxLen at hcap
  clear hcp1' hcp2' hown hbel2 hW2 hcp2 hb2 hrow2 e4 hl1 hC1 hT1 hv1 hs1 hbel1 hrow1 hW1 hb1 hcp1 hsrc hrowd hdl hd1 hd2 hsz hcl h hz hv hR h1 h2 hb hbs hlen hbg hne hn
  have hw1 : IntKind.i64.wrap ((i : Int) + 1) = (i : Int) + 1 := by rw [IntKind.wrap_i64]; omega
  have hw2 : Go.RowKit.wrap64 ((i : Int) + 1) = (i : Int) + 1 := by unfold Go.RowKit.wrap64; omega
  have hp1 : (0 : Int) ≤ (i : Int) + 1 := by omega
  have hp2 : (i : Int) + 1 ≤ (n : Int) + 1 := by omega
  have hp3 : (i : Int) ≤ (n : Int) + 1 := by omega
  have hp4 : ((i : Int) + 1).toNat = i + 1 := by omega
  have hp5 : ¬ cap = i + 1 := by omega
  have hp6 : ¬ cap = i := by omega
  go_enter Try.func40, Try.ntmps40
  go_wp2_with (simp only [hov])
  go_region_law (refine step_copy_runI rfl _ _ 22 22 rfl _ _ (by simp [Act.eval, Act.put]) (by simp [Act.eval, Act.put]) (HCP1.out _ (cap - (i + 1)) (cap - i)) ?_)
  all_goals (go_wp2_with (refine wpList_copy_x rfl _ _ rfl rfl rfl (HCP2.out _ (n + 1 - i) _ (by omega)) ?_))
  all_goals (go_ret; exact ⟨_, rfl, HOWN.out, HB2.out⟩)

/-- slices.Insert of one slot at place i. -/
theorem insert_slt (w : World) {v : Value} (h : OwnL base 32 2 R w v l) (hm : l.length ≤ 1000) (hi : i ≤ l.length) (hv : w.heap[vb]? = some (.cells #[a, b] 32 (0, 0))) (hR : R [a, b] x) (h1 : a.oneCell' = true) (h2 : b.oneCell' = true) (hne : v.ownBlock ≠ some vb) (hb : Below base w0 w) (hbs : base ≤ w.heap.size) :
    Calls Try.prog 40 #[v, .int .i64 (i : Int), .slice (some ⟨vb, 0, none⟩) 1 1] w fun e w' => ∃ v', e = .returned v' ∧ OwnL base 32 2 R w' v' (l.take i ++ x :: l.drop i) ∧ Below base w0 w' := by
  by_cases hin : i = l.length
  · exact ins_end w h hm hin hv hR h1 h2 hb hbs
  obtain ⟨A, cap, ev, q1, q2⟩ := ownL_form h
  subst ev
  rcases A with _ | ad
  · exfalso
    obtain ⟨css, c1, c2, c3⟩ := h
    obtain ⟨A9, c9, e9, _, _, h0, _⟩ := own_form c3
    cases e9
    have := (h0 rfl).2
    omega
  have hg : ∃ g, ad = ⟨g, 0, none⟩ := by
    obtain ⟨css, c1, c2, c3⟩ := h
    obtain ⟨A9, c9, e9, _, _, _, h1⟩ := own_form c3
    cases e9
    exact h1 ad rfl
  obtain ⟨g, rfl⟩ := hg
  obtain ⟨-, hbg, css, tail, hrow, hzip⟩ := rowC_of h
  by_cases hc : l.length + 1 ≤ cap
  · exact ins_shift w hrow hzip rfl hm (by omega) hc hv hR h1 h2 (fun e => hne (by subst e; rfl)) hb hbs hbg
  · exact ins_grow w hrow hzip rfl hm (by omega) (by omega) hv hR h1 h2 hb hbs
end
end Go.Proofs.Ytakdkocobcicdaa
