/- Several texts in one: TpI, TpJ, PdB, PdC. What each proves, and its conditions, stands at its own head. -/
import Derived.Test.YtpfdnggacpehdaaGreatDoorPkDU38
import Derived.Shelf.Spec.SlicesInsert
import Derived.Test.YtpfdnggacpehdaaGreatDoorPkDU37
/- slices.Insert at slots: one more slot at a place of a row of the call's own. Conditions: those that each theorem names. -/
namespace Go.Proofs.YtpfdnggacpehdaaGreatDoor
open Go.RowKit
set_option linter.unusedVariables false
set_option maxRecDepth 100000

theorem wpList_copy_x {P : Program} {w : World} {ops : Array Oper} {rest : List Oper} {o : Oper} {a : Act} {Q : Exit → Act → World → Prop} {t : TypeId} {v y : Value} (hgd : o.guard = none) (s x : Operand)
    (ho : o.op = .call { callee := .builtin .copy, args := #[s, x], argTypes := #[t, t] }) (hs : a.eval s = v) (hx : a.eval x = y) {v' : Value} {w' : World}
    (hr : (Builtin.copy_ #[t, t] o.type #[v, y]).run P w = .ok v' w') (h : wpList P ops Q rest (a.put o.dst v') w') : wpList P ops Q (o :: rest) a w :=
  wpList_copy_runI w hgd s x t t ho v y hs hx hr h

theorem rowC_grown (W : World) {css : List (List Value)} (h2 : ∀ c ∈ css, c.length = 2) (h1 : ∀ c ∈ css, ∀ u ∈ c, u.oneCell' = true) {k cap : Nat} (hk : css.length + k ≤ cap) (hm : cap ≤ maxLen) :
    RowC (W.alloc (.cells (css.flatten.toArray ++ Builtin.zeroCells (Value.agg #[.int .i64 0, .slice none 0 0]).cells k ++ Builtin.zeroCells (Value.agg #[.int .i64 0, .slice none 0 0]).cells (cap - (css.length + k))) 68)) W.heap.size cap (css ++ List.replicate k [.int .i64 0, .slice none 0 0]) (List.replicate (cap - (css.length + k)) [Value.int .i64 0, Value.slice none 0 0]).flatten := by
  have e : (Value.agg #[.int .i64 0, .slice none 0 0]).cells = #[.int .i64 0, .slice none 0 0] := by simp [Value.cells]
  have hr : ∀ n, (List.replicate n [Value.int .i64 0, Value.slice none 0 0]).flatten.length = n * 2 := fun n => by rw [flat_two (fun c hc => by rw [List.eq_of_mem_replicate hc]; rfl), List.length_replicate]
  refine ⟨?_, fun c hc => ?_, fun c hc => ?_, ?_, hm⟩
  · rw [heap_alloc_new, e]
    congr 2
    apply Array.ext'
    rw [Array.toList_append, Array.toList_append, zeros_two, zeros_two, List.flatten_append]
  · rcases List.mem_append.mp hc with hc | hc
    · exact h2 c hc
    · rw [List.eq_of_mem_replicate hc]; rfl
  · rcases List.mem_append.mp hc with hc | hc
    · exact h1 c hc
    · rw [List.eq_of_mem_replicate hc]
      intro u hu
      simp at hu
      rcases hu with rfl | rfl <;> rfl
  · rw [List.length_append, List.length_replicate, hr]; omega

theorem touch_setRow {S : Nat → Prop} {a w : World} (h : Touch S a w) {g : Nat} (hg : S g ∨ a.heap.size ≤ g) (cs : Array Value) : Touch S a (w.setRow g cs) :=
  h.trans (S' := fun k => k = g) ⟨rfl, rfl, rfl, by simp [World.setRow], fun k _ hk => by simp only [World.setRow, Array.getElem?_modify]; rw [if_neg (fun e => hk e.symm)]⟩ (fun i hi => by subst hi; exact hg)
/-- Nothing but the row's block turns; the row lies where it lay, or in a new block. -/
def MvT (v : Value) (w w' : World) (v' : Value) : Prop := Touch (fun k => v.ownBlock = some k) w w' ∧ Moved w v v'
section
variable {R : List Value → Slt → Prop} {base vb i : Nat} {l : List Slt} {x : Slt} {a b : Value}
set_option maxHeartbeats 8000000 in
theorem ins_end (w : World) {v : Value} (h : OwnL base 68 2 R w v l) (hm : l.length ≤ 1000) (hi : i = l.length) (hv : w.heap[vb]? = some (.cells #[a, b] 68 (0, 0))) (hR : R [a, b] x) (h1 : a.oneCell' = true) (h2 : b.oneCell' = true) (hbs : base ≤ w.heap.size) :
    Calls Tryz.prog 142 #[v, .int .i64 (i : Int), .slice (some ⟨vb, 0, none⟩) 1 1] w fun e w' => ∃ v', e = .returned v' ∧ OwnL base 68 2 R w' v' (l.take i ++ x :: l.drop i) ∧ MvT v w w' v' := by
  have happ : ∀ ty, ∃ v' w', (Builtin.append_ #[30, 30] ty #[v, .slice (some ⟨vb, 0, none⟩) 1 1]).run Tryz.prog w = .ok v' w' ∧ (OwnL base 68 2 R w' v' (l ++ [x]) ∧ MvT v w w' v') := fun ty => by
    obtain ⟨it, i1, i2, i3, i4⟩ := info_ofs info_slt
    obtain ⟨v', w', hr, ho, hg, hm⟩ := ownL_append (P := Tryz.prog) ty Tryz.underlying30 i1 i2 i3 i4 rfl (by decide) h hR rfl (by intro u hu; simp at hu; rcases hu with rfl | rfl <;> assumption) (World.news_of_block hv) (by omega) (by decide) hbs
    exact ⟨v', w', hr, ho, (Touch.refl _ w).grown hg (fun k hk => .inl hk), hm⟩
  have HA := Lib.hid happ
  clear happ
  generalize MvT v w = D at HA ⊢
  obtain ⟨A, cap, ev, q1, q2⟩ := ownL_form h
  subst ev
  unfold maxLen at q2
  obtain ⟨n, hn⟩ : ∃ n, n = l.length := ⟨_, rfl⟩
  rw [← hn] at HA hi q1 hm ⊢
  subst hi
  have HN := Lib.hid hn
  clear h hn hv hR h1 h2 hbs
  have HE : Hid (l.take i ++ x :: l.drop i = l ++ [x]) := Lib.hid (by rw [HN.out, List.take_length, List.drop_length])
  go_enter Tryz.func142, Tryz.ntmps142
  go_wp2_with (at_builtin; refine wpList_append_x rfl _ _ rfl rfl rfl (HA.out _) ?_; rintro v' w' ⟨ho, hb'⟩; have HO := Lib.hid ho; have HB := Lib.hid hb'; clear ho hb')
  all_goals (go_ret; exact ⟨_, rfl, by rw [HE.out]; exact HO.out, HB.out⟩)

/-- The row that holds one slot more. -/
theorem zip_ins {css : List (List Value)} (hz : Zip R css l) {c : List Value} (hR : R c x) (i : Nat) : Zip R (css.take i ++ [c] ++ css.drop i) (l.take i ++ x :: l.drop i) := by
  rw [show l.take i ++ x :: l.drop i = l.take i ++ [x] ++ l.drop i by simp]
  exact zip_app (zip_app (zip_take hz i) (zip_one hR)) (zip_drop hz i)
theorem set_take {css : List (List Value)} {c : List Value} {i : Nat} (h : i < css.length) : (css.set i c).take (i + 1) = css.take i ++ [c] := by
  rw [take_snoc' (x := c) (by rw [List.getElem?_set_self h]), List.take_set_of_le (Nat.le_refl _)]

set_option maxHeartbeats 16000000 in
theorem ins_grow (w : World) {g cap n : Nat} {css : List (List Value)} {tail : List Value} (h : RowC w g cap css tail) (hz : Zip R css l) (hn : n = l.length) (hm : n ≤ 1000) (hi : i < n) (hc : cap < n + 1) (hv : w.heap[vb]? = some (.cells #[a, b] 68 (0, 0))) (hR : R [a, b] x) (h1 : a.oneCell' = true) (h2 : b.oneCell' = true) (hbs : base ≤ w.heap.size) :
    Calls Tryz.prog 142 #[.slice (some ⟨g, 0, none⟩) n cap, .int .i64 (i : Int), .slice (some ⟨vb, 0, none⟩) 1 1] w fun e w' => ∃ v', e = .returned v' ∧ OwnL base 68 2 R w' v' (l.take i ++ x :: l.drop i) ∧ Touch (fun k => k = g) w w' ∧ v'.ownBlock = some w.heap.size := by
  have hcl : css.length = n := by rw [hz.1, hn]
  have hcn : cap = n := by have := rowC_le h; omega
  have htl : (css.take i).length = i := by rw [List.length_take]; omega
  have ht2 : ∀ c ∈ css.take i, c.length = 2 := fun c hc => h.r_two c (List.mem_of_mem_take hc)
  have ht1 : ∀ c ∈ css.take i, ∀ u ∈ c, u.oneCell' = true := fun c hc => h.r_one c (List.mem_of_mem_take hc)
  have hsz : (Tryz.prog.info? 68).map (·.size) = some 2 := by
    obtain ⟨it, i1, i2, i3, i4⟩ := info_ofs info_slt
    rw [i1]; simp [i3]
  have hvl := lt_of_block hv
  have hgl := lt_of_block h.r_blk
  obtain ⟨W1, cap2, hrun, hrow1, hb1, hs1, hk1, hcap2⟩ : ∃ (W1 : World) (cap2 : Nat), (∀ (ty : TypeId) (kz : Int), kz = ((n + 1 - i : Nat) : Int) → (Builtin.append_ #[30, 3] ty #[.slice (some ⟨g, 0, none⟩) i cap, .int .i64 kz]).run Tryz.prog w = .ok (.slice (some ⟨w.heap.size, 0, none⟩) (n + 1) cap2) W1) ∧ RowC W1 w.heap.size cap2 (css.take i ++ List.replicate (n + 1 - i) [.int .i64 0, .slice none 0 0]) (List.replicate (cap2 - (n + 1)) [Value.int .i64 0, Value.slice none 0 0]).flatten ∧ Touch (fun k => k = g) w W1 ∧ W1.heap.size = w.heap.size + 1 ∧ (∀ k, k < w.heap.size → W1.heap[k]? = w.heap[k]?) ∧ n + 1 ≤ cap2 ∧ cap2 ≤ maxLen := by
    obtain ⟨it, i1, i2, i3, i4⟩ := info_ofs info_slt
    have hca := grownCap_ge w (i + (n + 1 - i)) cap 68
    have hcb := grownCap_le_maxLen w (i + (n + 1 - i)) cap 68 (by unfold maxLen; omega)
    have hfl : (css.take i).flatten.length = i * 2 := by rw [flat_two ht2, htl]
    have hr := Lib.run_append_grow_zeros (P := Tryz.prog) w 30 3 0 68 it _ .i64 .i64 Tryz.underlying30 Tryz.underlying3 i1 i2 (some ⟨g, 0, none⟩) i cap (css.take i).flatten (by
      rw [i3]
      refine run_firstCells_some w.drew 2 i ⟨g, 0, none⟩ i cap _ hfl (fun j v hj => ?_)
      show w.cell? _ = _
      rw [Addr.add_lit, Nat.zero_add, obj_cell h.r_blk]
      have e : css.flatten ++ tail = (css.take i).flatten ++ ((css.drop i).flatten ++ tail) := by rw [← List.append_assoc, ← List.flatten_append, List.take_append_drop]
      rw [e]
      have hjl := (List.getElem?_eq_some_iff.mp hj).1
      simp only [List.getElem?_toArray]
      rw [List.getElem?_append_left hjl]
      exact hj) (n + 1 - i) (by omega) (by omega) (by omega) (by omega) (by rw [i4]; omega) (by rw [i4]; exact growslice_fits (by omega) (by omega))
    have en : i + (n + 1 - i) = n + 1 := by omega
    have hg := rowC_grown w.drew ht2 ht1 (k := n + 1 - i) (cap := grownCap w (i + (n + 1 - i)) cap 68) (by rw [htl]; exact hca) hcb
    rw [htl] at hg
    rw [en] at hg hr hca hcb
    refine ⟨_, grownCap w (n + 1) cap 68, fun ty kz hk => by rw [hk]; exact hr, hg, ((Touch.refl _ w).drew).alloc _, by simp, fun k hk => (Below.heap_alloc _ _ _ hk), hca, hcb⟩
  have hl1 : (css.take i ++ List.replicate (n + 1 - i) [Value.int .i64 0, .slice none 0 0]).length = n + 1 := by rw [List.length_append, htl, List.length_replicate]; omega
  have hi1 : i < (css.take i ++ List.replicate (n + 1 - i) [Value.int .i64 0, .slice none 0 0]).length := by omega
  obtain ⟨C1, hC1⟩ : ∃ C1, C1 = css.take i ++ List.replicate (n + 1 - i) [Value.int .i64 0, .slice none 0 0] := ⟨_, rfl⟩
  rw [← hC1] at hrow1 hl1 hi1
  have hg1 : W1.heap[g]? = w.heap[g]? := hk1 g hgl
  have hrowg : RowC W1 g cap css tail := ⟨hg1.trans h.r_blk, h.r_two, h.r_one, h.r_cap, h.r_max⟩
  have hcp1 := fun (ty : TypeId) (dl dc : Nat) (hd : 1 ≤ dl) => rowC_copy hrow1 (o := i * 2) (dLen := dl) (dCap := dc) (sLen := 1) (sCap := 1) (a := ⟨vb, 0, none⟩) (cs := [a, b]) ty hsz (by rw [show Nat.min 1 dl = 1 from Nat.min_eq_left hd]; rfl) (World.news_of_block ((hk1 vb hvl).trans hv)) (by simp; omega) (by intro u hu; simp at hu; rcases hu with rfl | rfl <;> assumption)
  have hrow2 := rowC_put hrow1 hi1 h1 h2
  have hb2 := fun cs => touch_setRow (g := w.heap.size) hb1 (.inr (Nat.le_refl _)) cs
  obtain ⟨W2, hW2⟩ : ∃ W2, W2 = W1.setRow w.heap.size (((C1.flatten ++ (List.replicate (cap2 - (n + 1)) [Value.int .i64 0, Value.slice none 0 0]).flatten).take (i * 2) ++ [a, b] ++ (C1.flatten ++ (List.replicate (cap2 - (n + 1)) [Value.int .i64 0, Value.slice none 0 0]).flatten).drop (i * 2 + 2)).toArray) := ⟨_, rfl⟩
  have hcp1' : ∀ (ty : TypeId) (dl dc : Nat), 1 ≤ dl → (Builtin.copy_ #[30, 30] ty #[.slice (some ⟨w.heap.size, i * 2, none⟩) dl dc, .slice (some ⟨vb, 0, none⟩) 1 1]).run Tryz.prog W1 = .ok (goInt (Nat.min 1 dl)) W2 := fun ty dl dc hd => by rw [hW2]; exact hcp1 ty dl dc hd
  rw [← hW2] at hrow2
  have hbel2 : Touch (fun k => k = g) w W2 := by rw [hW2]; exact hb2 _
  have hsz2 : W2.heap.size = w.heap.size + 1 := by rw [hW2, size_setRow]; exact hs1
  have hg2 : RowC W2 g cap css tail := ⟨by
    rw [hW2]
    simp only [World.setRow, Array.getElem?_modify]
    rw [if_neg (by omega)]
    exact hrowg.r_blk, h.r_two, h.r_one, h.r_cap, h.r_max⟩
  have hd2 : ∀ c ∈ css.drop i, c.length = 2 := fun c hc => h.r_two c (List.mem_of_mem_drop hc)
  have hd1 : ∀ c ∈ css.drop i, ∀ u ∈ c, u.oneCell' = true := fun c hc => h.r_one c (List.mem_of_mem_drop hc)
  have hdl : (css.drop i).flatten.length = (n - i) * 2 := by rw [flat_two hd2, List.length_drop, hcl]
  have hsrc : ∀ j u, (css.drop i).flatten[j]? = some u → W2.drew.cell? ((⟨g, i * 2, none⟩ : Addr).add j) = some u := fun j u hj => by
    show W2.cell? _ = _
    rw [Addr.add_lit, obj_cell hg2.r_blk]
    have e : css.flatten ++ tail = (css.take i).flatten ++ ((css.drop i).flatten ++ tail) := by rw [← List.append_assoc, ← List.flatten_append, List.take_append_drop]
    have hfl : (css.take i).flatten.length = i * 2 := by rw [flat_two ht2, htl]
    rw [e]
    have hjl := (List.getElem?_eq_some_iff.mp hj).1
    simp only [List.getElem?_toArray]
    rw [List.getElem?_append_right (by omega), hfl, show i * 2 + j - i * 2 = j by omega, List.getElem?_append_left hjl]
    exact hj
  have hrow2d : RowC W2.drew w.heap.size cap2 (C1.set i [a, b]) (List.replicate (cap2 - (n + 1)) [Value.int .i64 0, Value.slice none 0 0]).flatten := ⟨hrow2.r_blk, hrow2.r_two, hrow2.r_one, hrow2.r_cap, hrow2.r_max⟩
  have hls : (C1.set i [a, b]).length = n + 1 := by rw [List.length_set, hl1]
  have hcp2 := fun (ty : TypeId) (dc sc : Nat) => rowC_copy hrow2d (o := (i + 1) * 2) (dLen := n + 1 - (i + 1)) (dCap := dc) (sLen := n - i) (sCap := sc) (a := ⟨g, i * 2, none⟩) (cs := (css.drop i).flatten) ty hsz (by rw [hdl, show n + 1 - (i + 1) = n - i by omega]; simp) hsrc (by rw [hdl]; omega) (fun u hu => by
    obtain ⟨c, hc, hu⟩ := List.mem_flatten.mp hu
    exact hd1 c hc u hu)
  have hrow3 := rowC_write hrow2d (p := i + 1) (ds := css.drop i) hd2 hd1 (by omega) (by rw [List.length_drop]; omega) (by rw [List.length_drop]; omega)
  have hb3 := fun cs => touch_setRow (g := w.heap.size) hbel2.drew (.inr (Nat.le_refl _)) cs
  have e4 : C1.take i = css.take i := by rw [hC1, List.take_append_of_le_length (by omega), List.take_take, Nat.min_self]
  rw [set_take hi1, e4] at hrow3
  obtain ⟨W3, hW3⟩ : ∃ W3, W3 = W2.drew.setRow w.heap.size ((((C1.set i [a, b]).flatten ++ (List.replicate (cap2 - (n + 1)) [Value.int .i64 0, Value.slice none 0 0]).flatten).take ((i + 1) * 2) ++ (css.drop i).flatten ++ ((C1.set i [a, b]).flatten ++ (List.replicate (cap2 - (n + 1)) [Value.int .i64 0, Value.slice none 0 0]).flatten).drop ((i + 1) * 2 + (css.drop i).flatten.length)).toArray) := ⟨_, rfl⟩
  have hcp2' : ∀ (ty : TypeId) (dc sc : Nat), (Builtin.copy_ #[30, 30] ty #[.slice (some ⟨w.heap.size, (i + 1) * 2, none⟩) (n + 1 - (i + 1)) dc, .slice (some ⟨g, i * 2, none⟩) (n - i) sc]).run Tryz.prog W2.drew = .ok (goInt (Nat.min (n - i) (n + 1 - (i + 1)))) W3 := fun ty dc sc => by rw [hW3]; exact hcp2 ty dc sc
  rw [← hW3] at hrow3
  have hbel3 : Touch (fun k => k = g) w W3 := by rw [hW3]; exact hb3 _
  have hlen : (l.take i ++ x :: l.drop i).length = n + 1 := by rw [List.length_append, List.length_cons, List.length_take, List.length_drop]; omega
  have hown : OwnL base 68 2 R W3 (.slice (some ⟨w.heap.size, 0, none⟩) (n + 1) cap2) (l.take i ++ x :: l.drop i) := by
    rw [← hlen]
    exact ownL_of_row hrow3 (zip_ins hz hR i) hbs
  have HRUN := Lib.hid hrun
  have HCP1 := Lib.hid hcp1'
  have HCP2 := Lib.hid hcp2'
  have HOWN := Lib.hid hown
  have HB3 := Lib.hid hbel3
  unfold maxLen at hcap2
  subst hcn
  clear hrun hcp1' hcp2' hown hbel3 hrow3 hcp2 hb3 hls hrow2d hsrc hdl hd1 hd2 hg2 hsz2 hbel2 hrow2 hb2 hcp1 hrowg hg1 hi1 hl1 hk1 hs1 hb1 hrow1 hsz ht1 ht2 htl hcl h hz hv hR h1 h2 hbs hlen hW3 hW2 hC1 hvl hgl e4 hn
  go_enter Tryz.func142, Tryz.ntmps142
  go_wp2_with (first
    | (at_builtin; refine Lib.wpList_append_run _ rfl _ _ _ _ rfl _ _ rfl rfl _ _ (HRUN.out _ _ (by go_num)) ?_)
    | (refine wpList_copy_x rfl _ _ rfl rfl rfl (HCP1.out _ (cap + 1 - i) _ (by omega)) ?_))
  have hw1 : IntKind.i64.wrap ((i : Int) + 1) = (i : Int) + 1 := by rw [IntKind.wrap_i64]; omega
  have hw2 : Go.RowKit.wrap64 ((i : Int) + 1) = (i : Int) + 1 := by unfold Go.RowKit.wrap64; omega
  have hp1 : (0 : Int) ≤ (i : Int) + 1 := by omega
  have hp2 : (i : Int) + 1 ≤ (cap : Int) + 1 := by omega
  have hp3 : (i : Int) ≤ (cap : Int) := by omega
  have hp4 : ((i : Int) + 1).toNat = i + 1 := by omega
  have hp5 : ¬ cap2 = i + 1 := by omega
  have hp6 : ¬ cap = i := by omega
  go_region_law (refine step_copy_runI rfl _ _ 30 30 rfl _ _ (by simp [Act.eval, Act.put]) (by simp [Act.eval, Act.put]) (HCP2.out _ (cap2 - (i + 1)) (cap - i)) ?_)
  all_goals (first | (go_wp2; done) | (go_wp2; go_ret; exact ⟨_, rfl, HOWN.out, HB3.out, rfl⟩) | (go_ret; exact ⟨_, rfl, HOWN.out, HB3.out, rfl⟩))
end
end Go.Proofs.YtpfdnggacpehdaaGreatDoor

/- slices.Insert at slots, in place; and all its roads. Conditions: those that each theorem names. -/
namespace Go.Proofs.YtpfdnggacpehdaaGreatDoor
open Go.RowKit
set_option linter.unusedVariables false
set_option maxRecDepth 100000

section
variable {R : List Value → Slt → Prop} {base vb i : Nat} {l : List Slt} {x : Slt} {a b : Value}
theorem over_apart (w : World) {g o : Nat} {cs cs2 : Array Value} (hv : w.heap[vb]? = some (.cells cs 68 (0, 0))) (hg : w.heap[g]? = some (.cells cs2 68 (0, 0))) (h0 : cs2.size ≠ 0) (hne : vb ≠ g) (lb cb : Nat) :
    (callFunc 163 #[.slice (some ⟨vb, 0, none⟩) 1 1, .slice (some ⟨g, o, none⟩) lb cb]).run Tryz.prog w = .ok (.value (.bool false)) w := by
  have hz : ∀ w, (Go.sizeOf 68).run Tryz.prog w = .ok 2 w := fun w => by
    obtain ⟨it, i1, i2, i3, i4⟩ := info_ofs info_slt
    simp [sizeOf, typeInfo, i1, i3]
  rw [run_callFunc_extern Tryz.func163 (by kernel_rfl) (by kernel_rfl) (by kernel_rfl) (e := Extern.SlicesOverlaps.overlaps #[30, 30] #[4]) (by kernel_rfl),
    Lib.run_overlaps_apart w 30 4 68 Tryz.underlying30 2 hz ⟨vb, 0, none⟩ ⟨g, o, none⟩ 1 1 lb cb hne 68 68 cs.size cs2.size (by simp [World.shape?, hv]) (by simp [World.shape?, hg]) h0 (obj_free hv 0) (obj_free hv _)]
  rfl

set_option maxHeartbeats 16000000 in
theorem ins_shift (w : World) {g cap n : Nat} {css : List (List Value)} {tail : List Value} (h : RowC w g cap css tail) (hz : Zip R css l) (hn : n = l.length) (hm : n ≤ 1000) (hi : i < n) (hc : n + 1 ≤ cap) (hv : w.heap[vb]? = some (.cells #[a, b] 68 (0, 0))) (hR : R [a, b] x) (h1 : a.oneCell' = true) (h2 : b.oneCell' = true) (hne : vb ≠ g) (hbg : base ≤ g) :
    Calls Tryz.prog 142 #[.slice (some ⟨g, 0, none⟩) n cap, .int .i64 (i : Int), .slice (some ⟨vb, 0, none⟩) 1 1] w fun e w' => ∃ v', e = .returned v' ∧ OwnL base 68 2 R w' v' (l.take i ++ x :: l.drop i) ∧ Touch (fun k => k = g) w w' ∧ v'.ownBlock = some g := by
  have hcl : css.length = n := by rw [hz.1, hn]
  have hcap : cap ≤ maxLen := h.r_max
  have hov : ∀ o lb cb, (callFunc 163 #[.slice (some ⟨vb, 0, none⟩) 1 1, .slice (some ⟨g, o, none⟩) lb cb]).run Tryz.prog w = .ok (.value (.bool false)) w := fun o lb cb => over_apart w hv h.r_blk (by
    have := h.r_cap
    have := flat_two h.r_two
    simp only [List.size_toArray, List.length_append]
    omega) hne lb cb
  have hsz : (Tryz.prog.info? 68).map (·.size) = some 2 := by
    obtain ⟨it, i1, i2, i3, i4⟩ := info_ofs info_slt
    rw [i1]; simp [i3]
  have hd2 : ∀ c ∈ css.drop i, c.length = 2 := fun c hc => h.r_two c (List.mem_of_mem_drop hc)
  have hd1 : ∀ c ∈ css.drop i, ∀ u ∈ c, u.oneCell' = true := fun c hc => h.r_one c (List.mem_of_mem_drop hc)
  have hdl : (css.drop i).flatten.length = (n - i) * 2 := by rw [flat_two hd2, List.length_drop, hcl]
  have hrowd : RowC w.drew g cap css tail := ⟨h.r_blk, h.r_two, h.r_one, h.r_cap, h.r_max⟩
  have hsrc : ∀ j u, (css.drop i).flatten[j]? = some u → w.drew.cell? ((⟨g, i * 2, none⟩ : Addr).add j) = some u := fun j u hj => by
    show w.cell? _ = _
    rw [Addr.add_lit, obj_cell h.r_blk]
    have e : css.flatten ++ tail = (css.take i).flatten ++ ((css.drop i).flatten ++ tail) := by rw [← List.append_assoc, ← List.flatten_append, List.take_append_drop]
    have hfl : (css.take i).flatten.length = i * 2 := by rw [flat_two (fun c hc => h.r_two c (List.mem_of_mem_take hc)), List.length_take]; omega
    rw [e]
    have hjl := (List.getElem?_eq_some_iff.mp hj).1
    simp only [List.getElem?_toArray]
    rw [List.getElem?_append_right (by omega), hfl, show i * 2 + j - i * 2 = j by omega, List.getElem?_append_left hjl]
    exact hj
  have hcp1 := fun (ty : TypeId) (dc sc : Nat) => rowC_copy hrowd (o := (i + 1) * 2) (dLen := n + 1 - (i + 1)) (dCap := dc) (sLen := n + 1 - i) (sCap := sc) (a := ⟨g, i * 2, none⟩) (cs := (css.drop i).flatten) ty hsz (by rw [hdl, show Nat.min (n + 1 - i) (n + 1 - (i + 1)) = n - i by simp only [Nat.min_def]; split <;> omega]) hsrc (by rw [hdl]; omega) (fun u hu => by
    obtain ⟨c, hc, hu⟩ := List.mem_flatten.mp hu
    exact hd1 c hc u hu)
  have hrow1 := rowC_write hrowd (p := i + 1) (ds := css.drop i) hd2 hd1 (by omega) (by rw [List.length_drop]; omega) (by rw [List.length_drop]; omega)
  have hb1 := fun cs => touch_setRow (g := g) ((Touch.refl (fun k => k = g) w).drew) (.inl rfl) cs
  obtain ⟨W1, hW1⟩ : ∃ W1, W1 = w.drew.setRow g (((css.flatten ++ tail).take ((i + 1) * 2) ++ (css.drop i).flatten ++ (css.flatten ++ tail).drop ((i + 1) * 2 + (css.drop i).flatten.length)).toArray) := ⟨_, rfl⟩
  have hcp1' : ∀ (ty : TypeId) (dc sc : Nat), (Builtin.copy_ #[30, 30] ty #[.slice (some ⟨g, (i + 1) * 2, none⟩) (n + 1 - (i + 1)) dc, .slice (some ⟨g, i * 2, none⟩) (n + 1 - i) sc]).run Tryz.prog w.drew = .ok (goInt (Nat.min (n + 1 - i) (n + 1 - (i + 1)))) W1 := fun ty dc sc => by rw [hW1]; exact hcp1 ty dc sc
  rw [← hW1] at hrow1
  have hbel1 : Touch (fun k => k = g) w W1 := by rw [hW1]; exact hb1 _
  have hs1 : W1.heap.size = w.heap.size := by rw [hW1, size_setRow]; rfl
  have hv1 : W1.heap[vb]? = some (.cells #[a, b] 68 (0, 0)) := by
    rw [hW1]
    simp only [World.setRow, Array.getElem?_modify]
    rw [if_neg (by omega)]
    exact hv
  obtain ⟨T1, hT1⟩ : ∃ T1, T1 = tail.drop ((i + 1 + (css.drop i).length - css.length) * 2) := ⟨_, rfl⟩
  rw [← hT1] at hrow1
  obtain ⟨C1, hC1⟩ : ∃ C1, C1 = css.take (i + 1) ++ css.drop i := ⟨_, rfl⟩
  have hl1 : C1.length = n + 1 := by rw [hC1, List.length_append, List.length_take, List.length_drop]; omega
  have e4 : C1.set i [a, b] = css.take i ++ [[a, b]] ++ css.drop i := by
    have := set_take (css := css) (c := [a, b]) (i := i) (by omega)
    rw [hC1, List.set_append_left _ _ (by rw [List.length_take]; omega), ← this, List.take_set]
  rw [← hC1] at hrow1
  have hcp2 := fun (ty : TypeId) (dl dc : Nat) (hd : 1 ≤ dl) => rowC_copy hrow1 (o := i * 2) (dLen := dl) (dCap := dc) (sLen := 1) (sCap := 1) (a := ⟨vb, 0, none⟩) (cs := [a, b]) ty hsz (by rw [show Nat.min 1 dl = 1 from Nat.min_eq_left hd]; rfl) (World.news_of_block hv1) (by simp; omega) (by intro u hu; simp at hu; rcases hu with rfl | rfl <;> assumption)
  have hrow2 := rowC_put hrow1 (i := i) (by omega) h1 h2
  have hb2 := fun cs => touch_setRow (g := g) hbel1 (.inl rfl) cs
  rw [e4] at hrow2
  have hlen : (l.take i ++ x :: l.drop i).length = n + 1 := by rw [List.length_append, List.length_cons, List.length_take, List.length_drop]; omega
  have hown := ownL_of_row hrow2 (zip_ins hz hR i) hbg
  rw [hlen] at hown
  obtain ⟨W2, hW2⟩ : ∃ W2, W2 = W1.setRow g (((C1.flatten ++ T1).take (i * 2) ++ [a, b] ++ (C1.flatten ++ T1).drop (i * 2 + 2)).toArray) := ⟨_, rfl⟩
  have hcp2' : ∀ (ty : TypeId) (dl dc : Nat), 1 ≤ dl → (Builtin.copy_ #[30, 30] ty #[.slice (some ⟨g, i * 2, none⟩) dl dc, .slice (some ⟨vb, 0, none⟩) 1 1]).run Tryz.prog W1 = .ok (goInt (Nat.min 1 dl)) W2 := fun ty dl dc hd => by rw [hW2]; exact hcp2 ty dl dc hd
  rw [← hW2] at hown
  have hbel2 : Touch (fun k => k = g) w W2 := by rw [hW2]; exact hb2 _
  have HCP1 := Lib.hid hcp1'
  have HCP2 := Lib.hid hcp2'
  have HOWN := Lib.hid hown
  have HB2 := Lib.hid hbel2
  unfold maxLen at hcap
  clear hcp1' hcp2' hown hbel2 hW2 hcp2 hb2 hrow2 e4 hl1 hC1 hT1 hv1 hs1 hbel1 hrow1 hW1 hb1 hcp1 hsrc hrowd hdl hd1 hd2 hsz hcl h hz hv hR h1 h2 hlen hbg hne hn
  have hw1 : IntKind.i64.wrap ((i : Int) + 1) = (i : Int) + 1 := by rw [IntKind.wrap_i64]; omega
  have hw2 : Go.RowKit.wrap64 ((i : Int) + 1) = (i : Int) + 1 := by unfold Go.RowKit.wrap64; omega
  have hp1 : (0 : Int) ≤ (i : Int) + 1 := by omega
  have hp2 : (i : Int) + 1 ≤ (n : Int) + 1 := by omega
  have hp3 : (i : Int) ≤ (n : Int) + 1 := by omega
  have hp4 : ((i : Int) + 1).toNat = i + 1 := by omega
  have hp5 : ¬ cap = i + 1 := by omega
  have hp6 : ¬ cap = i := by omega
  go_enter Tryz.func142, Tryz.ntmps142
  go_wp2_with (simp only [hov])
  go_region_law (refine step_copy_runI rfl _ _ 30 30 rfl _ _ (by simp [Act.eval, Act.put]) (by simp [Act.eval, Act.put]) (HCP1.out _ (cap - (i + 1)) (cap - i)) ?_)
  all_goals (go_wp2_with (refine wpList_copy_x rfl _ _ rfl rfl rfl (HCP2.out _ (n + 1 - i) _ (by omega)) ?_))
  all_goals (go_ret; exact ⟨_, rfl, HOWN.out, HB2.out, rfl⟩)

/-- slices.Insert of one slot at place i: nothing but the row's block turns. -/
theorem insert_sltT (w : World) {v : Value} (h : OwnL base 68 2 R w v l) (hm : l.length ≤ 1000) (hi : i ≤ l.length) (hv : w.heap[vb]? = some (.cells #[a, b] 68 (0, 0))) (hR : R [a, b] x) (h1 : a.oneCell' = true) (h2 : b.oneCell' = true) (hne : v.ownBlock ≠ some vb) (hbs : base ≤ w.heap.size) :
    Calls Tryz.prog 142 #[v, .int .i64 (i : Int), .slice (some ⟨vb, 0, none⟩) 1 1] w fun e w' => ∃ v', e = .returned v' ∧ OwnL base 68 2 R w' v' (l.take i ++ x :: l.drop i) ∧ MvT v w w' v' := by
  by_cases hin : i = l.length
  · exact ins_end w h hm hin hv hR h1 h2 hbs
  obtain ⟨A, cap, ev, q1, q2⟩ := ownL_form h
  subst ev
  rcases A with _ | ad
  · exfalso
    obtain ⟨css, c1, c2, c3⟩ := h
    obtain ⟨A9, c9, e9, _, _, h0, _⟩ := own_form c3
    cases e9
    have := (h0 rfl).2
    omega
  have hg : ∃ g, ad = ⟨g, 0, none⟩ := by
    obtain ⟨css, c1, c2, c3⟩ := h
    obtain ⟨A9, c9, e9, _, _, _, h1⟩ := own_form c3
    cases e9
    exact h1 ad rfl
  obtain ⟨g, rfl⟩ := hg
  obtain ⟨-, hbg, css, tail, hrow, hzip⟩ := rowC_of h
  by_cases hc : l.length + 1 ≤ cap
  · exact (ins_shift w hrow hzip rfl hm (by omega) hc hv hR h1 h2 (fun e => hne (by subst e; rfl)) hbg).mono fun e w' ⟨v', e1, e2, e3, e4⟩ => ⟨v', e1, e2, e3.mono (fun k hk => by rw [hk]; rfl), .inl e4⟩
  · exact (ins_grow w hrow hzip rfl hm (by omega) (by omega) hv hR h1 h2 hbs).mono fun e w' ⟨v', e1, e2, e3, e4⟩ => ⟨v', e1, e2, e3.mono (fun k hk => by rw [hk]; rfl), .inr ⟨_, e4, Nat.le_refl _⟩⟩
end
end Go.Proofs.YtpfdnggacpehdaaGreatDoor

/- slices.Delete at slots: a row of the call's own without one of them. Conditions: those that each theorem names. -/
namespace Go.Proofs.YtpfdnggacpehdaaGreatDoor
open Go.RowKit
set_option linter.unusedVariables false
set_option maxRecDepth 100000

theorem step_append_runI {P : Program} {ops : Array Oper} {o : Oper} {a : Act} {w : World} {K : Act → World → Prop} {Q : Exit → Act → World → Prop} {E : Prop}
    (hg : o.guard = none) (s x : Operand) (t : TypeId) (hop : o.op = Op.call { callee := Callee.builtin Builtin.append, args := #[s, x], argTypes := #[t, t] })
    (v y : Value) (hs : a.eval s = v) (hx : a.eval x = y) {v' : Value} {w' : World} (hrun : ∀ ty, (Builtin.append_ #[t, t] ty #[v, y]).run P w = .ok v' w') (hK : K (a.put o.dst v') w') :
    if Region.wanted o (yielded ops a.tmps) = true then Oper.wp P o a w K Q else E := by
  have hw : Region.wanted o (yielded ops a.tmps) = true := by simp [Region.wanted, hg]
  rw [if_pos hw]
  unfold Oper.wp
  simp [execOp, hop, resolve, invoke, builtin, hs, hx, hrun, Result.andThen]
  exact hK

section
variable {R : List Value → Slt → Prop} {base i : Nat} {l : List Slt}
theorem list_last {α : Type} {l : List α} {n : Nat} (h : l.length = n + 1) : ∃ x, l.drop n = [x] := by
  have : (l.drop n).length = 1 := by rw [List.length_drop]; omega
  match hd : l.drop n, this with
  | [x], _ => exact ⟨x, rfl⟩
set_option maxHeartbeats 16000000 in
theorem delete_slt (w : World) {v : Value} (h : OwnL base 68 2 R w v l) (hm : l.length ≤ 1000000) (hi : i < l.length) :
    Calls Tryz.prog 141 #[v, .int .i64 (i : Int), .int .i64 ((i : Int) + 1)] w fun e w' => ∃ v', e = .returned v' ∧ OwnL base 68 2 R w' v' (l.take i ++ l.drop (i + 1)) ∧ MvT v w w' v' := by
  obtain ⟨A, cap, ev, q1, q2⟩ := ownL_form h
  subst ev
  have hg : ∃ g, A = some ⟨g, 0, none⟩ := by
    obtain ⟨css, c1, c2, c3⟩ := h
    obtain ⟨A9, c9, e9, _, _, h0, h1⟩ := own_form c3
    cases e9
    cases A with
    | none => have := (h0 rfl).2; omega
    | some ad => obtain ⟨g, e⟩ := h1 ad rfl; exact ⟨g, by rw [e]⟩
  obtain ⟨g, rfl⟩ := hg
  obtain ⟨-, hbg, css, tail, hrow, hzip⟩ := rowC_of h
  replace hrow : RowC w.drew g cap css tail := ⟨hrow.r_blk, hrow.r_two, hrow.r_one, hrow.r_cap, hrow.r_max⟩
  obtain ⟨n, hn⟩ : ∃ n, n + 1 = l.length := ⟨l.length - 1, by omega⟩
  have hcl : css.length = n + 1 := by rw [hzip.1, hn]
  have hsz : ∃ it, Tryz.prog.info? 68 = some it ∧ it.size = 2 := by
    obtain ⟨it, i1, i2, i3, i4⟩ := info_ofs info_slt
    exact ⟨it, i1, i3⟩
  obtain ⟨it, hit, hi2⟩ := hsz
  have hc := rowC_cut hrow n
  have hcn : (css.take n).length = n := by rw [List.length_take]; omega
  have hd2 : ∀ c ∈ css.drop (i + 1), c.length = 2 := fun c hc => hrow.r_two c (List.mem_of_mem_drop hc)
  have hd1 : ∀ c ∈ css.drop (i + 1), ∀ u ∈ c, u.oneCell' = true := fun c hc => hrow.r_one c (List.mem_of_mem_drop hc)
  have hdl : (css.drop (i + 1)).flatten.length = (n - i) * 2 := by rw [flat_two hd2, List.length_drop, hcl]; congr 1; omega
  have hcap := rowC_le hrow
  have hsrc : ∀ j u, (css.drop (i + 1)).flatten[j]? = some u → w.drew.cell? ((⟨g, (i + 1) * 2, none⟩ : Addr).add j) = some u := fun j u hj => by
    rw [Addr.add_lit, obj_cell hrow.r_blk]
    have e : css.flatten ++ tail = (css.take (i + 1)).flatten ++ ((css.drop (i + 1)).flatten ++ tail) := by rw [← List.append_assoc, ← List.flatten_append, List.take_append_drop]
    have hfl : (css.take (i + 1)).flatten.length = (i + 1) * 2 := by rw [flat_two (fun c hc => hrow.r_two c (List.mem_of_mem_take hc)), List.length_take]; congr 1; omega
    rw [e]
    have hjl := (List.getElem?_eq_some_iff.mp hj).1
    simp only [List.getElem?_toArray]
    rw [List.getElem?_append_right (by omega), hfl, show (i + 1) * 2 + j - (i + 1) * 2 = j by omega, List.getElem?_append_left hjl]
    exact hj
  have hcd := rowC_le hc
  have hst := rowC_store hc (o := i * 2) (vs := (css.drop (i + 1)).flatten) (by rw [hdl]; omega) (fun u hu => by
    obtain ⟨c, hc, hu⟩ := List.mem_flatten.mp hu
    exact hd1 c hc u hu)
  have hrow1 := rowC_write hc (p := i) (ds := css.drop (i + 1)) hd2 hd1 (by rw [hcn]; omega) (by rw [hcn, List.length_drop]; omega) (by rw [List.length_drop]; omega)
  obtain ⟨W1, hW1⟩ : ∃ W1, W1 = w.drew.setRow g ((((css.take n).flatten ++ ((css.drop n).flatten ++ tail)).take (i * 2) ++ (css.drop (i + 1)).flatten ++ ((css.take n).flatten ++ ((css.drop n).flatten ++ tail)).drop (i * 2 + (css.drop (i + 1)).flatten.length)).toArray) := ⟨_, rfl⟩
  rw [← hW1] at hst hrow1
  have happ : ∀ (A2 : Option Addr) (ty : TypeId) (sc : Nat), (n = i ∨ A2 = some ⟨g, (i + 1) * 2, none⟩) → (Builtin.append_ #[30, 30] ty #[.slice (some ⟨g, 0, none⟩) i cap, .slice A2 (n - i) sc]).run Tryz.prog w.drew = .ok (.slice (some ⟨g, 0, none⟩) n cap) W1 := fun A2 ty sc hA => by
    have hfc : (Builtin.firstCells 2 (n - i) (.slice A2 (n - i) sc)).run Tryz.prog w.drew = .ok (css.drop (i + 1)).flatten.toArray w.drew := by
      rcases hA with hA | hA
      · have e0 : (css.drop (i + 1)).flatten = [] := List.eq_nil_of_length_eq_zero (by rw [hdl]; omega)
        rw [e0]
        cases A2 with
        | none => exact run_firstCells_none _ _ _ _ _
        | some a => exact run_firstCells_some w.drew 2 (n - i) a (n - i) sc [] (by simp; omega) (fun j v hj => by simp at hj)
      · rw [hA]
        exact run_firstCells_some w.drew 2 (n - i) _ (n - i) sc _ hdl hsrc
    have hni : i + (n - i) = n := by omega
    have hnc : n ≤ cap := by omega
    simp [Builtin.append_, run_underlying Tryz.underlying30, sizeOf, typeInfo, hit, hi2, Builtin.lenOf, hfc, Addr.add_lit, hst, hni, hnc]
  have ht1 : Touch (fun k => k = g) w W1 := by rw [hW1]; exact touch_setRow (S := fun k => k = g) (Touch.refl _ w).drew (.inl rfl) _
  clear hW1
  have e1 : (css.take n).take i = css.take i := by rw [List.take_take, Nat.min_eq_left (by omega)]
  rw [e1, hcn, List.length_drop, hcl, show (i + (n + 1 - (i + 1)) - n) * 2 = 0 by omega, List.drop_zero] at hrow1
  obtain ⟨cl, hcl1⟩ := list_last hcl
  have hcm : cl ∈ css := List.mem_of_mem_drop (i := n) (by rw [hcl1]; simp)
  have hcl2 : cl.length = 2 := hrow.r_two cl hcm
  have hcl3 : ∀ u ∈ cl, u.oneCell' = true := hrow.r_one cl hcm
  obtain ⟨a, b, rfl⟩ : ∃ a b, cl = [a, b] := by
    match cl, hcl2 with
    | [a, b], _ => exact ⟨a, b, rfl⟩
  rw [hcl1] at hrow1
  have hrow2 := rowC_more hrow1 (a := a) (b := b) (rest := tail) (by simp) (hcl3 a (by simp)) (hcl3 b (by simp))
  have hlen1 : (css.take i ++ css.drop (i + 1)).length = n := by rw [List.length_append, List.length_take, List.length_drop]; omega
  obtain ⟨cs9, hc9, tl9, hr9⟩ := rowC_clear' hrow2 (i := n) (by rw [List.length_append, hlen1]; simp) zero_slt
  rw [List.length_append, hlen1, List.length_singleton, show n + 1 - n = 1 by omega] at hc9
  rw [List.take_append_of_le_length (by omega), List.take_of_length_le (by omega)] at hr9
  have ht9 : Touch (fun k => k = g) w (W1.setRow g cs9) := touch_setRow (S := fun k => k = g) ht1 (.inl rfl) cs9
  obtain ⟨W9, hW9⟩ : ∃ W9, W9 = W1.setRow g cs9 := ⟨_, rfl⟩
  rw [← hW9] at hc9 hr9 ht9
  have hlen : (l.take i ++ l.drop (i + 1)).length = n := by rw [List.length_append, List.length_take, List.length_drop]; omega
  have hown := ownL_of_row hr9 (zip_app (zip_take hzip i) (zip_drop hzip (i + 1))) hbg
  rw [hlen] at hown
  obtain ⟨cs0, hc0, tl0, hr0⟩ := rowC_clear' hrow (i := n) (by omega) zero_slt
  rw [hcl, show n + 1 - n = 1 by omega] at hc0
  obtain ⟨W0, hW0⟩ : ∃ W0, W0 = w.drew.setRow g cs0 := ⟨_, rfl⟩
  have ht0 : Touch (fun k => k = g) w W0 := by rw [hW0]; exact touch_setRow (S := fun k => k = g) (Touch.refl _ w).drew (.inl rfl) _
  rw [← hW0] at hc0 hr0
  have hown0 : n = i → OwnL base 68 2 R W0 (.slice (some ⟨g, 0, none⟩) n cap) (l.take i ++ l.drop (i + 1)) := fun e => by
    subst e
    have := ownL_of_row hr0 (zip_take hzip n) hbg
    rw [List.drop_of_length_le (by omega), List.append_nil]
    rwa [List.length_take, Nat.min_eq_left (by omega)] at this
  have HCLR0 := Lib.hid hc0
  have HOWN0 := Lib.hid hown0
  have HT0 := Lib.hid ht0
  clear hc0 hown0 ht0 hr0 hW0
  have HAPP := Lib.hid happ
  have HCLR := Lib.hid hc9
  have HOWN := Lib.hid hown
  have HT := Lib.hid ht9
  have hcl9 : n + 1 ≤ cap := by omega
  have hmn : n ≤ 1000000 := by omega
  have hin : i ≤ n := by omega
  rw [← hn]
  unfold maxLen at q2
  clear hcm happ hc9 hown ht9 hlen hW9 hr9 hlen1 hrow2 hrow1 hcl3 hcl2 hcl1 e1 ht1 hst hcd hsrc hcap hdl hd1 hd2 hcn hc hi2 hit hcl hn hzip hrow hbg q1 h hm hi
  have p1 : (0 : Int) ≤ (i : Int) + 1 := by omega
  have p2 : (i : Int) ≤ (i : Int) + 1 := by omega
  have p3 : (i : Int) + 1 ≤ ((n + 1 : Nat) : Int) := by omega
  have p4 : ((i : Int) + 1).toNat = i + 1 := by omega
  have p5 : ((i : Int) == (i : Int) + 1) = false := beq_false_of_ne (by omega)
  have p6 : n + 1 - (i + 1) = n - i := by omega
  have p7 : (i : Int) ≤ (n : Int) + 1 := by omega
  have p8 : (i : Int) ≤ (cap : Int) := by omega
  have p9 : (i : Int) + 1 ≤ (n : Int) + 1 := by omega
  have p10 : ¬ cap = n := by omega
  have hc9 := HCLR.out
  by_cases hce : cap = i + 1
  · have hni : n = i := by omega
    subst hni
    subst hce
    have z0 : n - n = 0 := by omega
    go_enter Tryz.func141, Tryz.ntmps141
    go_wp2
    go_region_law (refine step_append_runI rfl (.tmp 22) (.tmp 25) 30 rfl _ _ (by simp [Act.eval, Act.put]) (by simp [Act.eval, Act.put]) (fun ty => HAPP.out _ ty _ (.inl rfl)) ?_)
    all_goals (go_wp2; rw [HCLR0.out]; go_wp2; go_ret; exact ⟨_, rfl, HOWN0.out (by first | trivial | rfl), HT0.out.mono (fun k hk => by rw [hk]; rfl), .inl rfl⟩)
  · go_enter Tryz.func141, Tryz.ntmps141
    go_wp2
    go_region_law (refine step_append_runI rfl (.tmp 22) (.tmp 25) 30 rfl _ _ (by simp [Act.eval, Act.put]) (by simp [Act.eval, Act.put]) (fun ty => HAPP.out _ ty (cap - (i + 1)) (.inr rfl)) ?_)
    all_goals (go_wp2; go_ret; exact ⟨_, rfl, HOWN.out, HT.out.mono (fun k hk => by rw [hk]; rfl), .inl rfl⟩)
end
end Go.Proofs.YtpfdnggacpehdaaGreatDoor

/- The landed layer 22: a slot's values, and a slot set, in a tree that is being read. Conditions: those that each theorem names. -/
namespace Go.Proofs.YtpfdnggacpehdaaGreatDoor
open Go.RowKit
set_option linter.unusedVariables false
set_option maxRecDepth 100000

/-! ### Plain -/
theorem putN_split {num : Int} {vals : List Va} : ∀ {a b : List Slt}, (∀ y ∈ a, y.snum < num) → (∀ y ∈ b, num < y.snum) → putN num vals (a ++ b) = a ++ ⟨num, vals⟩ :: b
  | [], [], _, _ => rfl
  | [], y :: b, _, h => by rw [List.nil_append, putN, if_pos (h y List.mem_cons_self)]; rfl
  | x :: a, b, h, h2 => by
    have := h x List.mem_cons_self
    rw [List.cons_append, putN, if_neg (by omega), putN_split (fun y hy => h y (List.mem_cons_of_mem _ hy)) h2, List.cons_append]
theorem take_mem_lt {α : Type} {l : List α} {i : Nat} {y : α} (h : y ∈ l.take i) : ∃ j, j < i ∧ l[j]? = some y := by
  obtain ⟨j, hj, e⟩ := List.mem_iff_getElem.mp h
  rw [List.length_take] at hj
  exact ⟨j, by omega, by rw [List.getElem_take] at e; rw [← e]; exact List.getElem?_eq_getElem (by omega)⟩
theorem drop_mem_le {α : Type} {l : List α} {i : Nat} {y : α} (h : y ∈ l.drop i) : ∃ j, i ≤ j ∧ l[j]? = some y := by
  obtain ⟨j, hj, e⟩ := List.mem_iff_getElem.mp h
  rw [List.length_drop] at hj
  exact ⟨i + j, by omega, by rw [List.getElem_drop] at e; rw [← e]; exact List.getElem?_eq_getElem (by omega)⟩
section
variable {num : Int} {l : List Slt} {i : Nat}
theorem place_lt (h : PlaceAt num l i true) : i < l.length := by
  obtain ⟨y, hy, _⟩ := h.2.2.1 rfl
  exact (List.getElem?_eq_some_iff.mp hy).1
theorem place_after (h : PlaceAt num l i true) (hr : Rise l) : ∀ y ∈ l.drop (i + 1), num < y.snum := fun y hy => by
  obtain ⟨j, hj, e⟩ := drop_mem_le hy
  obtain ⟨z, hz, ez⟩ := h.2.2.1 rfl
  have := rise_lt hr (show i < j by omega) hz e
  omega
theorem place_before {b : Bool} (h : PlaceAt num l i b) : ∀ y ∈ l.take i, y.snum < num := fun y hy => by
  obtain ⟨j, hj, e⟩ := take_mem_lt hy
  exact h.2.1 j y hj e
theorem slt_cut {α : Type} {l : List α} {i : Nat} {y : α} (h : l[i]? = some y) : l = l.take i ++ y :: l.drop (i + 1) := by
  obtain ⟨hi, e⟩ := List.getElem?_eq_some_iff.mp h
  rw [← e, List.getElem_cons_drop, List.take_append_drop]
theorem dropN_app (num : Int) (a b : List Slt) : dropN num (a ++ b) = dropN num a ++ dropN num b := by unfold dropN; rw [List.filter_append]
theorem dropN_no {num : Int} {a : List Slt} (h : ∀ y ∈ a, y.snum ≠ num) : dropN num a = a := by
  unfold dropN
  rw [List.filter_eq_self]
  intro s hs
  simp [h s hs]
theorem dropN_there (h : PlaceAt num l i true) (hr : Rise l) : dropN num l = l.take i ++ l.drop (i + 1) := by
  obtain ⟨y, hy, ey⟩ := h.2.2.1 rfl
  have e := slt_cut hy
  have e1 : dropN num (l.take i ++ y :: l.drop (i + 1)) = l.take i ++ l.drop (i + 1) := by
    rw [dropN_app, dropN_no (fun z hz => by have := place_before h z hz; omega)]
    congr 1
    show List.filter _ (y :: _) = _
    rw [List.filter_cons, if_neg (by simp [ey])]
    exact dropN_no (fun z hz => by have := place_after h hr z hz; omega)
  rw [← e] at e1
  exact e1
theorem dropN_not (h : PlaceAt num l i false) : dropN num l = l := by
  refine dropN_no (fun y hy => ?_)
  obtain ⟨j, hj, e⟩ := List.mem_iff_getElem.mp hy
  by_cases hji : j < i
  · have := h.2.1 j y hji (by rw [List.getElem?_eq_getElem hj, e]); omega
  · have := h.2.2.2 rfl j y (by omega) (by rw [List.getElem?_eq_getElem hj, e]); omega
theorem withT_there {vals : List Va} (hv : vals ≠ []) (h : PlaceAt num l i true) (hr : Rise l) : withT num vals l = l.take i ++ ⟨num, vals⟩ :: l.drop (i + 1) := by
  unfold withT
  rw [if_neg hv, dropN_there h hr, putN_split (place_before h) (place_after h hr)]
theorem withT_not {vals : List Va} (hv : vals ≠ []) (h : PlaceAt num l i false) : withT num vals l = l.take i ++ ⟨num, vals⟩ :: l.drop i := by
  unfold withT
  rw [if_neg hv, dropN_not h]
  have := putN_split (num := num) (vals := vals) (place_before h) (b := l.drop i) (fun y hy => by
    obtain ⟨j, hj, e⟩ := drop_mem_le hy
    exact h.2.2.2 rfl j y hj e)
  rwa [List.take_append_drop] at this
theorem getT_place {y : Slt} (h : PlaceAt num l i true) (hy : l[i]? = some y) : getT l num = y.svals := by
  obtain ⟨z, hz, ez⟩ := h.2.2.1 rfl
  rw [hy] at hz
  cases hz
  exact getT_at hy ez (fun j x hj hx => by have := h.2.1 j x hj hx; omega)
theorem getT_not (h : PlaceAt num l i false) : getT l num = [] := getT_none (fun j y hy => by
  by_cases hji : j < i
  · have := h.2.1 j y hji hy; omega
  · have := h.2.2.2 rfl j y (by omega) hy; omega)
end

/-! ### Memory -/
def Shape (R : List Value → Slt → Prop) : Prop := ∀ c y, R c y → ∃ A n d, c = [.int .i64 y.snum, .slice A n d]
/-- A tree that is being read, in its block. -/
structure HdT (R : List Value → Slt → Prop) (base : Nat) (w : World) (g : Nat) (vs vr : Value) (sl : List Slt) : Prop where
  h_blk : w.heap[g]? = some (.cells #[vs, vr] 33 (0, 0))
  h_row : OwnL base 68 2 R w vs sl
  h_rise : Rise sl
  h_len : sl.length ≤ 900
  h_base : base ≤ w.heap.size
section
variable {R R' : List Value → Slt → Prop} {base : Nat} {w w' : World} {g : Nat} {vs vr : Value} {sl : List Slt}
theorem HdT.bel (h : HdT R base w g vs vr sl) (hb : Below w.heap.size w w') : HdT R base w' g vs vr sl :=
  ⟨(hb.block _ (lt_of_block h.h_blk)).trans h.h_blk, ownL_bel h.h_row (fun _ _ h => h) hb, h.h_rise, h.h_len, Nat.le_trans h.h_base hb.size⟩
theorem HdT.keep (h : HdT R base w g vs vr sl) (hg : w'.heap[g]? = w.heap[g]?) (hb : ∀ k, vs.ownBlock = some k → w'.heap[k]? = w.heap[k]?) (hs : w.heap.size ≤ w'.heap.size) : HdT R base w' g vs vr sl :=
  ⟨hg.trans h.h_blk, ownL_keep h.h_row (fun _ _ h => h) hb, h.h_rise, h.h_len, Nat.le_trans h.h_base hs⟩
theorem HdT.ne (h : HdT R base w g vs vr sl) : vs.ownBlock ≠ some g := by
  obtain ⟨css, c1, c2, c3⟩ := h.h_row
  exact own_other c3 h.h_blk (by decide)

set_option maxHeartbeats 4000000 in
theorem place_any (hR : Shape R) (h : HdT R base w g vs vr sl) (num : Int) :
    Calls Tryz.prog 140 #[.pointer (some ⟨g, 0, none⟩), .int .i64 num] w fun e w' => ∃ (i : Nat) (b : Bool), e = .returned (.tuple #[.int .i64 (i : Int), .bool b]) ∧ PlaceAt num sl i b ∧ Below w.heap.size w w' := by
  obtain ⟨A, cap, ev, q1, q2⟩ := ownL_form h.h_row
  obtain ⟨A', c', ev', hL⟩ := ownL_lst (RR := fun _ => R) h.h_row
  rw [ev] at ev'
  cases ev'
  subst ev
  have HS := Lib.hid (search_slt (fun _ cs x hx => hR cs x hx) w (hL (fun _ => True) (fun _ _ => trivial)) rfl h.h_rise (by have := h.h_len; omega) num)
  have r0 : w.cell? ⟨g, 0, none⟩ = some (.slice A sl.length cap) := obj_cell h.h_blk 0
  obtain ⟨n, hn⟩ : ∃ n, n = sl.length := ⟨_, rfl⟩
  rw [← hn] at r0 HS
  clear hn h hL
  go_enter Tryz.func140, Tryz.ntmps140
  go_wp2_with (go_at_call 160; refine HS.out.mono ?_; rintro e w2 ⟨i, b, rfl, hp, hb⟩; have HP := Lib.hid hp; have HB := Lib.hid hb; clear hp hb)
  go_ret2
  exact ⟨i, b, rfl, HP.out, HB.out⟩

/-- The values of the slot of that number, as they lie there. -/
def GotAt (R : List Value → Slt → Prop) (num : Int) (sl : List Slt) (A : Option Addr) (n c : Nat) : Prop :=
  (∃ (i : Nat) (y : Slt), sl[i]? = some y ∧ y.snum = num ∧ getT sl num = y.svals ∧ R [.int .i64 num, .slice A n c] y) ∨ (getT sl num = [] ∧ (∀ y ∈ sl, y.snum ≠ num) ∧ A = none ∧ n = 0 ∧ c = 0)
/-- Where they lie. -/
def GotC (w : World) (vs : Value) (num : Int) (sl : List Slt) (A : Option Addr) (n c : Nat) : Prop := ∃ (i : Nat) (y : Slt) (gs : Nat), vs.ownBlock = some gs ∧ sl[i]? = some y ∧ y.snum = num ∧ w.cell? ⟨gs, i * 2 + 1, none⟩ = some (.slice A n c)
theorem got_not {num : Int} {i : Nat} (h : PlaceAt num sl i false) : GotAt R num sl none 0 0 := .inr ⟨getT_not h, fun y hy => by
  obtain ⟨j, hj, e⟩ := List.mem_iff_getElem.mp hy
  have e2 : sl[j]? = some y := by rw [List.getElem?_eq_getElem hj, e]
  by_cases hji : j < i
  · have := h.2.1 j y hji e2; omega
  · have := h.2.2.2 rfl j y (by omega) e2; omega, rfl, rfl, rfl⟩
theorem there_at (hR : Shape R) (h : HdT R base w g vs vr sl) {m : Nat} (hm : m = sl.length) {num : Int} {i : Nat} {b : Bool} (hp : PlaceAt num sl i b) :
    (b = false ∧ Hid (PlaceAt num sl i false) ∧ w.cell? ⟨g, 0, none⟩ = some vs) ∨ (b = true ∧ ∃ (gs cap : Nat) (A : Option Addr) (n d : Nat), i < m ∧ Hid (vs = .slice (some ⟨gs, 0, none⟩) m cap ∧ PlaceAt num sl i true ∧ GotAt R num sl A n d) ∧ w.cell? ⟨g, 0, none⟩ = some (.slice (some ⟨gs, 0, none⟩) m cap) ∧ w.cell? ⟨gs, i * 2 + 1, none⟩ = some (.slice A n d) ∧ w.frozen? ⟨gs, i * 2 + 1, none⟩ = false) := by
  subst hm
  cases b with
  | false => exact .inl ⟨rfl, Lib.hid hp, obj_cell h.h_blk 0⟩
  | true =>
    obtain ⟨y, hy, ey⟩ := hp.2.2.1 rfl
    obtain ⟨gs, cap, c, ev, q1, q2, q3, hRc, hcell⟩ := ownL_at h.h_row hy
    obtain ⟨A, n, d, rfl⟩ := hR c y hRc
    rw [ey] at hRc
    subst ev
    obtain ⟨-, -, css, tail, hrow, -⟩ := rowC_of h.h_row
    exact .inr ⟨rfl, gs, cap, A, n, d, place_lt hp, Lib.hid ⟨rfl, hp, .inl ⟨i, y, hy, ey, getT_place hp hy, hRc⟩⟩, obj_cell h.h_blk 0, hcell 1 _ rfl, rowC_free hrow _⟩
set_option maxHeartbeats 4000000 in
theorem dget_any (hR : Shape R) (h : HdT R base w g vs vr sl) (num : Int) :
    Calls Tryz.prog 112 #[.pointer (some ⟨g, 0, none⟩), .int .i64 num] w fun e w' => ∃ A n c, e = .returned (.slice A n c) ∧ GotAt R num sl A n c ∧ Below w.heap.size w w' ∧ (getT sl num ≠ [] → GotC w' vs num sl A n c) := by
  have HPL := Lib.hid (place_any hR h num)
  have H := Lib.hid h
  have hbig : sl.length ≤ 900 := h.h_len
  obtain ⟨m, hm⟩ : ∃ m, m = sl.length := ⟨_, rfl⟩
  rw [← hm] at hbig
  have HM := Lib.hid hm
  clear h hm
  go_enter Tryz.func112, Tryz.ntmps112
  go_wp2_with (go_at_call 140; refine HPL.out.mono ?_; rintro e w2 ⟨i, b, rfl, hp, hb⟩; have HB := Lib.hid hb; rcases there_at hR (H.out.bel hb) HM.out hp with ⟨rfl, HP, r0⟩ | ⟨rfl, gs, cap, A, n, d, hil, HP, r0, c1, f1⟩)
  · go_ret
    exact ⟨none, 0, 0, rfl, got_not HP.out, HB.out, fun h => absurd (getT_not HP.out) h⟩
  · go_ret
    exact ⟨A, n, d, rfl, HP.out.2.2, HB.out, fun _ => by
      obtain ⟨y, hy, ey⟩ := HP.out.2.1.2.2.1 rfl
      exact ⟨i, y, gs, by rw [HP.out.1]; rfl, hy, ey, c1⟩⟩
/-! ### A slot set -/
theorem rowC_one {w : World} {g cap : Nat} {css : List (List Value)} {tail : List Value} (h : RowC w g cap css tail) {i : Nat} {a b b0 : Value} (hi : css[i]? = some [a, b0]) (h2 : b.oneCell' = true) : RowC (w.setCell ⟨g, i * 2 + 1, none⟩ b) g cap (css.set i [a, b]) tail := by
  have hlt := (List.getElem?_eq_some_iff.mp hi).1
  have ha : a.oneCell' = true := h.r_one _ (List.mem_of_getElem? hi) a (by simp)
  refine ⟨?_, fun c hc => ?_, fun c hc => ?_, by rw [List.length_set]; exact h.r_cap, h.r_max⟩
  · rw [obj_set h.r_blk (i * 2 + 1) b]
    congr 2
    rw [← flat_set2 a b tail h.r_two hlt, List.setIfInBounds_toArray]
    congr 2
    have hf := flatten_get h.r_two i _ 0 hi (by decide)
    rw [Nat.add_zero] at hf
    have hl2 := (List.getElem?_eq_some_iff.mp hf).1
    symm
    refine List.ext_getElem? fun j => ?_
    rw [List.getElem?_set]
    split
    · rename_i e
      subst e
      rw [if_pos (by rw [List.length_append]; omega), List.getElem?_append_left hl2, hf]; rfl
    · rfl
  · rcases List.mem_or_eq_of_mem_set hc with hc | rfl
    · exact h.r_two c hc
    · rfl
  · rcases List.mem_or_eq_of_mem_set hc with hc | rfl
    · exact h.r_one c hc
    · intro u hu
      simp at hu
      rcases hu with rfl | rfl <;> assumption
theorem zip_put' {α : Type} {R R' : List Value → α → Prop} {css : List (List Value)} {l : List α} (h : Zip R css l) {i : Nat} (hRR : ∀ c x, R c x → (x ∈ l.take i ∨ x ∈ l.drop (i + 1)) → R' c x) {c : List Value} {x : α} (hR : R' c x) (hi : i < l.length) : Zip R' (css.set i c) (l.take i ++ x :: l.drop (i + 1)) := by
  have hci : i < css.length := by rw [h.1]; exact hi
  have e : css.set i c = css.take i ++ c :: css.drop (i + 1) := by rw [List.set_eq_take_append_cons_drop, if_pos hci]
  rw [e]
  have h1 : Zip R' (css.take i) (l.take i) := ⟨(zip_take h i).1, fun j c x hc hx => hRR c x ((zip_take h i).2 j c x hc hx) (.inl (List.mem_of_getElem? hx))⟩
  have h2 : Zip R' (css.drop (i + 1)) (l.drop (i + 1)) := ⟨(zip_drop h (i + 1)).1, fun j c x hc hx => hRR c x ((zip_drop h (i + 1)).2 j c x hc hx) (.inr (List.mem_of_getElem? hx))⟩
  have := zip_app (zip_app h1 (zip_one hR)) h2
  simpa using this
theorem ownL_mem {α : Type} {base k : Nat} {t : TypeId} {R R' : List Value → α → Prop} {w : World} {v : Value} {l : List α} (h : OwnL base t k R w v l) (hR : ∀ c x, R c x → x ∈ l → R' c x) : OwnL base t k R' w v l := by
  obtain ⟨css, h1, h2, h3⟩ := h
  exact ⟨css, h1, fun j c x hc hx => ⟨(h2 j c x hc hx).1, (h2 j c x hc hx).2.1, hR c x (h2 j c x hc hx).2.2 (List.mem_of_getElem? hx)⟩, h3⟩
/-- What a call of set leaves. -/
def SetTo (R : List Value → Slt → Prop) (base : Nat) (w : World) (g : Nat) (vs vr : Value) (sl : List Slt) (w' : World) : Prop :=
  ∃ vs', HdT R base w' g vs' vr sl ∧ Touch (fun k => k = g ∨ vs.ownBlock = some k) w w' ∧ Moved w vs vs'
theorem rise_with {num : Int} {vals : List Va} {l : List Slt} (h : Rise l) : Rise (withT num vals l) := by
  unfold withT
  have hd : Rise (dropN num l) := by unfold Rise at h ⊢; exact h.sublist (List.Sublist.map _ (dropN_sub num l))
  by_cases hv : vals = []
  · rw [if_pos hv]; exact hd
  · rw [if_neg hv]; exact putN_rise hd (fun z hz => dropN_ne z hz)
theorem set_end {w1 : World} {v' : Value} {l' : List Slt} (h : HdT R base w g vs vr sl) (ho : OwnL base 68 2 R' w1 v' l') (hm : MvT vs w w1 v') (hr : Rise l') (hl : l'.length ≤ 900) :
    SetTo R' base w g vs vr l' (w1.setCell ⟨g, 0, none⟩ v') := by
  have hb1 : w1.heap[g]? = some (.cells #[vs, vr] 33 (0, 0)) := (hm.1.block g (lt_of_block h.h_blk) h.ne).trans h.h_blk
  have hne : v'.ownBlock ≠ some g := by
    obtain ⟨css, c1, c2, c3⟩ := ho
    exact own_other c3 hb1 (by decide)
  refine ⟨v', ⟨obj_set hb1 0 v', ownL_keep ho (fun _ _ h => h) (fun k hk => Below.heap_setCell _ _ _ _ (fun e => hne (by rw [hk]; exact congrArg some e))), hr, hl, ?_⟩, ?_, hm.2⟩
  · have := hm.1.size; have := h.h_base; simp [World.setCell]; omega
  · exact (hm.1.mono (fun k hk => .inr hk)).set (.inl (.inl rfl)) _
theorem mvT_bel {a : World} {v v' : Value} (hb : Below a.heap.size a w) (hm : MvT v w w' v') : MvT v a w' v' :=
  ⟨(Touch.of_below _ hb).trans hm.1 (fun _ h => .inl h), by
    rcases hm.2 with h | ⟨k, h1, h2⟩
    · exact .inl h
    · exact .inr ⟨k, h1, Nat.le_trans hb.size h2⟩⟩
theorem setTo_bel {a : World} {l' : List Slt} (hb : Below a.heap.size a w) (h : SetTo R base w g vs vr l' w') : SetTo R base a g vs vr l' w' := by
  obtain ⟨v', h1, h2, h3⟩ := h
  refine ⟨v', h1, (Touch.of_below _ hb).trans h2 (fun _ h => .inl h), ?_⟩
  rcases h3 with h | ⟨k, h3, h4⟩
  · exact .inl h
  · exact .inr ⟨k, h3, Nat.le_trans hb.size h4⟩
theorem ins_hd (h : HdT R base w g vs vr sl) {num : Int} {b : Value} {i : Nat} {vals : List Va} (hp : PlaceAt num sl i false) (hRR : ∀ c y, R c y → y.snum ≠ num → R' c y) (hR : R' [.int .i64 num, b] ⟨num, vals⟩) (h2 : b.oneCell' = true) (hv : vals ≠ []) (hlen : (withT num vals sl).length ≤ 900) :
    Calls Tryz.prog 142 #[vs, .int .i64 (i : Int), .slice (some ⟨w.heap.size, 0, none⟩) 1 1] (w.alloc (.cells #[.int .i64 num, b] 68)) fun e w1 => ∃ A n c, e = .returned (.slice A n c) ∧ Hid (SetTo R' base w g vs vr (withT num vals sl) (w1.setCell ⟨g, 0, none⟩ (.slice A n c))) ∧ w1.cell? ⟨g, 0, none⟩ = some vs ∧ w1.frozen? ⟨g, 0, none⟩ = false := by
  have hba : Below w.heap.size w (w.alloc (.cells #[.int .i64 num, b] 68)) := (Below.refl _ w).alloc (Nat.le_refl _) _
  have hall : ∀ y ∈ sl, y.snum ≠ num := fun y hy => by
    rcases (got_not (R := R) hp) with ⟨i, z, _, _, _, _⟩ | ⟨_, h2, _⟩
    · rename_i e1 e2 e3 _
      have := dropN_not hp
      intro e
      have hm : y ∈ dropN num sl := by rw [this]; exact hy
      exact dropN_ne y hm e
    · exact h2 y hy
  have h' : HdT R' base w g vs vr sl := ⟨h.h_blk, ownL_mem h.h_row (fun c y hc hy => hRR c y hc (hall y hy)), h.h_rise, h.h_len, h.h_base⟩
  have hh := h'.bel hba
  refine (insert_sltT (R := R') (base := base) _ hh.h_row (by have := h.h_len; omega) hp.1 (heap_alloc_new w _) hR rfl h2 (fun e => by have := (ownL_blk h.h_row _ e).2; omega) hh.h_base).mono ?_
  rintro e w1 ⟨v', rfl, ho, hm⟩
  have hm2 := mvT_bel hba hm
  rw [← withT_not hv hp] at ho
  obtain ⟨A9, n9, c9, rfl⟩ := ownL_slc ho
  have hb1 : w1.heap[g]? = some (.cells #[vs, vr] 33 (0, 0)) := (hm2.1.block g (lt_of_block h.h_blk) h.ne).trans h.h_blk
  exact ⟨_, _, _, rfl, Lib.hid (set_end h ho hm2 (rise_with h.h_rise) hlen), obj_cell hb1 0, obj_free hb1 0⟩
theorem del_hd (h : HdT R base w g vs vr sl) {num : Int} {i : Nat} (hp : PlaceAt num sl i true) (hRR : ∀ c y, R c y → y.snum ≠ num → R' c y) :
    Calls Tryz.prog 141 #[vs, .int .i64 (i : Int), .int .i64 ((i : Int) + 1)] w fun e w1 => ∃ A n c, e = .returned (.slice A n c) ∧ Hid (SetTo R' base w g vs vr (withT num [] sl) (w1.setCell ⟨g, 0, none⟩ (.slice A n c))) ∧ w1.cell? ⟨g, 0, none⟩ = some vs ∧ w1.frozen? ⟨g, 0, none⟩ = false := by
  refine (delete_slt w h.h_row (by have := h.h_len; omega) (place_lt hp)).mono ?_
  rintro e w1 ⟨v', rfl, ho, hm⟩
  rw [← dropN_there hp h.h_rise] at ho
  replace ho : OwnL base 68 2 R' w1 v' (dropN num sl) := ownL_mem ho (fun c y hc hy => hRR c y hc (dropN_ne y hy))
  obtain ⟨A9, n9, c9, rfl⟩ := ownL_slc ho
  have hb1 : w1.heap[g]? = some (.cells #[vs, vr] 33 (0, 0)) := (hm.1.block g (lt_of_block h.h_blk) h.ne).trans h.h_blk
  refine ⟨_, _, _, rfl, Lib.hid (set_end h ho hm (rise_with h.h_rise) ?_), obj_cell hb1 0, obj_free hb1 0⟩
  have := (dropN_sub num sl).length_le
  have := h.h_len
  show (dropN num sl).length ≤ 900
  omega
theorem put_hd (h : HdT R base w g vs vr sl) {num : Int} {i gs m cap : Nat} {B : Option Addr} {n c : Nat} {vals : List Va} (hp : PlaceAt num sl i true) (ev : vs = .slice (some ⟨gs, 0, none⟩) m cap) (hR0 : Shape R) (hRR : ∀ c y, R c y → y.snum ≠ num → R' c y) (hR : R' [.int .i64 num, .slice B n c] ⟨num, vals⟩) (hv : vals ≠ []) (hlen : (withT num vals sl).length ≤ 900) :
    SetTo R' base w g vs vr (withT num vals sl) (w.setCell ⟨gs, i * 2 + 1, none⟩ (.slice B n c)) := by
  subst ev
  have hne := h.ne
  obtain ⟨em, hbg, css, tail, hrow, hzip⟩ := rowC_of h.h_row
  obtain ⟨y, hy, ey⟩ := hp.2.2.1 rfl
  have hil := place_lt hp
  obtain ⟨d, hd⟩ : ∃ d, css[i]? = some d := ⟨_, List.getElem?_eq_getElem (by rw [hzip.1]; exact hil)⟩
  obtain ⟨A0, n0, d0, rfl⟩ := hR0 d y (hzip.2 i d y hd hy)
  rw [ey] at hd
  have hr1 := rowC_one hrow hd (b := .slice B n c) rfl
  have ho := ownL_of_row hr1 (zip_put' hzip (fun c x hc hx => hRR c x hc (by rcases hx with hx | hx; (have := place_before hp x hx; omega); (have := place_after hp h.h_rise x hx; omega))) hR hil) hbg
  rw [← withT_there hv hp h.h_rise] at ho
  have hlm : (withT num vals sl).length = m := by
    rw [withT_there hv hp h.h_rise, List.length_append, List.length_cons, List.length_take, List.length_drop, em]; omega
  rw [hlm] at ho
  have hgg : gs ≠ g := fun e => hne (by subst e; rfl)
  refine ⟨_, ⟨(Below.heap_setCell _ _ _ _ (fun e => hgg e.symm)).trans h.h_blk, ho, rise_with h.h_rise, hlen, ?_⟩, (Touch.refl _ w).set (.inl (.inr rfl)) _, .inl rfl⟩
  have := h.h_base; simp [World.setCell]; omega
set_option maxHeartbeats 8000000 in
theorem dset_any (hR : Shape R) (h : HdT R base w g vs vr sl) (num : Int) {B : Option Addr} {n c : Nat} {vals : List Va} (hn : n = vals.length) (hRR : ∀ c y, R c y → y.snum ≠ num → R' c y) (hv : vals ≠ [] → R' [.int .i64 num, .slice B n c] ⟨num, vals⟩) (hlen : (withT num vals sl).length ≤ 900) :
    Calls Tryz.prog 109 #[.pointer (some ⟨g, 0, none⟩), .int .i64 num, .slice B n c] w fun e w' => e = .returned (.tuple #[]) ∧ SetTo R' base w g vs vr (withT num vals sl) w' := by
  have HPL := Lib.hid (place_any hR h num)
  have H := Lib.hid h
  have hbig : sl.length ≤ 900 := h.h_len
  obtain ⟨m, hm⟩ : ∃ m, m = sl.length := ⟨_, rfl⟩
  rw [← hm] at hbig
  have HM := Lib.hid hm
  have HV := Lib.hid hv
  have HRR := Lib.hid hRR
  have HLEN := Lib.hid hlen
  have HN := Lib.hid hn
  have HRI : Hid (Rise (withT num vals sl)) := Lib.hid (rise_with h.h_rise)
  clear h hm hv hlen hn hRR
  by_cases hz : n = 0
  · have hvals : vals = [] := List.eq_nil_of_length_eq_zero (by have := HN.out; omega)
    subst hvals
    subst hz
    go_enter Tryz.func109, Tryz.ntmps109
    go_wp2_with (first
      | (go_at_call 140; refine HPL.out.mono ?_; rintro e w2 ⟨i, b, rfl, hp, hb⟩; have HB := Lib.hid hb; rcases there_at hR (H.out.bel hb) HM.out hp with ⟨rfl, HP, r0⟩ | ⟨rfl, gs, cap, A, nv, d, hil, HP, r0, c1, f1⟩)
      | (go_at_call 141; rw [← HP.out.1]; refine (del_hd (H.out.bel HB.out) HP.out.2.1 HRR.out).mono ?_; rintro e w3 ⟨A3, n3, c3, rfl, HS3, k0, k1⟩))
    · go_end0
      refine ⟨rfl, vs, ?_, (Touch.of_below _ HB.out), .inl rfl⟩
      have e : withT num [] sl = sl := (dropN_not HP.out : dropN num sl = sl)
      rw [e]
      have hb9 := H.out.bel HB.out
      have hm9 : ∀ y ∈ sl, y.snum ≠ num := fun y hy => dropN_ne y (by rw [show dropN num sl = sl from e]; exact hy)
      exact ⟨hb9.h_blk, ownL_mem hb9.h_row (fun c y hc hy => HRR.out c y hc (hm9 y hy)), hb9.h_rise, hb9.h_len, hb9.h_base⟩
    · go_end0
      exact ⟨rfl, setTo_bel HB.out HS3.out⟩
  · have hpos : decide ((0 : Int) < (n : Int)) = true := decide_eq_true (by omega)
    have hpos2 : 0 < n := by omega
    have HNE : Hid (vals ≠ []) := Lib.hid (fun e => by have := HN.out; rw [e] at this; exact hz (by simpa using this))
    clear hz
    go_enter Tryz.func109, Tryz.ntmps109
    go_wp2_with (first
      | (go_at_call 140; refine HPL.out.mono ?_; rintro e w2 ⟨i, b, rfl, hp, hb⟩; have HB := Lib.hid hb; rcases there_at hR (H.out.bel hb) HM.out hp with ⟨rfl, HP, r0⟩ | ⟨rfl, gs, cap, A, nv, d, hil, HP, r0, c1, f1⟩)
      | (go_at_call 142; refine (ins_hd (H.out.bel HB.out) HP.out HRR.out (HV.out HNE.out) rfl HNE.out HLEN.out).mono ?_; rintro e w3 ⟨A3, n3, c3, rfl, HS3, k0, k1⟩))
    · go_end0
      exact ⟨rfl, setTo_bel HB.out HS3.out⟩
    · go_end0
      exact ⟨rfl, setTo_bel HB.out (put_hd (H.out.bel HB.out) HP.out.2.1 HP.out.1 hR HRR.out (HV.out HNE.out) HNE.out HLEN.out)⟩
end
end Go.Proofs.YtpfdnggacpehdaaGreatDoor
