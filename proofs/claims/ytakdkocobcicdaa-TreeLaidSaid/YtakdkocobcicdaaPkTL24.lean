/- Several texts in one: TpK, TrWit, TrLd. What each proves, and its conditions, stands at its own head. -/
import Derived.Test.YtakdkocobcicdaaPkTL23
import Derived.Test.YtakdkocobcicdaaPkTL20
import Derived.Test.YtakdkocobcicdaaPkTL17
import Derived.Test.YtakdkocobcicdaaPkTL12
/- The program's With of trees. Conditions: those that each theorem names. -/
namespace Go.Proofs.Ytakdkocobcicdaa
open Go.RowKit
set_option linter.unusedVariables false
set_option maxRecDepth 100000

/-- Three boxes of a call. -/
structure Bx3 (w wr : World) (o p q : Obj) : Prop where
  b3_bel : Below w.heap.size w wr
  b3_one : wr.heap[w.heap.size]? = some o
  b3_two : wr.heap[w.heap.size + 1]? = some p
  b3_thr : wr.heap[w.heap.size + 1 + 1]? = some q
theorem bx3_start (w : World) (cs ds es : Array Value) (t u v : TypeId) : Bx3 w (((w.alloc (.cells cs t)).alloc (.cells ds u)).alloc (.cells es v)) (.cells cs t (0, 0)) (.cells ds u (0, 0)) (.cells es v (0, 0)) := by
  have h := bx2_start w cs ds t u
  have hz : ((w.alloc (.cells cs t)).alloc (.cells ds u)).heap.size = w.heap.size + 1 + 1 := by simp
  refine ⟨h.b2_bel.alloc (by omega) _, (Below.heap_alloc _ _ _ (by omega)).trans h.b2_one, (Below.heap_alloc _ _ _ (by omega)).trans h.b2_two, ?_⟩
  rw [← hz]
  exact heap_alloc_new _ _
theorem bx3_step {w wr w2 : World} {o p q : Obj} (h : Bx3 w wr o p q) (hb : Below wr.heap.size wr w2) : Bx3 w w2 o p q :=
  ⟨bel_more h.b3_bel hb, (hb.block _ (lt_of_some h.b3_one)).trans h.b3_one, (hb.block _ (lt_of_some h.b3_two)).trans h.b3_two, (hb.block _ (lt_of_some h.b3_thr)).trans h.b3_thr⟩

theorem enters_eq1 : Enters Try.prog 37 := fun _ _ => rfl
theorem enters_gt2 : Enters Try.prog 39 := fun _ _ => rfl
theorem says_eq {w0 : World} {b base : Nat} {num : Int} (hb : w0.heap[b]? = some (boxI num)) (hl : b < base) : SaysOf 37 #[.pointer (some ⟨b, 0, none⟩)] base w0 (eqP num) :=
  fun x A1 n1 c1 u hu => peq_any x num ((hu.block b hl).trans hb)
theorem says_gt {w0 : World} {b base : Nat} {num : Int} (hb : w0.heap[b]? = some (boxI num)) (hl : b < base) : SaysOf 39 #[.pointer (some ⟨b, 0, none⟩)] base w0 (gtP num) :=
  fun x A1 n1 c1 u hu => pgt_any x num ((hu.block b hl).trans hb)

theorem put_all {num : Int} {vals : List Va} : ∀ {l : List Slt}, (∀ x ∈ l, gtP num x = false) → putN num vals l = l ++ [⟨num, vals⟩]
  | [], _ => rfl
  | s :: l, h => by
    have h0 := h s (by simp)
    unfold gtP at h0
    rw [putN, if_neg (of_decide_eq_false h0), put_all (fun x hx => h x (by simp [hx]))]
    rfl
theorem put_some {num : Int} {vals : List Va} : ∀ {l : List Slt} {i : Nat}, i < l.length → (∀ (j : Nat) x, j < i → l[j]? = some x → gtP num x = false) → (∀ x, l[i]? = some x → gtP num x = true) → putN num vals l = l.take i ++ ⟨num, vals⟩ :: l.drop i
  | [], i, hi, _, _ => absurd hi (Nat.not_lt_zero _)
  | s :: l, 0, hi, _, h2 => by
    have h0 := h2 s rfl
    unfold gtP at h0
    rw [putN, if_pos (of_decide_eq_true h0)]
    rfl
  | s :: l, i + 1, hi, h1, h2 => by
    have h0 := h1 0 s (Nat.zero_lt_succ _) rfl
    unfold gtP at h0
    rw [putN, if_neg (of_decide_eq_false h0), put_some (i := i) (by simpa using hi) (fun j x hj hx => h1 (j + 1) x (by omega) (by simpa using hx)) (fun x hx => h2 x (by simpa using hx))]
    rfl
theorem put_len {num : Int} {vals : List Va} : ∀ (l : List Slt), (putN num vals l).length = l.length + 1
  | [] => rfl
  | s :: l => by
    rw [putN]
    split
    · simp
    · simp [put_len l]
theorem put_mem {num : Int} {vals : List Va} {s : Slt} : ∀ {l : List Slt}, s ∈ putN num vals l → s ∈ l ∨ s = ⟨num, vals⟩
  | [], h => by simp [putN] at h; exact .inr h
  | t :: l, h => by
    rw [putN] at h
    split at h
    · simp at h ⊢; rcases h with h | h | h <;> simp [h]
    · rcases List.mem_cons.mp h with h | h
      · exact .inl (by simp [h])
      · rcases put_mem h with h | h
        · exact .inl (by simp [h])
        · exact .inr h
theorem with_len (num : Int) (vals : List Va) (l : List Slt) : (withT num vals l).length ≤ l.length + 1 := by
  have hd : (dropN num l).length ≤ l.length := List.length_filter_le _ _
  unfold withT
  split
  · omega
  · rw [put_len]; omega
theorem with_mem {num : Int} {vals : List Va} {l : List Slt} {s : Slt} (h : s ∈ withT num vals l) : s ∈ l ∨ (s = ⟨num, vals⟩ ∧ vals ≠ []) := by
  unfold withT at h
  split at h
  · exact .inl ((List.mem_filter.mp h).1)
  · rename_i hn
    rcases put_mem h with h | h
    · exact .inl ((List.mem_filter.mp h).1)
    · exact .inr ⟨h, hn⟩
/-- What is laid there may be long, no more. -/
def FitV (k : Nat) (vals : List Va) : Prop := vals.length ≤ 1000 ∧ ∀ v ∈ vals, v.vs.length ≤ 100000 ∧ v.vm.length ≤ 1000 ∧ ∀ u ∈ v.vm, FitN k u
theorem fit_with {k : Nat} {x : Tr} {num : Int} {vals : List Va} (hf : FitN (k + 1) x) (hl : x.slots.length ≤ 900) (hv : FitV k vals) : FitN (k + 1) (.mk (withT num vals x.slots) x.rest) := by
  obtain ⟨f1, f2, f3, f4⟩ := hf
  refine ⟨?_, f2, f3, fun s hs => ?_⟩
  · have := with_len num vals x.slots
    show (withT num vals x.slots).length ≤ 1000
    omega
  · rcases with_mem hs with h | ⟨h, _⟩
    · exact f4 s h
    · rw [h]; exact hv

/-- A tree of a row of the call's own, and of fields that came in. -/
theorem own_tr {S : Nat → Prop} {k base : Nat} {W3 w w5 : World} {D : Option Addr} {m d : Nat} {A2 : Option Addr} {nr cr : Nat} {l : List Slt} {x : Tr} {A : Option Addr} {na ca : Nat} (ho : OwnL base 32 2 (slR (trR S k) S W3) w5 (.slice D m d) l) (hb : Below W3.heap.size W3 w5) (hx : TrAt S k w A na ca A2 nr cr x) (hw : Below w.heap.size w w5) :
    TrAt (fun _ => True) k w5 D m d A2 nr cr (.mk l x.rest) := by
  have h2 := ownL_keep ho (R' := slR (trR (fun _ => True) k) (fun _ => True) w5) (w' := w5) (slR_keep (trR_keep (fun _ _ => trivial) (stay_bel hb) k) (fun _ _ => trivial) (stay_bel hb)) (fun _ _ => rfl)
  obtain ⟨D', d', ev, hL⟩ := ownL_lst (RR := slR (trR (fun _ => True) k) (fun _ => True)) h2
  cases ev
  have hx5 := trAt_bel hx hw
  exact ⟨hL (fun _ => True) (fun _ _ => trivial), (trAt_keep hx5 (S' := fun _ => True) (fun _ _ => trivial) (stay_refl _ _)).t_r, rfl, hx5.t_nr⟩

theorem with_end {k r : Nat} {W3 w5 w6 : World} {B1 : Option Addr} {k1 d1 : Nat} {B2 : Option Addr} {k2 d2 : Nat} {y : Tr} (h : TrAt (New w5.heap.size w6) k w6 B1 k1 d1 B2 k2 d2 y) (h5 : W3.heap.size ≤ w5.heap.size) (h3 : W3.heap.size = r + 1 + 1 + 1) (u v : Value) :
    TrAt (New r ((w6.setCell ⟨r + 1 + 1, 0, none⟩ u).setCell ⟨r + 1 + 1, 1, none⟩ v)) k ((w6.setCell ⟨r + 1 + 1, 0, none⟩ u).setCell ⟨r + 1 + 1, 1, none⟩ v) B1 k1 d1 B2 k2 d2 y :=
  trAt_keep h (fun g hg => new_less (by omega) (new_set (new_set hg (by have := hg.1; show g ≠ r + 1 + 1; omega)) (by have := hg.1; show g ≠ r + 1 + 1; omega))) (stay_res2 (u := w5) (a := w6) (w' := w6) (by omega) u v)

/-- Where a slot of that number is laid: at the end, or at the first greater one's place. -/
theorem idx_place {num : Int} {vals : List Va} {l : List Slt} {r : Int} (h : IdxAt (gtP num) l r) : ∃ (j : Nat) (b : Bool), j ≤ l.length ∧ j ≤ l.length ∧ Hid (putN num vals l = l.take j ++ ⟨num, vals⟩ :: l.drop j) ∧ decide (r < 0) = b ∧ (if b = true then r = -1 ∧ j = l.length else r = (j : Int)) := by
  rcases h with ⟨h1, h2⟩ | ⟨i, h1, h2, h3, h4⟩
  · exact ⟨l.length, true, Nat.le_refl _, Nat.le_refl _, Lib.hid (by rw [put_all h2]; simp), by rw [h1]; rfl, by rw [if_pos rfl]; exact ⟨h1, rfl⟩⟩
  · exact ⟨i, false, by omega, by omega, Lib.hid (put_some h2 h3 h4), by rw [h1]; exact decide_eq_false (by omega), by rw [if_neg (by decide)]; exact h1⟩

set_option maxHeartbeats 16000000 in
theorem pwith_any {S : Nat → Prop} {k : Nat} (w : World) {A : Option Addr} {na ca : Nat} {A2 : Option Addr} {nr cr : Nat} {B : Option Addr} {nb cb : Nat} {x : Tr} {vals : List Va} (num : Int) (h : TrAt S k w A na ca A2 nr cr x) (hv : VsAt S k w B cb vals) (hnb : nb = vals.length) (hl : x.slots.length ≤ 900) (hf : FitN (k + 1) (.mk (withT num vals x.slots) x.rest)) :
    Calls Try.prog 15 #[.agg #[.slice A na ca, .slice A2 nr cr], .int .i64 num, .slice B nb cb] w (CopyTo k w (.mk (withT num vals x.slots) x.rest)) := by
  obtain ⟨q1, q2, q3, q4⟩ := trAt_max h
  have p1 := hv.l_le
  have p2 := hv.l_max
  unfold maxLen at p2
  rw [← hnb] at p1
  have HV := Lib.hid hv
  have HNB := Lib.hid hnb
  have HNA := Lib.hid h.t_ns
  obtain ⟨l1, hl1⟩ : ∃ l1, l1 = dropN num x.slots := ⟨_, rfl⟩
  have hl1n : l1.length ≤ 900 := by have : (dropN num x.slots).length ≤ _ := List.length_filter_le _ _; rw [hl1]; omega
  have HL1 := Lib.hid hl1
  have HBX := Lib.hid (bx3_start w #[.slice A na ca, .slice A2 nr cr] #[.int .i64 num] #[.slice none 0 0, .slice none 0 0] 25 3 25)
  obtain ⟨W3, hW3⟩ : ∃ W3, W3 = ((w.alloc (.cells #[.slice A na ca, .slice A2 nr cr] 25)).alloc (.cells #[.int .i64 num] 3)).alloc (.cells #[.slice none 0 0, .slice none 0 0] 25) := ⟨_, rfl⟩
  have HW3 := Lib.hid hW3
  rw [← hW3] at HBX
  have hb3 : W3.heap[w.heap.size + 1]? = some (boxI num) := HBX.out.b3_two
  have hlt3 := lt_of_some hb3
  have hbw := HBX.out.b3_bel
  have HLT := Lib.hid (lt_of_some HBX.out.b3_thr)
  have HCLN := Lib.hid (clone_slt W3 (trAt_bel h hbw).t_s h.t_ns (by have := h.t_ns; omega))
  have HDEL := Lib.hid (fun (w1 : World) D n d (ho : OwnL W3.heap.size 32 2 (slR (trR S k) S W3) w1 (.slice D n d) x.slots) (hb : Below W3.heap.size W3 w1) => show Calls Try.prog 35 #[.slice D n d, .func (.func 37) #[] #[.pointer (some ⟨w.heap.size + 1, 0, none⟩)]] w1 fun e w' => ∃ v', e = .returned v' ∧ OwnL W3.heap.size 32 2 (slR (trR S k) S W3) w' v' l1 ∧ Below W3.heap.size W3 w' from by
    rw [hl1]
    exact delfunc_slt (sl_cells W3) w1 ho (by omega) 37 #[.pointer (some ⟨w.heap.size + 1, 0, none⟩)] enters_eq1 (says_eq hb3 hlt3) hb hb.size)
  have HIDX := Lib.hid (fun (w2 : World) D n d (ho : OwnL W3.heap.size 32 2 (slR (trR S k) S W3) w2 (.slice D n d) l1) (hb : Below W3.heap.size W3 w2) => show Calls Try.prog 38 #[.slice D n d, .func (.func 39) #[] #[.pointer (some ⟨w.heap.size + 1, 0, none⟩)]] w2 fun e w' => ∃ r : Int, e = .returned (.int .i64 r) ∧ IdxAt (gtP num) l1 r ∧ Below w2.heap.size w2 w' from by
    obtain ⟨D', d', ev, hL⟩ := ownL_lst (RR := fun _ => slR (trR S k) S W3) ho
    cases ev
    exact idx_slt (fun _ => sl_cells W3) w2 (hL (fun _ => True) (fun _ _ => trivial)) rfl 39 _ enters_gt2 (says_gt hb3 hlt3) hb hb.size)
  have HINS := Lib.hid (fun (w3 : World) D n d (j : Nat) (z : Int) (hz : z = (j : Int)) (hj : j ≤ l1.length) (ho : OwnL W3.heap.size 32 2 (slR (trR S k) S W3) w3 (.slice D n d) l1) (hb : Below W3.heap.size W3 w3) => hz ▸ insert_slt (vb := w3.heap.size) (i := j) (x := ⟨num, vals⟩) (a := .int .i64 num) (b := .slice B nb cb) (w3.alloc (.cells #[.int .i64 num, .slice B nb cb] 32)) (ownL_bel ho (fun _ _ h => h) ((Below.refl _ w3).alloc (Nat.le_refl _) _)) (by omega) hj (heap_alloc_new _ _) ⟨B, cb, by rw [hnb], vsAt_bel hv hbw⟩ rfl rfl (fun e => by have := (ownL_blk ho _ e).2; omega) (hb.alloc hb.size _) (hb.alloc hb.size _).size)
  have HCPY := Lib.hid (fun (w5 : World) D n d (ho : OwnL W3.heap.size 32 2 (slR (trR S k) S W3) w5 (.slice D n d) (withT num vals x.slots)) (hb : Below W3.heap.size W3 w5) => pcopytree_any w5 (own_tr ho hb h (bel_more hbw hb)) hf)
  have HSZ : Hid (W3.heap.size = w.heap.size + 1 + 1 + 1) := Lib.hid (by rw [hW3]; simp)
  have r0 : W3.cell? ⟨w.heap.size, 0, none⟩ = some (.slice A na ca) := obj_cell HBX.out.b3_one 0
  obtain ⟨n1, hn1⟩ : ∃ n1, n1 = l1.length := ⟨_, rfl⟩
  have HN1 := Lib.hid hn1
  rw [← hn1] at hl1n
  clear h hv hb3 hlt3 hbw hf hnb hl1 hn1 hl
  rcases Nat.eq_zero_or_pos nb with hz | hz
  · have HVN : Hid (vals = []) := Lib.hid (List.length_eq_zero_iff.mp (by rw [← HNB.out]; exact hz))
    have HWT : Hid (l1 = withT num vals x.slots) := Lib.hid (by unfold withT; rw [if_pos HVN.out]; exact HL1.out)
    have tn : decide ((0 : Int) < (nb : Int)) = false := decide_eq_false (by omega)
    go_enter Try.func15, Try.ntmps15
    go_wp2_with (first
      | (go_at_call 36; rw [← HW3.out]; refine HCLN.out.mono ?_; rintro e w1 ⟨v1, rfl, ho, hb⟩; obtain ⟨D0, m0, d0, rfl⟩ := ownL_slc ho; have HO1 := Lib.hid ho; have HB1 := Lib.hid hb; clear ho hb)
      | (go_at_call 35; refine (HDEL.out w1 _ _ _ HO1.out HB1.out).mono ?_; rintro e w2 ⟨v2, rfl, ho, hb⟩; obtain ⟨D1, d1, rfl, u1, u2⟩ := ownL_form ho; rw [← HN1.out] at ho u1 ⊢; have HO2 := Lib.hid ho; have HB2 := Lib.hid hb; have r1 := obj_cell (bx3_step HBX.out hb).b3_one 1; clear ho hb)
      | (go_at_call 21; refine (HCPY.out w2 _ _ _ (by rw [← HWT.out]; exact HO2.out) HB2.out).mono ?_; rintro e w6 ⟨B1, k1, d1, B2, k2, d2, rfl, hT, hb9⟩; have HT := Lib.hid hT; have HZ6 := Lib.hid (Nat.le_trans HB2.out.size hb9.size); have HS5 := Lib.hid HB2.out.size; have HBY := Lib.hid (bx3_step (bx3_step HBX.out HB2.out) hb9); have z0 := obj_cell HBY.out.b3_thr 0; have z1 := obj_cell HBY.out.b3_thr 1; have y0 := obj_free HBY.out.b3_thr 0; have y1 := obj_free HBY.out.b3_thr 1; clear hT hb9))
    have e0 := obj_set HBY.out.b3_thr 0 (.slice B1 k1 d1)
    have e1 := obj_set e0 1 (.slice B2 k2 d2)
    have f0 := obj_cell e1 0
    have f1 := obj_cell e1 1
    refine bodyPost_ret (v := .agg #[.slice B1 k1 d1, .slice B2 k2 d2]) ?_ rfl ⟨B1, k1, d1, B2, k2, d2, rfl, ?_, ?_⟩
    · have hres : Try.f15.results = #[.cell 6 25] := by kernel_rfl
      simp only [results, hres]
      go_simp
    · exact with_end HT.out HS5.out HSZ.out _ _
    · exact (HBY.out.b3_bel.setCell (p := ⟨w.heap.size + 1 + 1, 0, none⟩) (show w.heap.size ≤ w.heap.size + 1 + 1 by omega) _).setCell (p := ⟨w.heap.size + 1 + 1, 1, none⟩) (show w.heap.size ≤ w.heap.size + 1 + 1 by omega) _
  · have HWT : Hid (putN num vals l1 = withT num vals x.slots) := Lib.hid (by unfold withT; rw [if_neg (fun e => by have := HNB.out; rw [e] at this; simp at this; omega), ← HL1.out])
    have tn : decide ((0 : Int) < (nb : Int)) = true := decide_eq_true (by omega)
    go_enter Try.func15, Try.ntmps15
    go_wp2_with (first
      | (go_at_call 36; rw [← HW3.out]; refine HCLN.out.mono ?_; rintro e w1 ⟨v1, rfl, ho, hb⟩; obtain ⟨D0, m0, d0, rfl⟩ := ownL_slc ho; have HO1 := Lib.hid ho; have HB1 := Lib.hid hb; clear ho hb)
      | (go_at_call 35; refine (HDEL.out w1 _ _ _ HO1.out HB1.out).mono ?_; rintro e w2 ⟨v2, rfl, ho, hb⟩; obtain ⟨D1, d1, rfl, u1, u2⟩ := ownL_form ho; rw [← HN1.out] at ho u1 ⊢; have HO2 := Lib.hid ho; have HB2 := Lib.hid hb; clear ho hb)
      | (go_at_call 38; refine (HIDX.out w2 _ _ _ HO2.out HB2.out).mono ?_; rintro e w3 ⟨r, rfl, hr, hb⟩; have HB3 := Lib.hid (bel_more HB2.out hb); have HO3 := Lib.hid (ownL_bel HO2.out (fun _ _ h => h) hb); obtain ⟨j, br, HJ, hjl, HP, tr, HRJ⟩ := idx_place (vals := vals) hr; have s0 := (obj_cell (bx3_step HBX.out HB3.out).b3_two 0 : w3.cell? ⟨w.heap.size + 1, 0, none⟩ = some (.int .i64 num)); clear hr hb; cases br)
      | (go_at_call 40; refine (HINS.out w3 _ _ _ j _ (by first | (simpa using HRJ) | (have hq := HRJ; simp at hq; rw [hq.2, HN1.out])) HJ HO3.out HB3.out).mono ?_; rintro e w5 ⟨v5, rfl, ho, hb⟩; obtain ⟨D2, m2, d2, rfl⟩ := ownL_slc ho; have HO5 := Lib.hid ho; have HB5 := Lib.hid hb; have r1 := obj_cell (bx3_step HBX.out hb).b3_one 1; clear ho hb)
      | (go_at_call 21; refine (HCPY.out w5 _ _ _ (by rw [← HWT.out, HP.out]; exact HO5.out) HB5.out).mono ?_; rintro e w6 ⟨B1, k1, d1, B2, k2, d2, rfl, hT, hb9⟩; have HT := Lib.hid hT; have HZ6 := Lib.hid (Nat.le_trans HB5.out.size hb9.size); have HS5 := Lib.hid HB5.out.size; have HBY := Lib.hid (bx3_step (bx3_step HBX.out HB5.out) hb9); have z0 := obj_cell HBY.out.b3_thr 0; have z1 := obj_cell HBY.out.b3_thr 1; have y0 := obj_free HBY.out.b3_thr 0; have y1 := obj_free HBY.out.b3_thr 1; clear hT hb9))
    all_goals (
      have e0 := obj_set HBY.out.b3_thr 0 (.slice B1 k1 d1)
      have e1 := obj_set e0 1 (.slice B2 k2 d2)
      have f0 := obj_cell e1 0
      have f1 := obj_cell e1 1
      refine bodyPost_ret (v := .agg #[.slice B1 k1 d1, .slice B2 k2 d2]) ?_ rfl ⟨B1, k1, d1, B2, k2, d2, rfl, ?_, ?_⟩
      · have hres : Try.f15.results = #[.cell 6 25] := by kernel_rfl
        simp only [results, hres]
        go_simp
      · exact with_end HT.out HS5.out HSZ.out _ _
      · exact (HBY.out.b3_bel.setCell (p := ⟨w.heap.size + 1 + 1, 0, none⟩) (show w.heap.size ≤ w.heap.size + 1 + 1 by omega) _).setCell (p := ⟨w.heap.size + 1 + 1, 1, none⟩) (show w.heap.size ≤ w.heap.size + 1 + 1 by omega) _

      )
end Go.Proofs.Ytakdkocobcicdaa

/- A tree with these values at a number, the law's walk. Conditions: those that each theorem names. -/
namespace Go.Proofs.Ytakdkocobcicdaa
open Go.RowKit
set_option linter.unusedVariables false
set_option maxRecDepth 100000

theorem small_slots {k : Nat} {x : Tr} (h : smallTr k x = true) : x.slots.length ≤ 400 := by
  have h0 := of_decide_eq_true h
  apply Decidable.byContradiction
  intro hc
  unfold leftN at h0
  rw [if_neg (by decide)] at h0
  have h1 : (400 : Int) - (x.rest.length : Int) - (x.slots.length : Int) < 0 := by omega
  rw [foldG_neg _ h1] at h0
  unfold leftS at h0
  rw [foldG_neg _ h1] at h0
  omega
theorem ok_one {num : Int} {vals : List Va} (h : ∀ v ∈ vals, v.vs.length ≤ mxL ∧ v.vm.length ≤ mxL ∧ ∀ u ∈ v.vm, OkT u) (hl : vals.length ≤ mxL) : OkT (.mk [⟨num, vals⟩] []) := fun m => by
  match m with
  | 0 => trivial
  | m + 1 =>
    refine ⟨by simp [Tr.slots], by simp [Tr.rest], fun r hr => by simp [Tr.rest] at hr, fun s hs => ?_⟩
    have : s = ⟨num, vals⟩ := by simpa [Tr.slots] using hs
    subst this
    exact ⟨hl, fun v hv => ⟨(h v hv).1, (h v hv).2.1, fun u hu => (h v hv).2.2 u hu m⟩⟩
theorem fit_vals {k : Nat} {num : Int} {vals : List Va} (h : smallTr k (.mk [⟨num, vals⟩] []) = true) : FitV k vals := (small_fits h).1.2.2.2 ⟨num, vals⟩ (by simp [Tr.slots])

end Go.Proofs.Ytakdkocobcicdaa

/- Trees laid by themselves, the law's walk. Conditions: those that each theorem names. -/
namespace Go.Proofs.Ytakdkocobcicdaa
open Go.RowKit
set_option linter.unusedVariables false
set_option maxRecDepth 100000

theorem cells_i2 : Try.prog.cellsOf 39 = 2 := by kernel_rfl
theorem cells_i2e : Try.prog.cellsOf 3 = 1 := by kernel_rfl
theorem i2_came {H : Type} {enc : TypeId × Value → H} {w : World} {base : Nat} {spare : Nat → Bool} {held : Bool} {xs : Array Value} {d : DataW H} {p : List MemPlace}
    (h : DataW.Trod enc Try.prog w base spare held 39 (.agg xs) d p) : ∃ a b, xs = #[.int .i64 a, .int .i64 b] ∧ Int64 a ∧ Int64 b := by
  obtain ⟨fuel, hf⟩ := h
  have hcs : (Value.agg xs).cells.toList = xs.toList := rfl
  rw [hcs] at hf
  obtain ⟨ys, m, rfl, _, hl, hn, he⟩ := DataW.trod_array Try.underlying39 hf
  rw [cells_i2] at hl
  rw [cells_i2e] at he
  obtain ⟨l⟩ := xs
  match l, hl, ys, hn with
  | [v0, v1], _, [y0, y1], _ =>
    have g0 : DataW.trod enc Try.prog w base spare held m 3 [v0] = some y0 := he 0 (by omega)
    have g1 : DataW.trod enc Try.prog w base spare held m 3 [v1] = some y1 := he 1 (by omega)
    obtain ⟨n0, q0, _, w0⟩ := DataW.trod_int Try.underlying3 g0
    obtain ⟨n1, q1, _, w1⟩ := DataW.trod_int Try.underlying3 g1
    simp at q0 q1
    subst q0 q1
    exact ⟨n0, n1, rfl, i64_came w0, i64_came w1⟩

/-- These blocks hold these things. -/
structure Hld (w wr : World) (L : List (Nat × Obj)) : Prop where
  hd_bel : Below w.heap.size w wr
  hd_at : ∀ q ∈ L, wr.heap[q.1]? = some q.2
theorem hld_step {w wr w2 : World} {L : List (Nat × Obj)} (h : Hld w wr L) (hb : Below wr.heap.size wr w2) : Hld w w2 L :=
  ⟨bel_more h.hd_bel hb, fun q hq => (hb.block _ (lt_of_some (h.hd_at q hq))).trans (h.hd_at q hq)⟩
theorem hld_drew {w wr : World} {L : List (Nat × Obj)} (h : Hld w wr L) : Hld w wr.drew L := ⟨h.hd_bel.drew, h.hd_at⟩
theorem hld_new {w wr : World} {L : List (Nat × Obj)} (h : Hld w wr L) (cs : Array Value) (t : TypeId) : Hld w (wr.alloc (.cells cs t)) ((wr.heap.size, .cells cs t (0, 0)) :: L) :=
  ⟨(hld_step h ((Below.refl _ wr).alloc (Nat.le_refl _) _)).hd_bel, fun q hq => by
    rcases List.mem_cons.mp hq with rfl | hq
    · exact heap_alloc_new _ _
    · exact (hld_step h ((Below.refl _ wr).alloc (Nat.le_refl _) _)).hd_at q hq⟩

theorem hld_tail {w wr : World} {q : Nat × Obj} {L : List (Nat × Obj)} (h : Hld w wr (q :: L)) : Hld w wr L := ⟨h.hd_bel, fun p hp => h.hd_at p (List.mem_cons_of_mem _ hp)⟩
theorem hld_two {w wr : World} {g : Nat} {a b : Value} {t : TypeId} {L : List (Nat × Obj)} (h : Hld w wr ((g, .cells #[a, b] t (0, 0)) :: L)) : wr.cell? ⟨g, 0, none⟩ = some a ∧ wr.cell? ⟨g, 1, none⟩ = some b :=
  ⟨obj_cell (h.hd_at _ List.mem_cons_self) 0, obj_cell (h.hd_at _ List.mem_cons_self) 1⟩

set_option maxHeartbeats 32000000 in
theorem treelaid_walk (w : World) {S S' : Nat → Prop} {n m : Nat} {A : Option Addr} {na ca : Nat} {A2 : Option Addr} {nr cr : Nat} {B : Option Addr} {cb : Nat} {x : Tr} {vals : List Va} (h' : TrAt S n w A na ca A2 nr cr x) (ho : OkT x) (a : Int) (ha64 : Int64 a) (b : Int) (hb64 : Int64 b) (hv' : VsAt S' m w B cb vals) (hov : ∀ v ∈ vals, v.vs.length ≤ mxL ∧ v.vm.length ≤ mxL ∧ ∀ u ∈ v.vm, OkT u) (hml : vals.length ≤ mxL) :
    Calls Try.prog 6 #[.agg #[.slice A na ca, .slice A2 nr cr], .agg #[.int .i64 a, .int .i64 b], .slice B vals.length cb] w fun e w' => e = .returned (.bool true) ∧ Below w.heap.size w w' := by
  obtain ⟨k, hnk, hmk⟩ : ∃ k, n ≤ k ∧ m ≤ k := ⟨max n m, Nat.le_max_left _ _, Nat.le_max_right _ _⟩
  have h := trAt_keep (S' := fun _ => True) (trAt_le h' hnk) (fun _ _ => trivial) (stay_refl _ _)
  have hv := vsAt_keep (S' := fun _ => True) (vsAt_le hv' hmk) (fun _ _ => trivial) (stay_refl _ _)
  have hok := ok_one (num := 0) hov hml
  obtain ⟨nb, hnb⟩ : ∃ nb, nb = vals.length := ⟨_, rfl⟩
  rw [← hnb]
  clear h' hv' hov hml
  have HLV := Lib.hid (fun u => trlive_any u)
  have HSX := Lib.hid (fun u (hb : Below w.heap.size w u) => rsmalltr_any u (trAt_bel h hb) ho)
  have HSL := Lib.hid (fun u (hb : Below w.heap.size w u) => rsmalltr_any (u.alloc (.cells #[.int .i64 0, .slice B nb cb] 32)) (tr_one (k := k) (num := 0) (heap_alloc_new u (.cells #[.int .i64 0, .slice B nb cb] 32)) hnb (vsAt_bel hv (hb.alloc hb.size _))) hok)
  have HB2 := Lib.hid (bx2_start w #[.slice A na ca, .slice A2 nr cr] #[.int .i64 a, .int .i64 b] 25 39)
  obtain ⟨L, hL⟩ : ∃ L, L = [(w.heap.size, Obj.cells #[.slice A na ca, .slice A2 nr cr] 25 (0, 0)), (w.heap.size + 1, Obj.cells #[.int .i64 a, .int .i64 b] 39 (0, 0))] := ⟨_, rfl⟩
  have HBX : Hid (Hld w ((w.alloc (.cells #[.slice A na ca, .slice A2 nr cr] 25)).alloc (.cells #[.int .i64 a, .int .i64 b] 39)) L) := Lib.hid ⟨HB2.out.b2_bel, fun q hq => by
    rw [hL] at hq
    rcases List.mem_cons.mp hq with rfl | hq
    · exact HB2.out.b2_one
    · rcases List.mem_cons.mp hq with rfl | hq
      · exact HB2.out.b2_two
      · cases hq⟩
  have HK : Hid (∀ u, Hld w u L → u.cell? ⟨w.heap.size, 0, none⟩ = some (.slice A na ca) ∧ u.cell? ⟨w.heap.size, 1, none⟩ = some (.slice A2 nr cr) ∧ u.cell? ⟨w.heap.size + 1, 0, none⟩ = some (.int .i64 a) ∧ u.cell? ⟨w.heap.size + 1, 1, none⟩ = some (.int .i64 b)) := Lib.hid (fun u hu => by
    have e1 := hu.hd_at _ (by rw [hL]; exact List.mem_cons_self)
    have e2 := hu.hd_at _ (by rw [hL]; exact List.mem_cons_of_mem _ List.mem_cons_self)
    exact ⟨obj_cell e1 0, obj_cell e1 1, obj_cell e2 0, obj_cell e2 1⟩)
  obtain ⟨r0, r1, s0, s1⟩ := HK.out _ HBX.out
  clear HB2 hL
  cases hx : smallTr k x with
  | false =>
    rw [hx] at HSX
    clear h hv ho hx hok hnb
    go_enter Try.func6, Try.ntmps6
    go_wp2_with (first
      | (go_at_call 7; refine (HSX.out _ HBX.out.hd_bel).mono ?_; rintro e w1 ⟨rfl, hb⟩; replace HBX := Lib.hid (hld_step HBX.out hb); clear hb)
      | (go_at_call 8; refine (HLV.out _).mono ?_; rintro e w2 ⟨rfl, hb⟩; replace HBX := Lib.hid (hld_step HBX.out hb); clear hb))
    go_ret
    exact ⟨rfl, HBX.out.hd_bel⟩
  | true =>
    rw [hx] at HSX
    cases hy : smallTr k (.mk [⟨0, vals⟩] []) with
    | false =>
      rw [hy] at HSL
      clear h hv ho hx hok hnb hy
      go_enter Try.func6, Try.ntmps6
      go_wp2_with (first
        | (go_at_call 7; refine (HSX.out _ HBX.out.hd_bel).mono ?_; rintro e w1 ⟨rfl, hb⟩; replace HBX := Lib.hid (hld_step HBX.out hb); clear hb)
        | (go_at_call 7; refine (HSL.out _ HBX.out.hd_bel).mono ?_; rintro e w1 ⟨rfl, hb⟩; replace HBX := Lib.hid (hld_step (hld_step HBX.out ((Below.refl _ _).alloc (Nat.le_refl _) _)) hb); clear hb)
        | (go_at_call 8; refine (HLV.out _).mono ?_; rintro e w2 ⟨rfl, hb⟩; replace HBX := Lib.hid (hld_step HBX.out hb); clear hb))
      go_ret
      exact ⟨rfl, HBX.out.hd_bel⟩
    | true =>
      rw [hy] at HSL
      have hfx := (small_fits hx).1
      have hsl := small_slots hx
      have hfv := fit_vals hy
      have hfn : FitV k [] := ⟨by simp, fun v hv => by simp at hv⟩
      obtain ⟨T1, hT1⟩ : ∃ T1, T1 = Tr.mk (withT a vals x.slots) x.rest := ⟨_, rfl⟩
      obtain ⟨T0, hT0⟩ : ∃ T0, T0 = Tr.mk (withT a [] x.slots) x.rest := ⟨_, rfl⟩
      have hf1 : FitN (k + 1) T1 := by rw [hT1]; exact fit_with hfx (by omega) hfv
      have hf0 : FitN (k + 1) T0 := by rw [hT0]; exact fit_with hfx (by omega) hfn
      have hl1 : T1.slots.length ≤ 401 := by have := with_len a vals x.slots; rw [hT1]; show (withT a vals x.slots).length ≤ 401; omega
      have e1 : Tr.mk (withT a vals T1.slots) T1.rest = T1 := by rw [hT1]; show Tr.mk (withT a vals (withT a vals x.slots)) x.rest = _; rw [with_with]
      have e0 : Tr.mk (withT a [] T1.slots) T1.rest = T0 := by rw [hT1, hT0]; show Tr.mk (withT a [] (withT a vals x.slots)) x.rest = _; rw [with_with]
      have g0 : getT T0.slots a = [] := by rw [hT0]; exact getT_with a [] _
      have hnil : ∀ u, VsAt (fun _ => True) k u none 0 [] := fun u => lst_empty _ _ _ (by decide) (fun _ => rfl)
      have HPT := Lib.hid (fun u (hb : Below w.heap.size w u) => show Calls Try.prog _ _ u (CopyTo k u T1) from by rw [hT1]; exact pwith_any u a (trAt_bel h hb) (vsAt_bel hv hb) hnb (by omega) (by rw [← hT1]; exact hf1))
      have HPN := Lib.hid (fun u (hb : Below w.heap.size w u) => show Calls Try.prog _ _ u (CopyTo k u T0) from by rw [hT0]; exact pwith_any u a (trAt_bel h hb) (hnil u) rfl (by omega) (by rw [← hT0]; exact hf0))
      have HPX := Lib.hid (fun (S : Nat → Prop) u X1 x1 y1 X2 x2 y2 (hb : Below w.heap.size w u) (hX : TrAt S k u X1 x1 y1 X2 x2 y2 T1) => show Calls Try.prog _ _ u (CopyTo k u T1) from by
        have := pwith_any u a (trAt_keep hX (S' := fun _ => True) (fun _ _ => trivial) (stay_refl _ _)) (vsAt_bel hv hb) hnb (by omega) (by rw [e1]; exact hf1)
        rw [e1] at this
        exact this)
      have HPZ := Lib.hid (fun (S : Nat → Prop) u X1 x1 y1 X2 x2 y2 (hX : TrAt S k u X1 x1 y1 X2 x2 y2 T1) => show Calls Try.prog _ _ u (CopyTo k u T0) from by
        have := pwith_any u a (trAt_keep hX (S' := fun _ => True) (fun _ _ => trivial) (stay_refl _ _)) (hnil u) rfl (by omega) (by rw [e0]; exact hf0)
        rw [e0] at this
        exact this)
      have HGZ := Lib.hid (fun (S : Nat → Prop) u Z1 x1 y1 Z2 x2 y2 (hZ : TrAt S k u Z1 x1 y1 Z2 x2 y2 T0) => show Calls Try.prog 17 #[.agg #[.slice Z1 x1 y1, .slice Z2 x2 y2], .int .i64 a] u fun e w' => ∃ A1 c1, e = .returned (.slice A1 0 c1) ∧ Below u.heap.size u w' from (pget_any u a hZ hf0).mono (by
        rintro e w' ⟨A1, n1, c1, rfl, hn, _, hb⟩
        rw [g0] at hn
        subst hn
        exact ⟨A1, c1, rfl, hb⟩))
      have HGX := Lib.hid (fun (S : Nat → Prop) u X1 x1 y1 X2 x2 y2 (hX : TrAt S k u X1 x1 y1 X2 x2 y2 T1) => pget_any u b hX hf1)
      have HGT := Lib.hid (fun u (hb : Below w.heap.size w u) => pget_any u b (trAt_bel h hb) hfx)
      have HOT : Hid (a ≠ b → getT T1.slots b = getT x.slots b) := Lib.hid (fun hab => by rw [hT1]; exact getT_other hab vals _)
      clear h hv ho hx hok hnb hy hfx hsl hfv hfn hT1 hT0 hf1 hf0 hl1 e1 e0 g0 hnil
      go_enter Try.func6, Try.ntmps6
      go_wp2_with (first
        | (go_at_call 7; refine (HSX.out _ HBX.out.hd_bel).mono ?_; rintro e w1 ⟨rfl, hb⟩; replace HBX := Lib.hid (hld_step HBX.out hb); obtain ⟨r0, r1, s0, s1⟩ := HK.out _ HBX.out; clear hb)
        | (go_at_call 7; refine (HSL.out _ HBX.out.hd_bel).mono ?_; rintro e w1 ⟨rfl, hb⟩; replace HBX := Lib.hid (hld_step (hld_step HBX.out ((Below.refl _ _).alloc (Nat.le_refl _) _)) hb); obtain ⟨r0, r1, s0, s1⟩ := HK.out _ HBX.out; clear hb)
        | (go_at_call 15; refine (HPT.out _ HBX.out.hd_bel).mono ?_; rintro e w3 ⟨X1, x1, y1, X2, x2, y2, rfl, hT, hb⟩; have HTX := Lib.hid hT; replace HBX := Lib.hid (hld_step HBX.out hb); have k2 := fun cs t => (HK.out _ (hld_tail (hld_new HBX.out cs t))).2.2.1; clear hb hT HPT HSX HSL)
        | (go_at_call 15; have HL1 := Lib.hid (hld_new HBX.out #[.slice X1 x1 y1, .slice X2 x2 y2] 25); refine (HPX.out _ _ _ _ _ _ _ _ HL1.out.hd_bel (trAt_bel HTX.out ((Below.refl _ w3).alloc (Nat.le_refl _) _))).mono ?_; rintro e w4 ⟨Y1, u1, v1, Y2, u2, v2, rfl, hT, hb⟩; have HTY := Lib.hid hT; have HM1 := Lib.hid (hld_step HL1.out hb); have HTX4 := Lib.hid (trAt_bel (trAt_bel HTX.out ((Below.refl _ w3).alloc (Nat.le_refl _) _)) hb); have k3 := fun cs t => (HK.out _ (hld_tail (hld_tail (hld_new HM1.out cs t)))).2.2.1; have k4 := fun cs t => (hld_two (hld_tail (hld_new HM1.out cs t))).1; have k5 := fun cs t => (hld_two (hld_tail (hld_new HM1.out cs t))).2; clear hb hT HPX k2)
        | (go_at_call 15; have HL2 := Lib.hid (hld_new HM1.out #[.slice Y1 u1 v1, .slice Y2 u2 v2] 25); refine (HPZ.out _ _ _ _ _ _ _ _ (trAt_bel HTX4.out ((Below.refl _ w4).alloc (Nat.le_refl _) _))).mono ?_; rintro e w5 ⟨Z1, p1, q1, Z2, p2, q2, rfl, hT, hb⟩; have HTZ := Lib.hid hT; have HM2 := Lib.hid (hld_step HL2.out hb); have HTX5 := Lib.hid (trAt_bel (trAt_bel HTX4.out ((Below.refl _ w4).alloc (Nat.le_refl _) _)) hb); have HTY5 := Lib.hid (trAt_bel (trAt_bel HTY.out ((Below.refl _ w4).alloc (Nat.le_refl _) _)) hb); clear hb hT))
      have HM3 := Lib.hid (hld_new HM2.out #[.slice Z1 p1 q1, .slice Z2 p2 q2] 25)
      obtain ⟨W6, hW6⟩ : ∃ z, z = w5.alloc (.cells #[.slice Z1 p1 q1, .slice Z2 p2 q2] 25) := ⟨_, rfl⟩
      have HB6 : Hid (Below w5.heap.size w5 W6) := Lib.hid (by rw [hW6]; exact (Below.refl _ w5).alloc (Nat.le_refl _) _)
      have HX6 := Lib.hid (trAt_bel HTX5.out HB6.out)
      have HY6 := Lib.hid (trAt_bel HTY5.out HB6.out)
      have HZ6 := Lib.hid (trAt_bel HTZ.out HB6.out)
      obtain ⟨gx, hgx⟩ : ∃ g, g = w3.heap.size := ⟨_, rfl⟩
      obtain ⟨gy, hgy⟩ : ∃ g, g = w4.heap.size := ⟨_, rfl⟩
      obtain ⟨gz, hgz⟩ : ∃ g, g = w5.heap.size := ⟨_, rfl⟩
      rw [← hW6, ← hgx, ← hgy, ← hgz] at HM3
      rw [← hW6, ← hgx, ← hgy, ← hgz]
      clear hW6 HB6 HTX5 HTY5 HTZ HM2 HL2 HM1 HL1 HBX HTX HTX4 HTY k3 k4 k5 hgx hgy hgz r0 r1 s0 s1 HPZ
      obtain ⟨L3, hL3⟩ : ∃ L3, L3 = (gz, Obj.cells #[.slice Z1 p1 q1, .slice Z2 p2 q2] 25 (0, 0)) :: (gy, Obj.cells #[.slice Y1 u1 v1, .slice Y2 u2 v2] 25 (0, 0)) :: (gx, Obj.cells #[.slice X1 x1 y1, .slice X2 x2 y2] 25 (0, 0)) :: L := ⟨_, rfl⟩
      rw [← hL3] at HM3
      have HK3 : Hid (∀ u, Hld w u L3 → u.cell? ⟨w.heap.size, 0, none⟩ = some (.slice A na ca) ∧ u.cell? ⟨w.heap.size, 1, none⟩ = some (.slice A2 nr cr) ∧ u.cell? ⟨w.heap.size + 1, 0, none⟩ = some (.int .i64 a) ∧ u.cell? ⟨w.heap.size + 1, 1, none⟩ = some (.int .i64 b) ∧ u.cell? ⟨gx, 0, none⟩ = some (.slice X1 x1 y1) ∧ u.cell? ⟨gx, 1, none⟩ = some (.slice X2 x2 y2) ∧ u.cell? ⟨gy, 0, none⟩ = some (.slice Y1 u1 v1) ∧ u.cell? ⟨gy, 1, none⟩ = some (.slice Y2 u2 v2) ∧ u.cell? ⟨gz, 0, none⟩ = some (.slice Z1 p1 q1) ∧ u.cell? ⟨gz, 1, none⟩ = some (.slice Z2 p2 q2)) := Lib.hid (fun u hu => by
        rw [hL3] at hu
        obtain ⟨c1, c2, c3, c4⟩ := HK.out u (hld_tail (hld_tail (hld_tail hu)))
        obtain ⟨c5, c6⟩ := hld_two (hld_tail (hld_tail hu))
        obtain ⟨c7, c8⟩ := hld_two (hld_tail hu)
        obtain ⟨c9, c10⟩ := hld_two hu
        exact ⟨c1, c2, c3, c4, c5, c6, c7, c8, c9, c10⟩)
      clear hL3 HK
      have HM4 := HM3
      replace HM3 := Lib.hid (hld_drew HM3.out)
      replace HX6 := Lib.hid (trAt_bel HX6.out ((Below.refl _ W6).drew))
      replace HY6 := Lib.hid (trAt_bel HY6.out ((Below.refl _ W6).drew))
      replace HZ6 := Lib.hid (trAt_bel HZ6.out ((Below.refl _ W6).drew))
      go_region_held3 (fun u => u.cell? ⟨w.heap.size, 0, none⟩ = some (.slice A na ca) ∧ u.cell? ⟨w.heap.size, 1, none⟩ = some (.slice A2 nr cr) ∧ u.cell? ⟨w.heap.size + 1, 0, none⟩ = some (.int .i64 a) ∧ u.cell? ⟨w.heap.size + 1, 1, none⟩ = some (.int .i64 b) ∧ u.cell? ⟨gx, 0, none⟩ = some (.slice X1 x1 y1) ∧ u.cell? ⟨gx, 1, none⟩ = some (.slice X2 x2 y2) ∧ u.cell? ⟨gy, 0, none⟩ = some (.slice Y1 u1 v1) ∧ u.cell? ⟨gy, 1, none⟩ = some (.slice Y2 u2 v2) ∧ u.cell? ⟨gz, 0, none⟩ = some (.slice Z1 p1 q1) ∧ u.cell? ⟨gz, 1, none⟩ = some (.slice Z2 p2 q2))
        (first | exact HK3.out _ HM3.out | exact HK3.out _ HM4.out)
        (first
          | (go_at_call 10; refine (same_yes (rtsame_any k _ _ k _ _ _ _ _ _ _ _ _ _ _ _ _ _ _ HX6.out HY6.out) rfl).mono ?_; rintro e z1 ⟨rfl, hb⟩; replace HM3 := Lib.hid (hld_step HM3.out hb); replace HX6 := Lib.hid (trAt_bel HX6.out hb); replace HZ6 := Lib.hid (trAt_bel HZ6.out hb); clear hb HY6)
          | (go_at_call 17; refine (HGZ.out _ _ _ _ _ _ _ _ HZ6.out).mono ?_; rintro e z2 ⟨G1, c1, rfl, hb⟩; replace HM3 := Lib.hid (hld_step HM3.out hb); replace HX6 := Lib.hid (trAt_bel HX6.out hb); replace HZ6 := Lib.hid (trAt_bel HZ6.out hb); clear hb HGZ)
          | (go_at_call 15; refine (HPN.out _ HM3.out.hd_bel).mono ?_; rintro e z3 ⟨N1, l1, o1, N2, l2, o2, rfl, hT, hb⟩; have HTN := Lib.hid hT; replace HM3 := Lib.hid (hld_step HM3.out hb); replace HX6 := Lib.hid (trAt_bel HX6.out hb); replace HZ6 := Lib.hid (trAt_bel HZ6.out hb); clear hb hT)
          | (go_at_call 10; refine (same_yes (rtsame_any k _ _ k z3 _ _ _ _ _ _ _ _ _ _ _ _ _ _ HZ6.out HTN.out) rfl).mono ?_; rintro e z4 ⟨rfl, hb⟩; replace HM3 := Lib.hid (hld_step HM3.out hb); replace HX6 := Lib.hid (trAt_bel HX6.out hb); clear hb))
      have HK4 : Hid (∀ u, Hld w u L3 → u.cell? ⟨w.heap.size, 0, none⟩ = some (.slice A na ca) ∧ u.cell? ⟨w.heap.size, 1, none⟩ = some (.slice A2 nr cr) ∧ u.cell? ⟨w.heap.size + 1, 0, none⟩ = some (.int .i64 a) ∧ u.cell? ⟨w.heap.size + 1, 1, none⟩ = some (.int .i64 b) ∧ u.cell? ⟨gx, 0, none⟩ = some (.slice X1 x1 y1) ∧ u.cell? ⟨gx, 1, none⟩ = some (.slice X2 x2 y2)) := Lib.hid (fun u hu => by
        obtain ⟨c1, c2, c3, c4, c5, c6, _⟩ := HK3.out u hu
        exact ⟨c1, c2, c3, c4, c5, c6⟩)
      clear HK3 HPN HZ6 HTN HM4
      by_cases hab : a = b
      · subst hab
        have te : (a == a) = true := beq_self_eq_true _
        clear HGX HGT HOT
        go_wp2
        have HM5 := HM3
        replace HM3 := Lib.hid (hld_drew HM3.out)
        refine wp_region_held_drew (S := fun u => u.cell? ⟨w.heap.size, 0, none⟩ = some (.slice A na ca) ∧ u.cell? ⟨w.heap.size, 1, none⟩ = some (.slice A2 nr cr) ∧ u.cell? ⟨w.heap.size + 1, 0, none⟩ = some (.int .i64 a) ∧ u.cell? ⟨w.heap.size + 1, 1, none⟩ = some (.int .i64 a) ∧ u.cell? ⟨gx, 0, none⟩ = some (.slice X1 x1 y1) ∧ u.cell? ⟨gx, 1, none⟩ = some (.slice X2 x2 y2)) (by kernel_rfl) (HK4.out _ HM3.out) (fun hHeld => ?_)
        refine wpAnyH_take (i := 0) (oi := { dst := some 57, op := Op.indexAddr 39 (Operand.tmp 4) (Operand.const (Value.int IntKind.i64 0)), type := 0, pos := "law.go:71", after := #[], guard := none }) (v := .pointer (some ⟨w.heap.size + 1, 0, none⟩)) rfl (by kernel_rfl) (by kernel_rfl) (by kernel_rfl) (fun _ _ _ h => h) (Or.inl ⟨by rfl, fun u hu => by obtain ⟨c1, c2, c3, c4, c5, c6⟩ := hu; go_simp⟩) (by assumption) ?_
        simp only [Act.put, List.setIfInBounds_toArray, List.set_cons_zero, List.set_cons_succ]
        refine wpAnyH_take (i := 1) (oi := { dst := some 58, op := Op.load 3 (Operand.tmp 57), type := 3, pos := "law.go:71", after := #[{ on := 0, ground := Ground.data }], guard := none }) (v := .int .i64 a) rfl (by kernel_rfl) (by kernel_rfl) (by kernel_rfl) (fun _ _ _ h => h) (Or.inl ⟨by rfl, fun u hu => by obtain ⟨c1, c2, c3, c4, c5, c6⟩ := hu; go_simp⟩) (by assumption) ?_
        simp only [Act.put, List.setIfInBounds_toArray, List.set_cons_zero, List.set_cons_succ]
        refine wpAnyH_take (i := 2) (oi := { dst := some 59, op := Op.indexAddr 39 (Operand.tmp 4) (Operand.const (Value.int IntKind.i64 1)), type := 0, pos := "law.go:71", after := #[], guard := none }) (v := .pointer (some ⟨w.heap.size + 1, 1, none⟩)) rfl (by kernel_rfl) (by kernel_rfl) (by kernel_rfl) (fun _ _ _ h => h) (Or.inl ⟨by rfl, fun u hu => by obtain ⟨c1, c2, c3, c4, c5, c6⟩ := hu; go_simp⟩) (by assumption) ?_
        simp only [Act.put, List.setIfInBounds_toArray, List.set_cons_zero, List.set_cons_succ]
        refine wpAnyH_take (i := 3) (oi := { dst := some 60, op := Op.load 3 (Operand.tmp 59), type := 3, pos := "law.go:71", after := #[{ on := 2, ground := Ground.data }], guard := none }) (v := .int .i64 a) rfl (by kernel_rfl) (by kernel_rfl) (by kernel_rfl) (fun _ _ _ h => h) (Or.inl ⟨by rfl, fun u hu => by obtain ⟨c1, c2, c3, c4, c5, c6⟩ := hu; go_simp⟩) (by assumption) ?_
        simp only [Act.put, List.setIfInBounds_toArray, List.set_cons_zero, List.set_cons_succ]
        refine wpAnyH_take (i := 4) (oi := { dst := some 61, op := Op.binOp BinOp.eql 3 (Operand.tmp 58) (Operand.tmp 60) 3, type := 4, pos := "law.go:71", after := #[{ on := 1, ground := Ground.data }, { on := 3, ground := Ground.data }], guard := none }) (v := .bool true) rfl (by kernel_rfl) (by kernel_rfl) (by kernel_rfl) (fun _ _ _ h => h) (Or.inl ⟨by rfl, fun u hu => by obtain ⟨c1, c2, c3, c4, c5, c6⟩ := hu; go_simp⟩) (by assumption) ?_
        simp only [Act.put, List.setIfInBounds_toArray, List.set_cons_zero, List.set_cons_succ]
        refine wpAnyH_take (i := 5) (oi := { dst := some 62, op := Op.move (Operand.tmp 61), type := 4, pos := "law.go:71", after := #[{ on := 4, ground := Ground.data }], guard := none }) (v := .bool true) rfl (by kernel_rfl) (by kernel_rfl) (by kernel_rfl) (fun _ _ _ h => h) (Or.inl ⟨by rfl, fun u hu => by obtain ⟨c1, c2, c3, c4, c5, c6⟩ := hu; go_simp⟩) (by assumption) ?_
        simp only [Act.put, List.setIfInBounds_toArray, List.set_cons_zero, List.set_cons_succ]
        refine wpAnyH_take (i := 6) (oi := { dst := some 63, op := Op.load 25 (Operand.tmp 7), type := 25, pos := "law.go:71", after := #[{ on := 5, ground := Ground.guard }], guard := some (5, false) }) (v := undef) rfl (by kernel_rfl) (by kernel_rfl) (by kernel_rfl) (fun _ _ _ h => h) (Or.inr ⟨by rfl, rfl⟩) (by assumption) ?_
        simp only [Act.put, List.setIfInBounds_toArray, List.set_cons_zero, List.set_cons_succ]
        refine wpAnyH_take (i := 7) (oi := { dst := some 64, op := Op.indexAddr 39 (Operand.tmp 4) (Operand.const (Value.int IntKind.i64 1)), type := 0, pos := "law.go:71", after := #[{ on := 5, ground := Ground.guard }], guard := some (5, false) }) (v := undef) rfl (by kernel_rfl) (by kernel_rfl) (by kernel_rfl) (fun _ _ _ h => h) (Or.inr ⟨by rfl, rfl⟩) (by assumption) ?_
        simp only [Act.put, List.setIfInBounds_toArray, List.set_cons_zero, List.set_cons_succ]
        refine wpAnyH_take (i := 8) (oi := { dst := some 65, op := Op.load 3 (Operand.tmp 64), type := 3, pos := "law.go:71", after := #[{ on := 7, ground := Ground.data }, { on := 5, ground := Ground.guard }], guard := some (5, false) }) (v := undef) rfl (by kernel_rfl) (by kernel_rfl) (by kernel_rfl) (fun _ _ _ h => h) (Or.inr ⟨by rfl, rfl⟩) (by assumption) ?_
        simp only [Act.put, List.setIfInBounds_toArray, List.set_cons_zero, List.set_cons_succ]
        refine wpAnyH_take (i := 10) (oi := { dst := some 67, op := Op.load 25 (Operand.tmp 3), type := 25, pos := "law.go:71", after := #[{ on := 5, ground := Ground.guard }], guard := some (5, false) }) (v := undef) rfl (by kernel_rfl) (by kernel_rfl) (by kernel_rfl) (fun _ _ _ h => h) (Or.inr ⟨by rfl, rfl⟩) (by assumption) ?_
        simp only [Act.put, List.setIfInBounds_toArray, List.set_cons_zero, List.set_cons_succ]
        refine wpAnyH_take (i := 11) (oi := { dst := some 68, op := Op.indexAddr 39 (Operand.tmp 4) (Operand.const (Value.int IntKind.i64 1)), type := 0, pos := "law.go:71", after := #[{ on := 5, ground := Ground.guard }], guard := some (5, false) }) (v := undef) rfl (by kernel_rfl) (by kernel_rfl) (by kernel_rfl) (fun _ _ _ h => h) (Or.inr ⟨by rfl, rfl⟩) (by assumption) ?_
        simp only [Act.put, List.setIfInBounds_toArray, List.set_cons_zero, List.set_cons_succ]
        refine wpAnyH_take (i := 12) (oi := { dst := some 69, op := Op.load 3 (Operand.tmp 68), type := 3, pos := "law.go:71", after := #[{ on := 11, ground := Ground.data }, { on := 5, ground := Ground.guard }], guard := some (5, false) }) (v := undef) rfl (by kernel_rfl) (by kernel_rfl) (by kernel_rfl) (fun _ _ _ h => h) (Or.inr ⟨by rfl, rfl⟩) (by assumption) ?_
        simp only [Act.put, List.setIfInBounds_toArray, List.set_cons_zero, List.set_cons_succ]
        refine wpAnyH_take (i := 9) (oi := { dst := some 66, op := Op.call { callee := Callee.value (Operand.func 17), args := #[Operand.tmp 63, Operand.tmp 65], argTypes := #[25, 3] }, type := 30, pos := "law.go:71", after := #[{ on := 6, ground := Ground.data }, { on := 8, ground := Ground.data }, { on := 5, ground := Ground.chain }, { on := 5, ground := Ground.guard }], guard := some (5, false) }) (v := undef) rfl (by kernel_rfl) (by kernel_rfl) (by kernel_rfl) (fun _ _ _ h => h) (Or.inr ⟨by rfl, rfl⟩) (by assumption) ?_
        simp only [Act.put, List.setIfInBounds_toArray, List.set_cons_zero, List.set_cons_succ]
        refine wpAnyH_take (i := 13) (oi := { dst := some 70, op := Op.call { callee := Callee.value (Operand.func 17), args := #[Operand.tmp 67, Operand.tmp 69], argTypes := #[25, 3] }, type := 30, pos := "law.go:71", after := #[{ on := 10, ground := Ground.data }, { on := 12, ground := Ground.data }, { on := 9, ground := Ground.chain }, { on := 5, ground := Ground.guard }], guard := some (5, false) }) (v := undef) rfl (by kernel_rfl) (by kernel_rfl) (by kernel_rfl) (fun _ _ _ h => h) (Or.inr ⟨by rfl, rfl⟩) (by assumption) ?_
        simp only [Act.put, List.setIfInBounds_toArray, List.set_cons_zero, List.set_cons_succ]
        refine wpAnyH_take (i := 14) (oi := { dst := some 71, op := Op.call { callee := Callee.value (Operand.func 16), args := #[Operand.tmp 66, Operand.tmp 70], argTypes := #[30, 30] }, type := 4, pos := "law.go:71", after := #[{ on := 9, ground := Ground.data }, { on := 13, ground := Ground.data }, { on := 13, ground := Ground.chain }, { on := 5, ground := Ground.guard }], guard := some (5, false) }) (v := undef) rfl (by kernel_rfl) (by kernel_rfl) (by kernel_rfl) (fun _ _ _ h => h) (Or.inr ⟨by rfl, rfl⟩) (by assumption) ?_
        simp only [Act.put, List.setIfInBounds_toArray, List.set_cons_zero, List.set_cons_succ]
        refine wpAnyH_take (i := 15) (oi := { dst := some 72, op := Op.pick (Operand.tmp 62) (Operand.const (Value.bool true)) (Operand.tmp 71), type := 4, pos := "law.go:71", after := #[{ on := 5, ground := Ground.data }, { on := 14, ground := Ground.data }], guard := none }) (v := .bool true) rfl (by kernel_rfl) (by kernel_rfl) (by kernel_rfl) (fun _ _ _ h => h) (Or.inl ⟨by rfl, fun u hu => by obtain ⟨c1, c2, c3, c4, c5, c6⟩ := hu; go_simp⟩) (by assumption) ?_
        simp only [Act.put, List.setIfInBounds_toArray, List.set_cons_zero, List.set_cons_succ]
        refine wpAnyH_take (i := 16) (oi := { dst := some 73, op := Op.move (Operand.tmp 72), type := 4, pos := "law.go:71", after := #[{ on := 15, ground := Ground.data }, { on := 14, ground := Ground.chain }], guard := none }) (v := .bool true) rfl (by kernel_rfl) (by kernel_rfl) (by kernel_rfl) (fun _ _ _ h => h) (Or.inl ⟨by rfl, fun u hu => by obtain ⟨c1, c2, c3, c4, c5, c6⟩ := hu; go_simp⟩) (by assumption) ?_
        simp only [Act.put, List.setIfInBounds_toArray, List.set_cons_zero, List.set_cons_succ]
        refine wpAnyH_ready (rs := [17]) (by kernel_rfl) (by simp) ?_
        refine AllReadyH.cons (o := { dst := some 74, op := Op.call { callee := Callee.value (Operand.func 8), args := #[], argTypes := #[] }, type := 4, pos := "law.go:71", after := #[{ on := 16, ground := Ground.chain }, { on := 16, ground := Ground.guard }], guard := some (16, true) }) rfl (fun K hK => ?_) AllReadyH.nil
        go_simp
        go_at_call 8
        refine (HLV.out _).mono ?_
        rintro e z8 ⟨rfl, hb⟩
        replace HM3 := Lib.hid (hld_step HM3.out hb)
        clear hb
        (try go_wp2_with fail)
        refine hK.out _ _ (HK4.out _ HM3.out) (fun hHeld2 => ?_)
        clear hK
        (try simp only [Act.put, List.setIfInBounds_toArray, List.set_cons_zero, List.set_cons_succ])
        refine wpAnyH_take (i := 18) (oi := { dst := some 75, op := Op.pick (Operand.tmp 73) (Operand.tmp 74) (Operand.const (Value.bool false)), type := 4, pos := "law.go:71", after := #[{ on := 16, ground := Ground.data }, { on := 17, ground := Ground.data }], guard := none }) (v := .bool true) rfl (by kernel_rfl) (by kernel_rfl) (by kernel_rfl) (fun _ _ _ h => h) (Or.inl ⟨by rfl, fun u hu => by obtain ⟨c1, c2, c3, c4, c5, c6⟩ := hu; go_simp⟩) (by assumption) ?_
        simp only [Act.put, List.setIfInBounds_toArray, List.set_cons_zero, List.set_cons_succ]
        refine wpAnyH_take (i := 19) (oi := { dst := some 6, op := Op.assign (Operand.tmp 75), type := 4, pos := "law.go:71", after := #[{ on := 18, ground := Ground.data }, { on := 17, ground := Ground.chain }, { on := 0, ground := Ground.phase }, { on := 1, ground := Ground.phase }, { on := 2, ground := Ground.phase }, { on := 3, ground := Ground.phase }, { on := 4, ground := Ground.phase }, { on := 5, ground := Ground.phase }, { on := 6, ground := Ground.phase }, { on := 7, ground := Ground.phase }, { on := 8, ground := Ground.phase }, { on := 9, ground := Ground.phase }, { on := 10, ground := Ground.phase }, { on := 11, ground := Ground.phase }, { on := 12, ground := Ground.phase }, { on := 13, ground := Ground.phase }, { on := 14, ground := Ground.phase }, { on := 15, ground := Ground.phase }, { on := 16, ground := Ground.phase }, { on := 17, ground := Ground.phase }, { on := 18, ground := Ground.phase }], guard := none }) (v := .bool true) rfl (by kernel_rfl) (by kernel_rfl) (by kernel_rfl) (fun _ _ _ h => h) (Or.inl ⟨by rfl, fun u hu => by obtain ⟨c1, c2, c3, c4, c5, c6⟩ := hu; go_simp⟩) (by assumption) ?_
        simp only [Act.put, List.setIfInBounds_toArray, List.set_cons_zero, List.set_cons_succ]
        refine wpAnyH_done (by kernel_rfl) ?_ _
        go_wp2
        go_ret
        exact ⟨rfl, HM3.out.hd_bel⟩
      · have te : (a == b) = false := beq_false_of_ne hab
        go_wp2
        have HM5 := HM3
        replace HM3 := Lib.hid (hld_drew HM3.out)
        replace HX6 := Lib.hid (trAt_bel HX6.out ((Below.refl _ z4).drew))
        go_region_held3 (fun u => u.cell? ⟨w.heap.size, 0, none⟩ = some (.slice A na ca) ∧ u.cell? ⟨w.heap.size, 1, none⟩ = some (.slice A2 nr cr) ∧ u.cell? ⟨w.heap.size + 1, 0, none⟩ = some (.int .i64 a) ∧ u.cell? ⟨w.heap.size + 1, 1, none⟩ = some (.int .i64 b) ∧ u.cell? ⟨gx, 0, none⟩ = some (.slice X1 x1 y1) ∧ u.cell? ⟨gx, 1, none⟩ = some (.slice X2 x2 y2))
          (first | exact HK4.out _ HM3.out | exact HK4.out _ HM5.out)
          (first
            | (go_at_call 17; refine (HGX.out _ _ _ _ _ _ _ _ HX6.out).mono ?_; rintro e z5 ⟨G3, m3, c3, rfl, ha, hG, hb⟩; have HA3 := Lib.hid ha; have HG3 := Lib.hid hG; replace HM3 := Lib.hid (hld_step HM3.out hb); clear hb hG ha HGX)
            | (go_at_call 17; refine (HGT.out _ HM3.out.hd_bel).mono ?_; rintro e z6 ⟨G4, m4, c4, rfl, ha, hG, hb⟩; have HA4 := Lib.hid ha; have HG4 := Lib.hid hG; replace HG3 := Lib.hid (vsAt_bel HG3.out hb); replace HM3 := Lib.hid (hld_step HM3.out hb); clear hb hG ha)
            | (go_at_call 16; refine (same_yes (rtvals_any z6 HG3.out HG4.out HA3.out HA4.out) (HOT.out hab)).mono ?_; rintro e z7 ⟨rfl, hb⟩; replace HM3 := Lib.hid (hld_step HM3.out hb); clear hb)
            | (go_at_call 8; refine (HLV.out _).mono ?_; rintro e z8 ⟨rfl, hb⟩; replace HM3 := Lib.hid (hld_step HM3.out hb); clear hb))
        go_wp2
        go_ret
        exact ⟨rfl, HM3.out.hd_bel⟩
end Go.Proofs.Ytakdkocobcicdaa
