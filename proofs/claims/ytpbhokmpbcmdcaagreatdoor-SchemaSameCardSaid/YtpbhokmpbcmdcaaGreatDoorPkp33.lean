/- Several texts in one: SxU, SxV. What each proves, and its conditions, stands at its own head. -/
import Derived.Test.YtpbhokmpbcmdcaaGreatDoorPkp31
import Derived.Test.YtpbhokmpbcmdcaaGreatDoorPkp17
import Derived.Test.YtpbhokmpbcmdcaaGreatDoorPkp26
import Derived.Test.YtpbhokmpbcmdcaaGreatDoorPkp16
/- The program's copies of a value and of a field, and of lists of them. Conditions: those that each theorem names. -/
namespace Go.Proofs.YtpbhokmpbcmdcaaGreatDoor
open Go.RowKit
set_option linter.unusedVariables false
set_option maxRecDepth 100000

/-- 'append' off what it answers. -/
theorem wpList_append_x {P : Program} {w : World} {ops : Array Oper} {rest : List Oper} {o : Oper} {a : Act} {Q : Exit → Act → World → Prop} {t : TypeId} {v y : Value} (hgd : o.guard = none) (s x : Operand)
    (ho : o.op = .call { callee := .builtin .append, args := #[s, x], argTypes := #[t, t] }) (hs : a.eval s = v) (hx : a.eval x = y) {X : Value → World → Prop}
    (hr : ∃ v' w', (Builtin.append_ #[t, t] o.type #[v, y]).run P w = .ok v' w' ∧ X v' w') (h : ∀ v' w', X v' w' → wpList P ops Q rest (a.put o.dst v') w') : wpList P ops Q (o :: rest) a w := by
  obtain ⟨v', w', hr, hX⟩ := hr
  exact Lib.wpList_append_run w hgd s x t t ho v y hs hx v' w' hr (h v' w' hX)

theorem set_else {X : World} {p : Addr} {k : Nat} {v : Value} {o : Obj} (h : X.heap[k]? = some o) (hne : k ≠ p.block) : (X.setCell p v).heap[k]? = some o := (Below.heap_setCell X p v k hne).trans h

theorem bx2_drew1 {w wr : World} {o p : Obj} (h : Bx2 w wr o p) : Bx2 w wr.drew o p := bx2_step h (drewN_under wr 1)
/-- What is written there again changes nothing. -/
theorem bx2_same {w wr : World} {cs : Array Value} {t : TypeId} {p : Obj} (h : Bx2 w wr (.cells cs t (0, 0)) p) (j : Nat) {v : Value} (hv : cs.setIfInBounds j v = cs) : Bx2 w (wr.setCell ⟨w.heap.size, j, none⟩ v) (.cells cs t (0, 0)) p :=
  ⟨h.b2_bel.setCell (p := ⟨w.heap.size, j, none⟩) (Nat.le_refl _) v, by have := obj_set h.b2_one j v; rw [hv] at this; exact this, set_else h.b2_two (by show w.heap.size + 1 ≠ w.heap.size; omega)⟩

set_option maxHeartbeats 4000000 in
theorem scopy_vl (x : Vl) (hx : x.name.length ≤ 1000000) (w : World) : Calls Tryz.prog 80 #[.agg #[.string (strOf x.name), .int .i64 x.num]] w fun e w' => e = .returned (.agg #[.string (strOf x.name), .int .i64 x.num]) ∧ Below w.heap.size w w' := by
  obtain ⟨name, num⟩ := x
  dsimp only at hx ⊢
  have HC := Lib.hid (fun u => sclone_any (strOf name) u (by rw [str_size]; exact hx))
  obtain ⟨sn, hsn⟩ : ∃ s, s = strOf name := ⟨_, rfl⟩
  rw [← hsn] at HC ⊢
  have HBX := Lib.hid (bx2_start w #[.string sn, .int .i64 num] #[.string ⟨#[]⟩, .int .i64 0] 44 44)
  have r0 := obj_cell (HBX.out).b2_one 0
  have r1 := obj_cell (HBX.out).b2_one 1
  clear hsn hx
  go_enter Tryz.func80, Tryz.ntmps80
  go_wp2_with (go_at_call 78; refine (HC.out _).mono ?_; rintro e w2 ⟨rfl, hb⟩; replace HBX := Lib.hid (bx2_step HBX.out hb); have r0 := obj_cell (HBX.out).b2_one 0; have r1 := obj_cell (HBX.out).b2_one 1; have f0 := obj_free (HBX.out).b2_one 0; have z0 := obj_cell (HBX.out).b2_two 0; have z1 := obj_cell (HBX.out).b2_two 1; have y0 := obj_free (HBX.out).b2_two 0; have y1 := obj_free (HBX.out).b2_two 1; have HM := Lib.hid (obj_set (HBX.out).b2_one 0 (.string sn)); have m0 := obj_cell HM.out 0; have m1 := obj_cell HM.out 1; clear hb)
  have e1 := set_else (p := ⟨w.heap.size, 0, none⟩) (v := .string sn) HBX.out.b2_two (by show w.heap.size + 1 ≠ w.heap.size; omega)
  have e2 := obj_set e1 0 (.string sn)
  have e3 := obj_set e2 1 (.int .i64 num)
  have d0 := obj_cell e3 0
  have d1 := obj_cell e3 1
  refine bodyPost_ret (v := .agg #[.string sn, .int .i64 num]) ?_ rfl ⟨rfl, ?_⟩
  · have hres : Tryz.f80.results = #[.cell 2 44] := by kernel_rfl
    simp only [results, hres]
    go_simp
  · exact ((HBX.out.b2_bel.setCell (p := ⟨w.heap.size, 0, none⟩) (Nat.le_refl _) _).setCell (p := ⟨w.heap.size + 1, 0, none⟩) (Nat.le_succ _) _).setCell (p := ⟨w.heap.size + 1, 1, none⟩) (Nat.le_succ _) _

set_option maxHeartbeats 8000000 in
theorem scopy_fd (x : Fd) (hx : x.name.length ≤ 1000000 ∧ x.ref.length ≤ 1000000 ∧ x.one.length ≤ 1000000) (w : World) : Calls Tryz.prog 82 #[fdV x] w fun e w' => e = .returned (fdV x) ∧ Below w.heap.size w w' := by
  obtain ⟨name, num, ty, ref, rep, loose, one⟩ := x
  unfold fdV
  dsimp only at hx ⊢
  have h1 : (strOf name).size ≤ 1000000 := by rw [str_size]; exact hx.1
  have h2 : (strOf ref).size ≤ 1000000 := by rw [str_size]; exact hx.2.1
  have h3 : (strOf one).size ≤ 1000000 := by rw [str_size]; exact hx.2.2
  obtain ⟨sn, hsn⟩ : ∃ s, s = strOf name := ⟨_, rfl⟩
  obtain ⟨sr, hsr⟩ : ∃ s, s = strOf ref := ⟨_, rfl⟩
  obtain ⟨so, hso⟩ : ∃ s, s = strOf one := ⟨_, rfl⟩
  rw [← hsn] at h1
  rw [← hsr] at h2
  rw [← hso] at h3
  rw [← hsn, ← hsr, ← hso]
  have H1 := Lib.hid h1
  have H2 := Lib.hid h2
  have H3 := Lib.hid h3
  have HBX0 := Lib.hid (bx2_start w #[.string sn, .int .i64 num, .int .i64 ty, .string sr, .bool rep, .bool loose, .string so] #[.string ⟨#[]⟩, .int .i64 0, .int .i64 0, .string ⟨#[]⟩, .bool false, .bool false, .string ⟨#[]⟩] 39 39)
  have HBX := Lib.hid (bx2_drew1 HBX0.out)
  have r0 := obj_cell (HBX0.out).b2_one 0
  have r3 := obj_cell (HBX0.out).b2_one 3
  have r6 := obj_cell (HBX0.out).b2_one 6
  have HK : Hid (∀ u, Bx2 w u (.cells #[.string sn, .int .i64 num, .int .i64 ty, .string sr, .bool rep, .bool loose, .string so] 39 (0, 0)) (.cells #[.string ⟨#[]⟩, .int .i64 0, .int .i64 0, .string ⟨#[]⟩, .bool false, .bool false, .string ⟨#[]⟩] 39 (0, 0)) → u.cell? ⟨w.heap.size, 0, none⟩ = some (.string sn) ∧ u.cell? ⟨w.heap.size, 3, none⟩ = some (.string sr) ∧ u.cell? ⟨w.heap.size, 6, none⟩ = some (.string so) ∧ u.frozen? ⟨w.heap.size, 0, none⟩ = false ∧ u.frozen? ⟨w.heap.size, 3, none⟩ = false ∧ u.frozen? ⟨w.heap.size, 6, none⟩ = false) := Lib.hid (fun u hb => ⟨obj_cell hb.b2_one 0, obj_cell hb.b2_one 3, obj_cell hb.b2_one 6, obj_free hb.b2_one 0, obj_free hb.b2_one 3, obj_free hb.b2_one 6⟩)
  clear hsn hsr hso h1 h2 h3 hx
  go_enter Tryz.func82, Tryz.ntmps82
  go_wp2
  go_region_held3 (fun w' => w'.cell? ⟨w.heap.size, 0, none⟩ = some (.string sn) ∧ w'.cell? ⟨w.heap.size, 3, none⟩ = some (.string sr) ∧ w'.cell? ⟨w.heap.size, 6, none⟩ = some (.string so) ∧ w'.frozen? ⟨w.heap.size, 0, none⟩ = false ∧ w'.frozen? ⟨w.heap.size, 3, none⟩ = false ∧ w'.frozen? ⟨w.heap.size, 6, none⟩ = false)
    (first | exact HK.out _ HBX.out | exact HK.out _ (bx2_same HBX.out 0 rfl) | exact HK.out _ (bx2_same (bx2_same HBX.out 0 rfl) 3 rfl) | exact HK.out _ (bx2_same (bx2_same (bx2_same HBX.out 0 rfl) 3 rfl) 6 rfl))
    (first
      | (go_at_call 78; refine (sclone_any _ _ (by first | exact H1.out | exact H2.out | exact H3.out)).mono ?_; rintro e w2 ⟨rfl, hb⟩; replace HBX := Lib.hid (bx2_step HBX.out hb); clear hb))
  replace HBX := Lib.hid (bx2_same (bx2_same (bx2_same HBX.out 0 (v := .string sn) rfl) 3 (v := .string sr) rfl) 6 (v := .string so) rfl)
  clear HK r0 r3 r6 HBX0
  obtain ⟨wz, hwz⟩ : ∃ wz, wz = (((w2.setCell ⟨w.heap.size, 0, none⟩ (.string sn)).setCell ⟨w.heap.size, 3, none⟩ (.string sr)).setCell ⟨w.heap.size, 6, none⟩ (.string so)) := ⟨_, rfl⟩
  rw [← hwz] at HBX ⊢
  clear hwz
  have p0 := obj_cell HBX.out.b2_one 0
  have z0 := obj_cell HBX.out.b2_two 0
  have y0 := obj_free HBX.out.b2_two 0
  have p1 := obj_cell HBX.out.b2_one 1
  have z1 := obj_cell HBX.out.b2_two 1
  have y1 := obj_free HBX.out.b2_two 1
  have p2 := obj_cell HBX.out.b2_one 2
  have z2 := obj_cell HBX.out.b2_two 2
  have y2 := obj_free HBX.out.b2_two 2
  have p3 := obj_cell HBX.out.b2_one 3
  have z3 := obj_cell HBX.out.b2_two 3
  have y3 := obj_free HBX.out.b2_two 3
  have p4 := obj_cell HBX.out.b2_one 4
  have z4 := obj_cell HBX.out.b2_two 4
  have y4 := obj_free HBX.out.b2_two 4
  have p5 := obj_cell HBX.out.b2_one 5
  have z5 := obj_cell HBX.out.b2_two 5
  have y5 := obj_free HBX.out.b2_two 5
  have p6 := obj_cell HBX.out.b2_one 6
  have z6 := obj_cell HBX.out.b2_two 6
  have y6 := obj_free HBX.out.b2_two 6
  go_wp2
  have e0 := obj_set HBX.out.b2_two 0 (.string sn)
  have e1 := obj_set e0 1 (.int .i64 num)
  have e2 := obj_set e1 2 (.int .i64 ty)
  have e3 := obj_set e2 3 (.string sr)
  have e4 := obj_set e3 4 (.bool rep)
  have e5 := obj_set e4 5 (.bool loose)
  have e6 := obj_set e5 6 (.string so)
  have d0 := obj_cell e6 0
  have d1 := obj_cell e6 1
  have d2 := obj_cell e6 2
  have d3 := obj_cell e6 3
  have d4 := obj_cell e6 4
  have d5 := obj_cell e6 5
  have d6 := obj_cell e6 6
  refine bodyPost_ret (v := .agg #[.string sn, .int .i64 num, .int .i64 ty, .string sr, .bool rep, .bool loose, .string so]) ?_ rfl ⟨rfl, ?_⟩
  · have hres : Tryz.f82.results = #[.cell 2 39] := by kernel_rfl
    simp only [results, hres]
    go_simp
  · exact (((((((HBX.out.b2_bel.setCell (p := ⟨w.heap.size + 1, 0, none⟩) (Nat.le_succ _) _).setCell (p := ⟨w.heap.size + 1, 1, none⟩) (Nat.le_succ _) _).setCell (p := ⟨w.heap.size + 1, 2, none⟩) (Nat.le_succ _) _).setCell (p := ⟨w.heap.size + 1, 3, none⟩) (Nat.le_succ _) _).setCell (p := ⟨w.heap.size + 1, 4, none⟩) (Nat.le_succ _) _).setCell (p := ⟨w.heap.size + 1, 5, none⟩) (Nat.le_succ _) _).setCell (p := ⟨w.heap.size + 1, 6, none⟩) (Nat.le_succ _) _)

set_option maxHeartbeats 4000000 in
theorem gac_vl {S : Nat → Prop} (w : World) {A : Option Addr} {cap n : Nat} {l : List Vl} (h : Lst 2 S vlR w A cap l) (hn : n = l.length) (hm : n ≤ 1000) (hok : ∀ x ∈ l, x.name.length ≤ 1000000) :
    Calls Tryz.prog 79 #[.slice A n cap, .func (.func 80) #[] #[]] w fun e w' => ∃ A' cap', e = .returned (.slice A' n cap') ∧ Lst 2 (Typed w.heap.size w' 0) vlR w' A' cap' l ∧ Below w.heap.size w w' := by
  have q1 : n ≤ cap := by have := h.l_le; omega
  have q2 := h.l_max
  unfold maxLen at q2
  obtain ⟨iv, hv0, hv1, hv2, hv3⟩ := info_parts info_vl
  have H := Lib.hid h
  have HN := Lib.hid hn
  have HM := Lib.hid hm
  have HOK := Lib.hid hok
  have HI := Lib.hid (And.intro hv0 (And.intro hv1 (And.intro hv2 hv3)))
  clear h hn hm hok hv0 hv1 hv2 hv3
  go_enter Tryz.func79, Tryz.ntmps79
  go_wp2
  go_loopw [5, 7, 10] (fun v u x wr => ∃ i : Nat, x = .int .i64 (i : Int) ∧ i ≤ n ∧ wr.ownsRow w.heap.size 44 2 v (l.take i).length ((l.take i).flatMap vlCells) ∧ Below w.heap.size w wr) (fun v u x _ => n - (intOf x).toNat)
  case atStart => exact ⟨0, rfl, Nat.zero_le _, World.ownsRow_nil _ _ _ _, Below.refl _ _⟩
  case round =>
    obtain ⟨i, rfl, hi, hown, hbel⟩ := hrel
    have HOWN := Lib.hid hown
    have hb0 := Lib.hid hbel
    clear hown hbel
    by_cases hlt : i < n
    · have g1 : decide ((i : Int) < (n : Int)) = true := decide_eq_true (by omega)
      obtain ⟨x, hx⟩ : ∃ x, l[i]? = some x := ⟨_, List.getElem?_eq_getElem (by have := HN.out; omega)⟩
      have HTK : Hid (l.take (i + 1) = l.take i ++ [x]) := Lib.hid (split_take hx)
      have HLN : Hid ((l.take i).length ≤ 1000) := Lib.hid (by have := HM.out; rw [List.length_take]; omega)
      have HONE : Hid (∀ u ∈ vlCells x, u.oneCell' = true) := Lib.hid (vl_one x)
      have HCE := Lib.hid (show vlCells x = [.string (strOf x.name), .int .i64 x.num] from rfl)
      obtain ⟨ge, oe, rfl, _, hc⟩ := vl_at H.out hx
      have HCK := Lib.hid (scopy_vl x (HOK.out x (List.mem_of_getElem? hx)))
      obtain ⟨s0, hs0⟩ : ∃ s0, s0 = strOf x.name := ⟨_, rfl⟩
      obtain ⟨z1, hz1⟩ : ∃ z1, z1 = x.num := ⟨_, rfl⟩
      rw [← hs0, ← hz1] at hc HCK
      have HS0 := Lib.hid (And.intro hs0 hz1)
      obtain ⟨c0, c1⟩ := hc _ hb0.out
      clear hx hc hs0 hz1
      go_wp2_with (first
        | (go_at_call 80; refine (HCK.out _).mono ?_; rintro e w2 ⟨rfl, hb⟩; have HO2 := Lib.hid (own_below (own_below HOWN.out ((Below.refl _ _).alloc (Nat.le_refl _) _)) hb); have HB2 := Lib.hid ((hb0.out.alloc hb0.out.size _).trans (hb.mono (hb0.out.alloc hb0.out.size _).size)); clear hb)
        | (at_builtin; refine wpList_append_x rfl _ _ rfl rfl rfl (run_append_own2 (base := w.heap.size) _ _ _ _ iv _ 2 24 Tryz.underlying40 HI.out.1 HI.out.2.1 HI.out.2.2.1 HI.out.2.2.2 rfl (by decide) _ _ _ (own_below HO2.out ((Below.refl _ _).alloc (Nat.le_refl _) _)) ⟨w2.heap.size, 0, none⟩ 1 1 (vlCells x) rfl (fun j u hu => news_at w2 #[.string s0, .int .i64 z1] 44 j u (by rw [HS0.out.1, HS0.out.2]; exact hu)) HONE.out (by have := HLN.out; unfold maxLen; omega) (by have := HLN.out; omega) (by have := HB2.out.size; simp; omega)) ?_; rintro va2 w3 ⟨ho, hg, -⟩; have HOA := Lib.hid ho; have HBA := Lib.hid ((HB2.out.alloc HB2.out.size _).grown hg (by have := HB2.out.size; simp; omega) (fun k hk => (HO2.out.lt k hk).1)); clear ho hg))
      go_roundw
      case rel => exact ⟨i + 1, by go_num, by omega, (by rw [HTK.out, List.length_append, List.flatMap_append, List.flatMap_cons, List.flatMap_nil, List.append_nil]; exact HOA.out), HBA.out⟩
      case measure => simp [intOf]; omega
    · have g1 : decide ((i : Int) < (n : Int)) = false := decide_eq_false (by omega)
      have HF : Hid (l.take i = l) := Lib.hid (List.take_of_length_le (by have := HN.out; omega))
      have ho := HOWN.out
      rw [HF.out] at ho
      obtain ⟨_, Al, capl, hvl, hsl⟩ := lst_own_typed (k := 2) (f := vlCells) (R := vlR) (by decide) (fun _ => rfl) (fun x _ => rfl) ho
      rw [← HN.out] at hvl
      subst hvl
      have HSL := Lib.hid hsl
      clear ho hsl
      go_wp2
      go_ret
      exact ⟨Al, capl, rfl, HSL.out, hb0.out⟩

set_option maxHeartbeats 4000000 in
theorem gac_fd {S : Nat → Prop} (w : World) {A : Option Addr} {cap n : Nat} {l : List Fd} (h : Lst 7 S fdR w A cap l) (hn : n = l.length) (hm : n ≤ 1000) (hok : ∀ x ∈ l, x.name.length ≤ 1000000 ∧ x.ref.length ≤ 1000000 ∧ x.one.length ≤ 1000000) :
    Calls Tryz.prog 81 #[.slice A n cap, .func (.func 82) #[] #[]] w fun e w' => ∃ A' cap', e = .returned (.slice A' n cap') ∧ Lst 7 (Typed w.heap.size w' 1) fdR w' A' cap' l ∧ Below w.heap.size w w' := by
  have q1 : n ≤ cap := by have := h.l_le; omega
  have q2 := h.l_max
  unfold maxLen at q2
  obtain ⟨iv, hv0, hv1, hv2, hv3⟩ := info_parts info_fd
  have H := Lib.hid h
  have HN := Lib.hid hn
  have HM := Lib.hid hm
  have HOK := Lib.hid hok
  have HI := Lib.hid (And.intro hv0 (And.intro hv1 (And.intro hv2 hv3)))
  clear h hn hm hok hv0 hv1 hv2 hv3
  go_enter Tryz.func81, Tryz.ntmps81
  go_wp2
  go_loopw [5, 7, 10] (fun v u x wr => ∃ i : Nat, x = .int .i64 (i : Int) ∧ i ≤ n ∧ wr.ownsRow w.heap.size 39 7 v (l.take i).length ((l.take i).flatMap fdCells) ∧ Below w.heap.size w wr) (fun v u x _ => n - (intOf x).toNat)
  case atStart => exact ⟨0, rfl, Nat.zero_le _, World.ownsRow_nil _ _ _ _, Below.refl _ _⟩
  case round =>
    obtain ⟨i, rfl, hi, hown, hbel⟩ := hrel
    have HOWN := Lib.hid hown
    have hb0 := Lib.hid hbel
    clear hown hbel
    by_cases hlt : i < n
    · have g1 : decide ((i : Int) < (n : Int)) = true := decide_eq_true (by omega)
      obtain ⟨x, hx⟩ : ∃ x, l[i]? = some x := ⟨_, List.getElem?_eq_getElem (by have := HN.out; omega)⟩
      have HTK : Hid (l.take (i + 1) = l.take i ++ [x]) := Lib.hid (split_take hx)
      have HLN : Hid ((l.take i).length ≤ 1000) := Lib.hid (by have := HM.out; rw [List.length_take]; omega)
      have HONE : Hid (∀ u ∈ fdCells x, u.oneCell' = true) := Lib.hid (fd_one x)
      have HCE := Lib.hid (show fdCells x = fdCells x from rfl)
      obtain ⟨ge, oe, rfl, _, hc⟩ := fd_at H.out hx
      have HCK := Lib.hid (scopy_fd x (HOK.out x (List.mem_of_getElem? hx)))
      unfold fdV at HCK
      obtain ⟨s0, hs0⟩ : ∃ s0, s0 = strOf x.name := ⟨_, rfl⟩
      obtain ⟨s3, hs3⟩ : ∃ s3, s3 = strOf x.ref := ⟨_, rfl⟩
      obtain ⟨s6, hs6⟩ : ∃ s6, s6 = strOf x.one := ⟨_, rfl⟩
      obtain ⟨z1, hz1⟩ : ∃ z1, z1 = x.num := ⟨_, rfl⟩
      obtain ⟨z2, hz2⟩ : ∃ z2, z2 = x.ty := ⟨_, rfl⟩
      obtain ⟨b4, hb4⟩ : ∃ b4, b4 = x.rep := ⟨_, rfl⟩
      obtain ⟨b5, hb5⟩ : ∃ b5, b5 = x.loose := ⟨_, rfl⟩
      rw [← hs0, ← hs3, ← hs6, ← hz1, ← hz2, ← hb4, ← hb5] at hc HCK
      have HS0 := Lib.hid (And.intro hs0 (And.intro hs3 (And.intro hs6 (And.intro hz1 (And.intro hz2 (And.intro hb4 hb5))))))
      obtain ⟨c0, c1, c2, c3, c4, c5, c6⟩ := hc _ hb0.out
      clear hx hc hs0 hs3 hs6 hz1 hz2 hb4 hb5
      go_wp2_with (first
        | (go_at_call 82; refine (HCK.out _).mono ?_; rintro e w2 ⟨rfl, hb⟩; have HO2 := Lib.hid (own_below (own_below HOWN.out ((Below.refl _ _).alloc (Nat.le_refl _) _)) hb); have HB2 := Lib.hid ((hb0.out.alloc hb0.out.size _).trans (hb.mono (hb0.out.alloc hb0.out.size _).size)); clear hb)
        | (at_builtin; refine wpList_append_x rfl _ _ rfl rfl rfl (run_append_own2 (base := w.heap.size) _ _ _ _ iv _ 7 72 Tryz.underlying34 HI.out.1 HI.out.2.1 HI.out.2.2.1 HI.out.2.2.2 rfl (by decide) _ _ _ (own_below HO2.out ((Below.refl _ _).alloc (Nat.le_refl _) _)) ⟨w2.heap.size, 0, none⟩ 1 1 (fdCells x) rfl (fun j u hu => news_at w2 #[.string s0, .int .i64 z1, .int .i64 z2, .string s3, .bool b4, .bool b5, .string s6] 39 j u (by rw [HS0.out.1, HS0.out.2.1, HS0.out.2.2.1, HS0.out.2.2.2.1, HS0.out.2.2.2.2.1, HS0.out.2.2.2.2.2.1, HS0.out.2.2.2.2.2.2]; exact hu)) HONE.out (by have := HLN.out; unfold maxLen; omega) (by have := HLN.out; omega) (by have := HB2.out.size; simp; omega)) ?_; rintro va2 w3 ⟨ho, hg, -⟩; have HOA := Lib.hid ho; have HBA := Lib.hid ((HB2.out.alloc HB2.out.size _).grown hg (by have := HB2.out.size; simp; omega) (fun k hk => (HO2.out.lt k hk).1)); clear ho hg))
      go_roundw
      case rel => exact ⟨i + 1, by go_num, by omega, (by rw [HTK.out, List.length_append, List.flatMap_append, List.flatMap_cons, List.flatMap_nil, List.append_nil]; exact HOA.out), HBA.out⟩
      case measure => simp [intOf]; omega
    · have g1 : decide ((i : Int) < (n : Int)) = false := decide_eq_false (by omega)
      have HF : Hid (l.take i = l) := Lib.hid (List.take_of_length_le (by have := HN.out; omega))
      have ho := HOWN.out
      rw [HF.out] at ho
      obtain ⟨_, Al, capl, hvl, hsl⟩ := lst_own_typed (k := 7) (f := fdCells) (R := fdR) (by decide) (fun _ => rfl) (fun x _ => rfl) ho
      rw [← HN.out] at hvl
      subst hvl
      have HSL := Lib.hid hsl
      clear ho hsl
      go_wp2
      go_ret
      exact ⟨Al, capl, rfl, HSL.out, hb0.out⟩
end Go.Proofs.YtpbhokmpbcmdcaaGreatDoor

/- The program's Copy of a schema. Conditions: those that each theorem names. -/
namespace Go.Proofs.YtpbhokmpbcmdcaaGreatDoor
open Go.RowKit
set_option linter.unusedVariables false
set_option maxRecDepth 100000

theorem typed_bel {base k g : Nat} {w w' : World} (hb : Below w.heap.size w w') (h : Typed base w k g) : Typed base w' k g := by
  obtain ⟨h1, cs, h2⟩ := h
  exact ⟨h1, cs, (hb.block g (lt_of_block h2)).trans h2⟩
theorem typed_less {b base k g : Nat} {w : World} (hb : b ≤ base) (h : Typed base w k g) : Typed b w k g := ⟨Nat.le_trans hb h.1, h.2⟩
theorem typed_lst {α : Type} {kk k base b : Nat} {R : World → List Value → α → Prop} {w w' : World} {A : Option Addr} {c : Nat} {l : List α} (h : Lst kk (Typed base w k) R w A c l) (hb : Below w.heap.size w w') (hl : b ≤ base) (hR : ∀ cs x, R w cs x → R w' cs x) : Lst kk (Typed b w' k) R w' A c l :=
  lst_keep h hR (fun g hg => typed_less hl (typed_bel hb hg)) (bel_keep hb)
theorem typed_set {α : Type} {kk k base j : Nat} {R : World → List Value → α → Prop} {w : World} {A : Option Addr} {c b : Nat} {l : List α} {cs : Array Value} {t : TypeId} {u : Value} (h : Lst kk (Typed base w k) R w A c l) (hb : w.heap[b]? = some (.cells cs t (0, 0))) (hne : t ≠ tyK k) (hR : ∀ ds x, R w ds x → R (w.setCell ⟨b, j, none⟩ u) ds x) : Lst kk (Typed base (w.setCell ⟨b, j, none⟩ u) k) R (w.setCell ⟨b, j, none⟩ u) A c l := by
  have hk : ∀ g, Typed base w k g → (w.setCell ⟨b, j, none⟩ u).heap[g]? = w.heap[g]? := fun g ⟨_, ds, hg⟩ => Below.heap_setCell w ⟨b, j, none⟩ u g (fun e => by
    have e' : g = b := e
    subst e'
    rw [hb] at hg
    injection hg with hg
    injection hg with e1 e2
    exact hne e2)
  exact lst_keep h hR (fun g hg => ⟨hg.1, hg.2.imp fun ds e => (hk g hg).trans e⟩) (fun p hp _ => World.cell?_of_block (hk p.block hp))
theorem scAt_weak {base b : Nat} {w : World} {A A2 : Option Addr} {n cap n2 cap2 : Nat} {s : Sc} (h : ScAt (Typed base w) w A n cap A2 n2 cap2 s) (hb : b ≤ base) : ScAt (fun _ g => b ≤ g) w A n cap A2 n2 cap2 s :=
  ⟨lst_keep h.s_e (enR_keep (fun _ g hg => Nat.le_trans hb hg.1) (fun _ _ _ _ => rfl)) (fun g hg => Nat.le_trans hb hg.1) (fun _ _ _ => rfl), lst_keep h.s_m (msR_keep (fun _ g hg => Nat.le_trans hb hg.1) (fun _ _ _ _ => rfl)) (fun g hg => Nat.le_trans hb hg.1) (fun _ _ _ => rfl), h.s_ne, h.s_nm⟩
theorem en_bel {base b : Nat} {w w' : World} {A : Option Addr} {c : Nat} {l : List En} (h : Lst 2 (Typed base w 3) (enR (Typed base w)) w A c l) (hb : Below w.heap.size w w') (hl : b ≤ base) : Lst 2 (Typed b w' 3) (enR (Typed b w')) w' A c l :=
  lst_keep h (enR_keep (fun k g hg => typed_less hl (typed_bel hb hg)) (fun _ => bel_keep hb)) (fun g hg => typed_less hl (typed_bel hb hg)) (bel_keep hb)
theorem ms_bel {base b : Nat} {w w' : World} {A : Option Addr} {c : Nat} {l : List Ms} (h : Lst 3 (Typed base w 4) (msR (Typed base w)) w A c l) (hb : Below w.heap.size w w') (hl : b ≤ base) : Lst 3 (Typed b w' 4) (msR (Typed b w')) w' A c l :=
  lst_keep h (msR_keep (fun k g hg => typed_less hl (typed_bel hb hg)) (fun _ => bel_keep hb)) (fun g hg => typed_less hl (typed_bel hb hg)) (bel_keep hb)
theorem small_names {s : Sc} (h : smallT s = true) : (∀ e ∈ s.enums, e.name.length ≤ 1000000 ∧ ∀ v ∈ e.values, v.name.length ≤ 1000000) ∧ ∀ m ∈ s.msgs, m.name.length ≤ 1000000 ∧ ∀ f ∈ m.fields, f.name.length ≤ 1000000 ∧ f.ref.length ≤ 1000000 ∧ f.one.length ≤ 1000000 := by
  unfold smallT at h
  simp only [Bool.and_eq_true, decide_eq_true_iff, Bool.not_eq_true', List.any_eq_false] at h
  obtain ⟨hw, hE, hM⟩ := h
  unfold weigh at hw
  refine ⟨fun e he => ⟨?_, fun v hv => ?_⟩, fun m hm => ⟨?_, fun f hf => ?_⟩⟩
  · have := sum_mem (f := weighE) he
    unfold weighE at this hw
    omega
  · have h1 := hE e he
    unfold longE at h1
    simp only [List.any_eq_true, not_exists, not_and] at h1
    have := h1 v hv
    unfold longV at this
    simp at this
    omega
  · have := sum_mem (f := weighM) hm
    unfold weighM at this hw
    omega
  · have h1 := hM m hm
    unfold longM at h1
    simp only [List.any_eq_true, not_exists, not_and] at h1
    have := h1 f hf
    unfold longF at this
    simp at this
    omega

set_option maxHeartbeats 8000000 in
theorem scopy_en {S : Nat → Prop} {x : En} {A : Option Addr} {nv c : Nat} (w : World) (h : Lst 2 S vlR w A c x.values) (hn : nv = x.values.length) (hm : nv ≤ 1000) (hx : x.name.length ≤ 1000000) (hok : ∀ v ∈ x.values, v.name.length ≤ 1000000) (sn : ByteArray) (hsn : sn = strOf x.name) :
    Calls Tryz.prog 33 #[.agg #[.string sn, .slice A nv c]] w fun e w' => ∃ A' c', e = .returned (.agg #[.string sn, .slice A' nv c']) ∧ Lst 2 (Typed w.heap.size w' 0) vlR w' A' c' x.values ∧ Below w.heap.size w w' := by
  have HC := Lib.hid (fun u => sclone_any sn u (by rw [hsn, str_size]; exact hx))
  have HG := Lib.hid (fun u (hb : Below w.heap.size w u) => gac_vl u (lst_keep h vlR_keep (fun _ h => h) (bel_keep hb)) hn hm hok)
  have q1 : nv ≤ c := by have := h.l_le; omega
  have q2 := h.l_max
  unfold maxLen at q2
  have HBX0 := Lib.hid (bx2_start w #[.string sn, .slice A nv c] #[.string ⟨#[]⟩, .slice none 0 0] 42 42)
  have HBX := Lib.hid (bx2_drew1 HBX0.out)
  have r0 := obj_cell (HBX0.out).b2_one 0
  have r1 := obj_cell (HBX0.out).b2_one 1
  have HK : Hid (∀ u : World, u.heap[w.heap.size]? = some (.cells #[.string sn, .slice A nv c] 42 (0, 0)) → u.cell? ⟨w.heap.size, 0, none⟩ = some (.string sn) ∧ u.cell? ⟨w.heap.size, 1, none⟩ = some (.slice A nv c)) := Lib.hid (fun u hb => ⟨obj_cell hb 0, obj_cell hb 1⟩)
  clear h hn hx hok hsn
  go_enter Tryz.func33, Tryz.ntmps33
  go_wp2
  go_region_held3 (fun w' => w'.cell? ⟨w.heap.size, 0, none⟩ = some (.string sn) ∧ w'.cell? ⟨w.heap.size, 1, none⟩ = some (.slice A nv c))
    (first | exact HK.out _ HBX.out.b2_one | exact HK.out _ (set_else (set_else HBX.out.b2_one (by show w.heap.size ≠ w.heap.size + 1; omega)) (by show w.heap.size ≠ w.heap.size + 1; omega)))
    (first
      | (go_at_call 78; refine (HC.out _).mono ?_; rintro e w2 ⟨rfl, hb⟩; replace HBX := Lib.hid (bx2_step HBX.out hb); clear hb)
      | (go_at_call 79; refine (HG.out _ HBX.out.b2_bel).mono ?_; rintro e w3 ⟨A5, c5, rfl, hl, hb⟩; have HF := Lib.hid (typed_lst hl (Below.refl _ _) HBX.out.b2_bel.size (fun _ _ h => h)); replace HBX := Lib.hid (bx2_step HBX.out hb); have z0 := obj_cell (HBX.out).b2_two 0; have z1 := obj_cell (HBX.out).b2_two 1; have y0 := obj_free (HBX.out).b2_two 0; have y1 := obj_free (HBX.out).b2_two 1; clear hl hb))
  go_wp2
  have e0 := obj_set HBX.out.b2_two 0 (.string sn)
  have e1 := obj_set e0 1 (.slice A5 nv c5)
  have d0 := obj_cell e1 0
  have d1 := obj_cell e1 1
  refine bodyPost_ret (v := .agg #[.string sn, .slice A5 nv c5]) ?_ rfl ⟨A5, c5, rfl, ?_, ?_⟩
  · have hres : Tryz.f33.results = #[.cell 2 42] := by kernel_rfl
    simp only [results, hres]
    go_simp
  · exact typed_set (typed_set HF.out HBX.out.b2_two (by decide) vlR_keep) e0 (by decide) vlR_keep
  · exact (HBX.out.b2_bel.setCell (p := ⟨w.heap.size + 1, 0, none⟩) (Nat.le_succ _) _).setCell (p := ⟨w.heap.size + 1, 1, none⟩) (Nat.le_succ _) _

set_option maxHeartbeats 16000000 in
theorem scopy_ms {S S2 : Nat → Prop} {x : Ms} {A A2 : Option Addr} {nf c nb c2 : Nat} (w : World) (h : Lst 7 S fdR w A c x.fields) (h2 : Lst 1 S2 inR w A2 c2 x.barred) (hn : nf = x.fields.length) (hn2 : nb = x.barred.length) (hm : nf ≤ 1000) (hm2 : nb ≤ 1000) (hx : x.name.length ≤ 1000000) (hok : ∀ f ∈ x.fields, f.name.length ≤ 1000000 ∧ f.ref.length ≤ 1000000 ∧ f.one.length ≤ 1000000) (sn : ByteArray) (hsn : sn = strOf x.name) :
    Calls Tryz.prog 35 #[.agg #[.string sn, .slice A nf c, .slice A2 nb c2]] w fun e w' => ∃ A' c' A3 c3, e = .returned (.agg #[.string sn, .slice A' nf c', .slice A3 nb c3]) ∧ Lst 7 (Typed w.heap.size w' 1) fdR w' A' c' x.fields ∧ Lst 1 (Typed w.heap.size w' 2) inR w' A3 c3 x.barred ∧ Below w.heap.size w w' := by
  obtain ⟨ii, hi0, hi1, hi2, hi3⟩ := info_parts info_in
  have HC := Lib.hid (fun u => sclone_any sn u (by rw [hsn, str_size]; exact hx))
  have HG := Lib.hid (fun u (hb : Below w.heap.size w u) => gac_fd u (lst_keep h fdR_keep (fun _ h => h) (bel_keep hb)) hn hm hok)
  have HA := Lib.hid (fun u (hb : Below w.heap.size w u) => run_append_lst (P := Tryz.prog) (w := u) (k := 1) (bytes := 8) (base := w.heap.size) (n := 0) (xs := []) (l := x.barred) (f := inCells) 35 Tryz.underlying35 hi0 hi1 hi2 hi3 rfl (by decide) (fun _ => rfl) (fun y => in_one y) (World.ownsRow_nil _ _ _ _) (lst_keep h2 inR_keep (fun _ h => h) (bel_keep hb)) (fun _ _ h => h) hn2 (by unfold maxLen; omega) (by omega) hb.size)
  have q1 : nf ≤ c := by have := h.l_le; omega
  have q2 := h.l_max
  have q3 : nb ≤ c2 := by have := h2.l_le; omega
  have q4 := h2.l_max
  unfold maxLen at q2 q4
  have HBX0 := Lib.hid (bx2_start w #[.string sn, .slice A nf c, .slice A2 nb c2] #[.string ⟨#[]⟩, .slice none 0 0, .slice none 0 0] 37 37)
  have HBX := Lib.hid (bx2_drew1 HBX0.out)
  have r0 := obj_cell (HBX0.out).b2_one 0
  have r1 := obj_cell (HBX0.out).b2_one 1
  have r2 := obj_cell (HBX0.out).b2_one 2
  have HNB := Lib.hid hn2
  have HK : Hid (∀ u : World, u.heap[w.heap.size]? = some (.cells #[.string sn, .slice A nf c, .slice A2 nb c2] 37 (0, 0)) → u.cell? ⟨w.heap.size, 0, none⟩ = some (.string sn) ∧ u.cell? ⟨w.heap.size, 1, none⟩ = some (.slice A nf c) ∧ u.cell? ⟨w.heap.size, 2, none⟩ = some (.slice A2 nb c2)) := Lib.hid (fun u hb => ⟨obj_cell hb 0, obj_cell hb 1, obj_cell hb 2⟩)
  clear h h2 hn hn2 hx hok hsn
  go_enter Tryz.func35, Tryz.ntmps35
  go_wp2
  go_region_held3 (fun w' => w'.cell? ⟨w.heap.size, 0, none⟩ = some (.string sn) ∧ w'.cell? ⟨w.heap.size, 1, none⟩ = some (.slice A nf c) ∧ w'.cell? ⟨w.heap.size, 2, none⟩ = some (.slice A2 nb c2))
    (first | exact HK.out _ HBX.out.b2_one | exact HK.out _ (set_else (set_else (set_else HBX.out.b2_one (by show w.heap.size ≠ w.heap.size + 1; omega)) (by show w.heap.size ≠ w.heap.size + 1; omega)) (by show w.heap.size ≠ w.heap.size + 1; omega)))
    (first
      | (go_at_call 78; refine (HC.out _).mono ?_; rintro e w2 ⟨rfl, hb⟩; replace HBX := Lib.hid (bx2_step HBX.out hb); (try replace HI := Lib.hid (typed_lst HI.out hb (Nat.le_refl _) inR_keep)); clear hb)
      | (go_at_call 81; refine (HG.out _ HBX.out.b2_bel).mono ?_; rintro e w3 ⟨A5, c5, rfl, hl, hb⟩; have HF := Lib.hid (typed_lst hl (Below.refl _ _) HBX.out.b2_bel.size (fun _ _ h => h)); replace HBX := Lib.hid (bx2_step HBX.out hb); (try replace HI := Lib.hid (typed_lst HI.out hb (Nat.le_refl _) inR_keep)); have z0 := obj_cell (HBX.out).b2_two 0; have z1 := obj_cell (HBX.out).b2_two 1; have z2 := obj_cell (HBX.out).b2_two 2; have y0 := obj_free (HBX.out).b2_two 0; have y1 := obj_free (HBX.out).b2_two 1; have y2 := obj_free (HBX.out).b2_two 2; clear hl hb)
      | (refine step_append_run (by rfl) _ _ (by rfl) (by rfl) (by rfl) (HA.out _ HBX.out.b2_bel) ?_; rintro v1 u1 ⟨ho, hg, -⟩; rw [List.nil_append, Nat.zero_add, HNB.out] at ho; obtain ⟨_, A6, c6, hv1, hl6⟩ := lst_own_typed (k := 1) (f := inCells) (R := inR) (by decide) (fun _ => rfl) (fun x _ => rfl) ho; rw [← HNB.out] at hv1; subst hv1; have hb := (Below.refl _ _).grown hg (Nat.le_refl _) (fun k e => by cases e); have HI := Lib.hid hl6; replace HBX := Lib.hid (bx2_step HBX.out hb); (try replace HF := Lib.hid (typed_lst HF.out hb (Nat.le_refl _) fdR_keep)); have z0 := obj_cell (HBX.out).b2_two 0; have z1 := obj_cell (HBX.out).b2_two 1; have z2 := obj_cell (HBX.out).b2_two 2; have y0 := obj_free (HBX.out).b2_two 0; have y1 := obj_free (HBX.out).b2_two 1; have y2 := obj_free (HBX.out).b2_two 2; clear ho hg hb hl6))
  all_goals
    go_wp2
    have e0 := obj_set HBX.out.b2_two 0 (.string sn)
    have e1 := obj_set e0 1 (.slice A5 nf c5)
    have e2 := obj_set e1 2 (.slice A6 nb c6)
    have d0 := obj_cell e2 0
    have d1 := obj_cell e2 1
    have d2 := obj_cell e2 2
    refine bodyPost_ret (v := .agg #[.string sn, .slice A5 nf c5, .slice A6 nb c6]) ?_ rfl ⟨A5, c5, A6, c6, rfl, ?_, ?_, ?_⟩
    · have hres : Tryz.f35.results = #[.cell 2 37] := by kernel_rfl
      simp only [results, hres]
      go_simp
    · exact typed_set (typed_set (typed_set HF.out HBX.out.b2_two (by decide) fdR_keep) e0 (by decide) fdR_keep) e1 (by decide) fdR_keep
    · exact typed_set (typed_set (typed_set HI.out HBX.out.b2_two (by decide) inR_keep) e0 (by decide) inR_keep) e1 (by decide) inR_keep
    · exact ((HBX.out.b2_bel.setCell (p := ⟨w.heap.size + 1, 0, none⟩) (Nat.le_succ _) _).setCell (p := ⟨w.heap.size + 1, 1, none⟩) (Nat.le_succ _) _).setCell (p := ⟨w.heap.size + 1, 2, none⟩) (Nat.le_succ _) _
theorem box_up2 (w : World) (o : Obj) : Below w.heap.size w (w.alloc o) := (Below.refl _ w).alloc (Nat.le_refl _) _
theorem bel_up {a b c : World} (h : Below a.heap.size a b) (k : Below b.heap.size b c) : Below a.heap.size a c := h.trans (k.mono h.size)

set_option maxHeartbeats 8000000 in
theorem gac_en {S : Nat → Nat → Prop} (w : World) {A : Option Addr} {cap n : Nat} {l : List En} (h : Lst 2 (S 3) (enR S) w A cap l) (hn : n = l.length) (hm : n ≤ 1000) (hok : ∀ x ∈ l, x.name.length ≤ 1000000 ∧ (∀ v ∈ x.values, v.name.length ≤ 1000000) ∧ x.values.length ≤ 1000) :
    Calls Tryz.prog 32 #[.slice A n cap, .func (.func 33) #[] #[]] w fun e w' => ∃ A' cap', e = .returned (.slice A' n cap') ∧ Lst 2 (Typed w.heap.size w' 3) (enR (Typed w.heap.size w')) w' A' cap' l ∧ Below w.heap.size w w' := by
  have q1 : n ≤ cap := by have := h.l_le; omega
  have q2 := h.l_max
  unfold maxLen at q2
  obtain ⟨iv, hv0, hv1, hv2, hv3⟩ := info_parts info_en
  have H := Lib.hid h
  have HN := Lib.hid hn
  have HM := Lib.hid hm
  have HOK := Lib.hid hok
  have HI := Lib.hid (And.intro hv0 (And.intro hv1 (And.intro hv2 hv3)))
  clear h hn hm hok hv0 hv1 hv2 hv3
  go_enter Tryz.func32, Tryz.ntmps32
  go_wp2
  go_loopw [5, 7, 10] (fun v u x wr => ∃ (i : Nat) (es : List CE), x = .int .i64 (i : Int) ∧ i ≤ n ∧ es.map CE.ce_e = l.take i ∧ es.length ≤ 1000 ∧ wr.ownsRow w.heap.size 42 2 v es.length (es.flatMap ceCells) ∧ (∀ y ∈ es, Lst 2 (Typed w.heap.size wr 0) vlR wr y.ce_a y.ce_c y.ce_e.values) ∧ Below w.heap.size w wr) (fun v u x _ => n - (intOf x).toNat)
  case atStart => exact ⟨0, [], rfl, Nat.zero_le _, rfl, by decide, World.ownsRow_nil _ _ _ _, by simp, Below.refl _ _⟩
  case round =>
    obtain ⟨i, es, rfl, hi, hes, hel, hown, hall, hbel⟩ := hrel
    have HOWN := Lib.hid hown
    have HES := Lib.hid hes
    have HEL := Lib.hid hel
    have HALL := Lib.hid hall
    have hb0 := Lib.hid hbel
    clear hown hbel hes hel hall
    by_cases hlt : i < n
    · have g1 : decide ((i : Int) < (n : Int)) = true := decide_eq_true (by omega)
      obtain ⟨x, hx⟩ : ∃ x, l[i]? = some x := ⟨_, List.getElem?_eq_getElem (by have := HN.out; omega)⟩
      have HTK : Hid (l.take (i + 1) = l.take i ++ [x]) := Lib.hid (split_take hx)
      have HLN : Hid (es.length + 1 ≤ 1000) := Lib.hid (by have h1 := congrArg List.length HES.out; have := HM.out; rw [List.length_map, List.length_take] at h1; omega)
      obtain ⟨ge, oe, A1, cap1, rfl, _, hc, hl⟩ := en_at H.out hx
      have hb1 := HOK.out x (List.mem_of_getElem? hx)
      obtain ⟨nv, hnv⟩ : ∃ nv, nv = x.values.length := ⟨_, rfl⟩
      obtain ⟨sn, hsn⟩ : ∃ sn, sn = strOf x.name := ⟨_, rfl⟩
      have HCK := Lib.hid (fun u (hb : Below w.heap.size w u) => scopy_en u (lst_keep hl vlR_keep (fun _ h => h) (bel_keep hb)) hnv (by rw [hnv]; exact hb1.2.2) hb1.1 hb1.2.1 sn hsn)
      rw [← hnv, ← hsn] at hc
      have HS0 := Lib.hid (And.intro hsn hnv)
      obtain ⟨c0, c1⟩ := hc _ hb0.out
      clear hx hc hl hsn hnv hb1
      go_wp2_with (first
        | (go_at_call 33; refine (HCK.out _ (hb0.out.alloc hb0.out.size _)).mono ?_; rintro e w2 ⟨A5, c5, rfl, hl5, hb⟩; have HF := Lib.hid (typed_lst hl5 (Below.refl _ _) (hb0.out.alloc hb0.out.size _).size vlR_keep); clear hl5; have HO2 := Lib.hid (own_below (own_below HOWN.out ((Below.refl _ _).alloc (Nat.le_refl _) _)) hb); have HR2 := Lib.hid (bel_up (box_up2 wr _) hb); have HB2 := Lib.hid ((hb0.out.alloc hb0.out.size _).trans (hb.mono (hb0.out.alloc hb0.out.size _).size)); clear hb)
        | (at_builtin; refine wpList_append_x rfl _ _ rfl rfl rfl (run_append_own2 (base := w.heap.size) _ _ _ _ iv _ 2 40 Tryz.underlying22 HI.out.1 HI.out.2.1 HI.out.2.2.1 HI.out.2.2.2 rfl (by decide) _ _ _ (own_below HO2.out ((Below.refl _ _).alloc (Nat.le_refl _) _)) ⟨w2.heap.size, 0, none⟩ 1 1 (ceCells ⟨x, A5, c5⟩) rfl (fun j u hu => news_at w2 #[.string sn, .slice A5 nv c5] 42 j u (by rw [HS0.out.1, HS0.out.2]; exact hu)) (by intro u hu; simp [ceCells] at hu; rcases hu with rfl | rfl <;> rfl) (by have := HLN.out; unfold maxLen; omega) (by have := HLN.out; omega) (by have := HB2.out.size; simp; omega)) ?_; rintro va2 w3 ⟨ho, hg, -⟩; have HOA := Lib.hid ho; have HGR := Lib.hid hg; have HBA := Lib.hid ((HB2.out.alloc HB2.out.size _).grown hg (by have := HB2.out.size; simp; omega) (fun k hk => (HO2.out.lt k hk).1)); clear ho hg))
      have HST : Hid (Stays w.heap.size (w2.alloc (.cells #[.string sn, .slice A5 nv c5] 42)) w3) := Lib.hid (stays_grown (own_below HO2.out (box_up2 w2 (.cells #[.string sn, .slice A5 nv c5] 42))) HGR.out (.inl rfl))
      have HST2 : Hid (Stays w.heap.size w2 w3) := Lib.hid (stays_trans (stays_below (box_up2 w2 _)) HST.out)
      go_roundw
      case rel => exact ⟨i + 1, es ++ [⟨x, A5, c5⟩], by go_num, by omega, (by rw [List.map_append, HES.out, HTK.out]; rfl), (by rw [List.length_append]; exact HLN.out), (by rw [List.length_append, List.flatMap_append, List.flatMap_cons, List.flatMap_nil, List.append_nil]; exact HOA.out), (by
        intro y hy
        rcases List.mem_append.mp hy with hy | hy
        · exact typed_keep (typed_keep (HALL.out y hy) (stays_below HR2.out) (by decide) vlR_keep) HST2.out (by decide) vlR_keep
        · obtain rfl := List.mem_singleton.mp hy
          exact typed_keep HF.out HST2.out (by decide) vlR_keep), HBA.out⟩
      case measure => simp [intOf]; omega
    · have g1 : decide ((i : Int) < (n : Int)) = false := decide_eq_false (by omega)
      have HF : Hid (es.map CE.ce_e = l) := Lib.hid (by rw [HES.out]; exact List.take_of_length_le (by have := HN.out; omega))
      obtain ⟨_, Al, capl, hvl, hsl⟩ := lst_own_typed (k := 2) (f := ceCells) (R := fun w0 cs (x : CE) => cs = ceCells x ∧ Lst 2 (Typed w.heap.size wr 0) vlR w0 x.ce_a x.ce_c x.ce_e.values) (by decide) (fun _ => rfl) (fun y hy => ⟨rfl, HALL.out y hy⟩) HOWN.out
      have hsl2 := lst_map (R' := enR (Typed w.heap.size wr)) CE.ce_e hsl (fun y _ cs ⟨e, hl⟩ => ⟨y.ce_a, y.ce_c, e, hl⟩)
      rw [HF.out] at hsl2
      rw [show es.length = n by rw [← List.length_map (f := CE.ce_e), HF.out, HN.out]] at hvl
      subst hvl
      have HSL := Lib.hid hsl2
      clear hsl hsl2
      go_wp2
      go_ret
      exact ⟨Al, capl, rfl, HSL.out, hb0.out⟩

set_option maxHeartbeats 8000000 in
theorem gac_ms {S : Nat → Nat → Prop} (w : World) {A : Option Addr} {cap n : Nat} {l : List Ms} (h : Lst 3 (S 4) (msR S) w A cap l) (hn : n = l.length) (hm : n ≤ 1000) (hok : ∀ x ∈ l, x.name.length ≤ 1000000 ∧ (∀ f ∈ x.fields, f.name.length ≤ 1000000 ∧ f.ref.length ≤ 1000000 ∧ f.one.length ≤ 1000000) ∧ x.fields.length ≤ 1000 ∧ x.barred.length ≤ 1000) :
    Calls Tryz.prog 34 #[.slice A n cap, .func (.func 35) #[] #[]] w fun e w' => ∃ A' cap', e = .returned (.slice A' n cap') ∧ Lst 3 (Typed w.heap.size w' 4) (msR (Typed w.heap.size w')) w' A' cap' l ∧ Below w.heap.size w w' := by
  have q1 : n ≤ cap := by have := h.l_le; omega
  have q2 := h.l_max
  unfold maxLen at q2
  obtain ⟨iv, hv0, hv1, hv2, hv3⟩ := info_parts info_ms
  have H := Lib.hid h
  have HN := Lib.hid hn
  have HM := Lib.hid hm
  have HOK := Lib.hid hok
  have HI := Lib.hid (And.intro hv0 (And.intro hv1 (And.intro hv2 hv3)))
  clear h hn hm hok hv0 hv1 hv2 hv3
  go_enter Tryz.func34, Tryz.ntmps34
  go_wp2
  go_loopw [5, 7, 10] (fun v u x wr => ∃ (i : Nat) (es : List CM), x = .int .i64 (i : Int) ∧ i ≤ n ∧ es.map CM.cm_m = l.take i ∧ es.length ≤ 1000 ∧ wr.ownsRow w.heap.size 37 3 v es.length (es.flatMap cmCells) ∧ (∀ y ∈ es, Lst 7 (Typed w.heap.size wr 1) fdR wr y.cm_a y.cm_c y.cm_m.fields ∧ Lst 1 (Typed w.heap.size wr 2) inR wr y.cm_b y.cm_d y.cm_m.barred) ∧ Below w.heap.size w wr) (fun v u x _ => n - (intOf x).toNat)
  case atStart => exact ⟨0, [], rfl, Nat.zero_le _, rfl, by decide, World.ownsRow_nil _ _ _ _, by simp, Below.refl _ _⟩
  case round =>
    obtain ⟨i, es, rfl, hi, hes, hel, hown, hall, hbel⟩ := hrel
    have HOWN := Lib.hid hown
    have HES := Lib.hid hes
    have HEL := Lib.hid hel
    have HALL := Lib.hid hall
    have hb0 := Lib.hid hbel
    clear hown hbel hes hel hall
    by_cases hlt : i < n
    · have g1 : decide ((i : Int) < (n : Int)) = true := decide_eq_true (by omega)
      obtain ⟨x, hx⟩ : ∃ x, l[i]? = some x := ⟨_, List.getElem?_eq_getElem (by have := HN.out; omega)⟩
      have HTK : Hid (l.take (i + 1) = l.take i ++ [x]) := Lib.hid (split_take hx)
      have HLN : Hid (es.length + 1 ≤ 1000) := Lib.hid (by have h1 := congrArg List.length HES.out; have := HM.out; rw [List.length_map, List.length_take] at h1; omega)
      obtain ⟨ge, oe, A1, cap1, A3, cap3, rfl, _, hc, hl, hl2⟩ := ms_at H.out hx
      have hb1 := HOK.out x (List.mem_of_getElem? hx)
      obtain ⟨nf, hnf⟩ : ∃ nf, nf = x.fields.length := ⟨_, rfl⟩
      obtain ⟨nb, hnb⟩ : ∃ nb, nb = x.barred.length := ⟨_, rfl⟩
      obtain ⟨sn, hsn⟩ : ∃ sn, sn = strOf x.name := ⟨_, rfl⟩
      have HCK := Lib.hid (fun u (hb : Below w.heap.size w u) => scopy_ms u (lst_keep hl fdR_keep (fun _ h => h) (bel_keep hb)) (lst_keep hl2 inR_keep (fun _ h => h) (bel_keep hb)) hnf hnb (by rw [hnf]; exact hb1.2.2.1) (by rw [hnb]; exact hb1.2.2.2) hb1.1 hb1.2.1 sn hsn)
      rw [← hnf, ← hnb, ← hsn] at hc
      have HS0 := Lib.hid (And.intro hsn (And.intro hnf hnb))
      obtain ⟨c0, c1, c2⟩ := hc _ hb0.out
      clear hx hc hl hl2 hsn hnf hnb hb1
      go_wp2_with (first
        | (go_at_call 35; refine (HCK.out _ (hb0.out.alloc hb0.out.size _)).mono ?_; rintro e w2 ⟨A5, c5, A6, c6, rfl, hl5, hl6, hb⟩; have HF := Lib.hid (typed_lst hl5 (Below.refl _ _) (hb0.out.alloc hb0.out.size _).size fdR_keep); have HF2 := Lib.hid (typed_lst hl6 (Below.refl _ _) (hb0.out.alloc hb0.out.size _).size inR_keep); clear hl5 hl6; have HO2 := Lib.hid (own_below (own_below HOWN.out ((Below.refl _ _).alloc (Nat.le_refl _) _)) hb); have HR2 := Lib.hid (bel_up (box_up2 wr _) hb); have HB2 := Lib.hid ((hb0.out.alloc hb0.out.size _).trans (hb.mono (hb0.out.alloc hb0.out.size _).size)); clear hb)
        | (at_builtin; refine wpList_append_x rfl _ _ rfl rfl rfl (run_append_own2 (base := w.heap.size) _ _ _ _ iv _ 3 64 Tryz.underlying23 HI.out.1 HI.out.2.1 HI.out.2.2.1 HI.out.2.2.2 rfl (by decide) _ _ _ (own_below HO2.out ((Below.refl _ _).alloc (Nat.le_refl _) _)) ⟨w2.heap.size, 0, none⟩ 1 1 (cmCells ⟨x, A5, c5, A6, c6⟩) rfl (fun j u hu => news_at w2 #[.string sn, .slice A5 nf c5, .slice A6 nb c6] 37 j u (by rw [HS0.out.1, HS0.out.2.1, HS0.out.2.2]; exact hu)) (by intro u hu; simp [cmCells] at hu; rcases hu with rfl | rfl | rfl <;> rfl) (by have := HLN.out; unfold maxLen; omega) (by have := HLN.out; omega) (by have := HB2.out.size; simp; omega)) ?_; rintro va2 w3 ⟨ho, hg, -⟩; have HOA := Lib.hid ho; have HGR := Lib.hid hg; have HBA := Lib.hid ((HB2.out.alloc HB2.out.size _).grown hg (by have := HB2.out.size; simp; omega) (fun k hk => (HO2.out.lt k hk).1)); clear ho hg))
      have HST : Hid (Stays w.heap.size (w2.alloc (.cells #[.string sn, .slice A5 nf c5, .slice A6 nb c6] 37)) w3) := Lib.hid (stays_grown (own_below HO2.out (box_up2 w2 (.cells #[.string sn, .slice A5 nf c5, .slice A6 nb c6] 37))) HGR.out (.inr rfl))
      have HST2 : Hid (Stays w.heap.size w2 w3) := Lib.hid (stays_trans (stays_below (box_up2 w2 _)) HST.out)
      go_roundw
      case rel => exact ⟨i + 1, es ++ [⟨x, A5, c5, A6, c6⟩], by go_num, by omega, (by rw [List.map_append, HES.out, HTK.out]; rfl), (by rw [List.length_append]; exact HLN.out), (by rw [List.length_append, List.flatMap_append, List.flatMap_cons, List.flatMap_nil, List.append_nil]; exact HOA.out), (by
        intro y hy
        rcases List.mem_append.mp hy with hy | hy
        · exact ⟨typed_keep (typed_keep (HALL.out y hy).1 (stays_below HR2.out) (by decide) fdR_keep) HST2.out (by decide) fdR_keep, typed_keep (typed_keep (HALL.out y hy).2 (stays_below HR2.out) (by decide) inR_keep) HST2.out (by decide) inR_keep⟩
        · obtain rfl := List.mem_singleton.mp hy
          exact ⟨typed_keep HF.out HST2.out (by decide) fdR_keep, typed_keep HF2.out HST2.out (by decide) inR_keep⟩), HBA.out⟩
      case measure => simp [intOf]; omega
    · have g1 : decide ((i : Int) < (n : Int)) = false := decide_eq_false (by omega)
      have HF : Hid (es.map CM.cm_m = l) := Lib.hid (by rw [HES.out]; exact List.take_of_length_le (by have := HN.out; omega))
      obtain ⟨_, Al, capl, hvl, hsl⟩ := lst_own_typed (k := 3) (f := cmCells) (R := fun w0 cs (x : CM) => cs = cmCells x ∧ Lst 7 (Typed w.heap.size wr 1) fdR w0 x.cm_a x.cm_c x.cm_m.fields ∧ Lst 1 (Typed w.heap.size wr 2) inR w0 x.cm_b x.cm_d x.cm_m.barred) (by decide) (fun _ => rfl) (fun y hy => ⟨rfl, HALL.out y hy⟩) HOWN.out
      have hsl2 := lst_map (R' := msR (Typed w.heap.size wr)) CM.cm_m hsl (fun y _ cs ⟨e, hl, hl2⟩ => ⟨y.cm_a, y.cm_c, y.cm_b, y.cm_d, e, hl, hl2⟩)
      rw [HF.out] at hsl2
      rw [show es.length = n by rw [← List.length_map (f := CM.cm_m), HF.out, HN.out]] at hvl
      subst hvl
      have HSL := Lib.hid hsl2
      clear hsl hsl2
      go_wp2
      go_ret
      exact ⟨Al, capl, rfl, HSL.out, hb0.out⟩
end Go.Proofs.YtpbhokmpbcmdcaaGreatDoor
