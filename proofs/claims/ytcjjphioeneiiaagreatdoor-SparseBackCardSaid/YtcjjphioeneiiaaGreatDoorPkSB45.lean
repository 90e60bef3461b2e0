/- Several texts in one: SxU, SxV, SxW. What each proves, and its conditions, stands at its own head. -/
import Derived.Test.YtcjjphioeneiiaaGreatDoorPkSB43
import Derived.Test.YtcjjphioeneiiaaGreatDoorPkSB16
import Derived.Test.YtcjjphioeneiiaaGreatDoorPkSB33
import Derived.Test.YtcjjphioeneiiaaGreatDoorPkSB15
/- The program's copies of a value and of a field, and of lists of them. Conditions: those that each theorem names. -/
namespace Go.Proofs.YtcjjphioeneiiaaGreatDoor
open Go.RowKit
set_option linter.unusedVariables false
set_option maxRecDepth 100000

/-- 'append' off what it answers. -/
theorem wpList_append_x {P : Program} {w : World} {ops : Array Oper} {rest : List Oper} {o : Oper} {a : Act} {Q : Exit → Act → World → Prop} {t : TypeId} {v y : Value} (hgd : o.guard = none) (s x : Operand)
 (ho : o.op = .call { callee := .builtin .append, args := #[s, x], argTypes := #[t, t] }) (hs : a.eval s = v) (hx : a.eval x = y) {X : Value → World → Prop}
 (hr : ∃ v' w', (Builtin.append_ #[t, t] o.type #[v, y]).run P w = .ok v' w' ∧ X v' w') (h : ∀ v' w', X v' w' → wpList P ops Q rest (a.put o.dst v') w') : wpList P ops Q (o :: rest) a w := by
 obtain ⟨v', w', hr, hX⟩ := hr
 exact Lib.wpList_append_run w hgd s x t t ho v y hs hx v' w' hr (h v' w' hX)

theorem set_else {X : World} {p : Addr} {k : Nat} {v : Value} {o : Obj} (h : X.heap[k]? = some o) (hne : k ≠ p.block) : (X.setCell p v).heap[k]? = some o := (Below.heap_setCell X p v k hne).trans h

theorem bx2_drew1 {w wr : World} {o p : Obj} (h : Bx2 w wr o p) : Bx2 w wr.drew o p := bx2_step h (drewN_under wr 1)
/-- What is written there again changes nothing. -/
theorem bx2_same {w wr : World} {cs : Array Value} {t : TypeId} {p : Obj} (h : Bx2 w wr (.cells cs t (0, 0)) p) (j : Nat) {v : Value} (hv : cs.setIfInBounds j v = cs) : Bx2 w (wr.setCell ⟨w.heap.size, j, none⟩ v) (.cells cs t (0, 0)) p :=
 ⟨h.b2_bel.setCell (p := ⟨w.heap.size, j, none⟩) (Nat.le_refl _) v, by have := obj_set h.b2_one j v; rw [hv] at this; exact this, set_else h.b2_two (by show w.heap.size + 1 ≠ w.heap.size; omega)⟩

set_option maxHeartbeats 4000000 in
theorem scopy_vl (x : Vl) (hx : x.name.length ≤ 1000000) (w : World) : Calls Tryz.prog 152 #[.agg #[.string (strOf x.name), .int .i64 x.num]] w fun e w' => e = .returned (.agg #[.string (strOf x.name), .int .i64 x.num]) ∧ Below w.heap.size w w' := by
 obtain ⟨name, num⟩ := x
 dsimp only at hx ⊢
 have HC := Lib.hid (fun u => sclone_any (strOf name) u (by rw [str_size]; exact hx))
 obtain ⟨sn, hsn⟩ : ∃ s, s = strOf name := ⟨_, rfl⟩
 rw [← hsn] at HC ⊢
 have HBX := Lib.hid (bx2_start w #[.string sn, .int .i64 num] #[.string ⟨#[]⟩, .int .i64 0] 67 67)
 have r0 := obj_cell (HBX.out).b2_one 0
 have r1 := obj_cell (HBX.out).b2_one 1
 clear hsn hx
 go_enter Tryz.func152, Tryz.ntmps152
 go_wp2_with (go_at_call 108; refine (HC.out _).mono ?_; rintro e w2 ⟨rfl, hb⟩; replace HBX := Lib.hid (bx2_step HBX.out hb); have r0 := obj_cell (HBX.out).b2_one 0; have r1 := obj_cell (HBX.out).b2_one 1; have f0 := obj_free (HBX.out).b2_one 0; have z0 := obj_cell (HBX.out).b2_two 0; have z1 := obj_cell (HBX.out).b2_two 1; have y0 := obj_free (HBX.out).b2_two 0; have y1 := obj_free (HBX.out).b2_two 1; have HM := Lib.hid (obj_set (HBX.out).b2_one 0 (.string sn)); have m0 := obj_cell HM.out 0; have m1 := obj_cell HM.out 1; clear hb)
 have e1 := set_else (p := ⟨w.heap.size, 0, none⟩) (v := .string sn) HBX.out.b2_two (by show w.heap.size + 1 ≠ w.heap.size; omega)
 have e2 := obj_set e1 0 (.string sn)
 have e3 := obj_set e2 1 (.int .i64 num)
 have d0 := obj_cell e3 0
 have d1 := obj_cell e3 1
 refine bodyPost_ret (v := .agg #[.string sn, .int .i64 num]) ?_ rfl ⟨rfl, ?_⟩
 ·have hres : Tryz.f152.results = #[.cell 2 67] := by kernel_rfl
  simp only [results, hres]
  go_simp
 ·exact ((HBX.out.b2_bel.setCell (p := ⟨w.heap.size, 0, none⟩) (Nat.le_refl _) _).setCell (p := ⟨w.heap.size + 1, 0, none⟩) (Nat.le_succ _) _).setCell (p := ⟨w.heap.size + 1, 1, none⟩) (Nat.le_succ _) _

set_option maxHeartbeats 8000000 in
theorem scopy_fd (x : Fd) (hx : x.name.length ≤ 1000000 ∧ x.ref.length ≤ 1000000 ∧ x.one.length ≤ 1000000) (w : World) : Calls Tryz.prog 154 #[fdV x] w fun e w' => e = .returned (fdV x) ∧ Below w.heap.size w w' := by
 obtain ⟨name, num, ty, ref, rep, loose, one⟩ := x
 unfold fdV
 dsimp only at hx ⊢
 have h1 : (strOf name).size ≤ 1000000 := by rw [str_size]; exact hx.1
 have h2 : (strOf ref).size ≤ 1000000 := by rw [str_size]; exact hx.2.1
 have h3 : (strOf one).size ≤ 1000000 := by rw [str_size]; exact hx.2.2
 obtain ⟨sn, hsn⟩ : ∃ s, s = strOf name := ⟨_, rfl⟩
 obtain ⟨sr, hsr⟩ : ∃ s, s = strOf ref := ⟨_, rfl⟩
 obtain ⟨so, hso⟩ : ∃ s, s = strOf one := ⟨_, rfl⟩
 rw [← hsn] at h1
 rw [← hsr] at h2
 rw [← hso] at h3
 rw [← hsn, ← hsr, ← hso]
 have H1 := Lib.hid h1
 have H2 := Lib.hid h2
 have H3 := Lib.hid h3
 have HBX0 := Lib.hid (bx2_start w #[.string sn, .int .i64 num, .int .i64 ty, .string sr, .bool rep, .bool loose, .string so] #[.string ⟨#[]⟩, .int .i64 0, .int .i64 0, .string ⟨#[]⟩, .bool false, .bool false, .string ⟨#[]⟩] 70 70)
 have HBX := Lib.hid (bx2_drew1 HBX0.out)
 have r0 := obj_cell (HBX0.out).b2_one 0
 have r3 := obj_cell (HBX0.out).b2_one 3
 have r6 := obj_cell (HBX0.out).b2_one 6
 have HK : Hid (∀ u, Bx2 w u (.cells #[.string sn, .int .i64 num, .int .i64 ty, .string sr, .bool rep, .bool loose, .string so] 70 (0, 0)) (.cells #[.string ⟨#[]⟩, .int .i64 0, .int .i64 0, .string ⟨#[]⟩, .bool false, .bool false, .string ⟨#[]⟩] 70 (0, 0)) → u.cell? ⟨w.heap.size, 0, none⟩ = some (.string sn) ∧ u.cell? ⟨w.heap.size, 3, none⟩ = some (.string sr) ∧ u.cell? ⟨w.heap.size, 6, none⟩ = some (.string so) ∧ u.frozen? ⟨w.heap.size, 0, none⟩ = false ∧ u.frozen? ⟨w.heap.size, 3, none⟩ = false ∧ u.frozen? ⟨w.heap.size, 6, none⟩ = false) := Lib.hid (fun u hb => ⟨obj_cell hb.b2_one 0, obj_cell hb.b2_one 3, obj_cell hb.b2_one 6, obj_free hb.b2_one 0, obj_free hb.b2_one 3, obj_free hb.b2_one 6⟩)
 clear hsn hsr hso h1 h2 h3 hx
 go_enter Tryz.func154, Tryz.ntmps154
 go_wp2
 go_region_held3 (fun w' => w'.cell? ⟨w.heap.size, 0, none⟩ = some (.string sn) ∧ w'.cell? ⟨w.heap.size, 3, none⟩ = some (.string sr) ∧ w'.cell? ⟨w.heap.size, 6, none⟩ = some (.string so) ∧ w'.frozen? ⟨w.heap.size, 0, none⟩ = false ∧ w'.frozen? ⟨w.heap.size, 3, none⟩ = false ∧ w'.frozen? ⟨w.heap.size, 6, none⟩ = false)
  (first | exact HK.out _ HBX.out | exact HK.out _ (bx2_same HBX.out 0 rfl) | exact HK.out _ (bx2_same (bx2_same HBX.out 0 rfl) 3 rfl) | exact HK.out _ (bx2_same (bx2_same (bx2_same HBX.out 0 rfl) 3 rfl) 6 rfl))
  (first
   | (go_at_call 108; refine (sclone_any _ _ (by first | exact H1.out | exact H2.out | exact H3.out)).mono ?_; rintro e w2 ⟨rfl, hb⟩; replace HBX := Lib.hid (bx2_step HBX.out hb); clear hb))
 replace HBX := Lib.hid (bx2_same (bx2_same (bx2_same HBX.out 0 (v := .string sn) rfl) 3 (v := .string sr) rfl) 6 (v := .string so) rfl)
 clear HK r0 r3 r6 HBX0
 obtain ⟨wz, hwz⟩ : ∃ wz, wz = (((w2.setCell ⟨w.heap.size, 0, none⟩ (.string sn)).setCell ⟨w.heap.size, 3, none⟩ (.string sr)).setCell ⟨w.heap.size, 6, none⟩ (.string so)) := ⟨_, rfl⟩
 rw [← hwz] at HBX ⊢
 clear hwz
 have p0 := obj_cell HBX.out.b2_one 0
 have z0 := obj_cell HBX.out.b2_two 0
 have y0 := obj_free HBX.out.b2_two 0
 have p1 := obj_cell HBX.out.b2_one 1
 have z1 := obj_cell HBX.out.b2_two 1
 have y1 := obj_free HBX.out.b2_two 1
 have p2 := obj_cell HBX.out.b2_one 2
 have z2 := obj_cell HBX.out.b2_two 2
 have y2 := obj_free HBX.out.b2_two 2
 have p3 := obj_cell HBX.out.b2_one 3
 have z3 := obj_cell HBX.out.b2_two 3
 have y3 := obj_free HBX.out.b2_two 3
 have p4 := obj_cell HBX.out.b2_one 4
 have z4 := obj_cell HBX.out.b2_two 4
 have y4 := obj_free HBX.out.b2_two 4
 have p5 := obj_cell HBX.out.b2_one 5
 have z5 := obj_cell HBX.out.b2_two 5
 have y5 := obj_free HBX.out.b2_two 5
 have p6 := obj_cell HBX.out.b2_one 6
 have z6 := obj_cell HBX.out.b2_two 6
 have y6 := obj_free HBX.out.b2_two 6
 go_wp2
 have e0 := obj_set HBX.out.b2_two 0 (.string sn)
 have e1 := obj_set e0 1 (.int .i64 num)
 have e2 := obj_set e1 2 (.int .i64 ty)
 have e3 := obj_set e2 3 (.string sr)
 have e4 := obj_set e3 4 (.bool rep)
 have e5 := obj_set e4 5 (.bool loose)
 have e6 := obj_set e5 6 (.string so)
 have d0 := obj_cell e6 0
 have d1 := obj_cell e6 1
 have d2 := obj_cell e6 2
 have d3 := obj_cell e6 3
 have d4 := obj_cell e6 4
 have d5 := obj_cell e6 5
 have d6 := obj_cell e6 6
 refine bodyPost_ret (v := .agg #[.string sn, .int .i64 num, .int .i64 ty, .string sr, .bool rep, .bool loose, .string so]) ?_ rfl ⟨rfl, ?_⟩
 ·have hres : Tryz.f154.results = #[.cell 2 70] := by kernel_rfl
  simp only [results, hres]
  go_simp
 ·exact (((((((HBX.out.b2_bel.setCell (p := ⟨w.heap.size + 1, 0, none⟩) (Nat.le_succ _) _).setCell (p := ⟨w.heap.size + 1, 1, none⟩) (Nat.le_succ _) _).setCell (p := ⟨w.heap.size + 1, 2, none⟩) (Nat.le_succ _) _).setCell (p := ⟨w.heap.size + 1, 3, none⟩) (Nat.le_succ _) _).setCell (p := ⟨w.heap.size + 1, 4, none⟩) (Nat.le_succ _) _).setCell (p := ⟨w.heap.size + 1, 5, none⟩) (Nat.le_succ _) _).setCell (p := ⟨w.heap.size + 1, 6, none⟩) (Nat.le_succ _) _)

theorem own_slc {w : World} {base k n : Nat} {e : TypeId} {v : Value} {xs : List Value} (h : w.ownsRow base e k v n xs) : ∃ A c, v = .slice A n c := by
 rcases h.2 with ⟨h9, hz⟩ | ⟨g9, c9, _, h9, _⟩
 ·exact ⟨none, 0, by rw [h9, hz]⟩
 ·exact ⟨_, _, h9⟩
theorem own_less {w : World} {base b k n : Nat} {e : TypeId} {v : Value} {xs : List Value} (h : w.ownsRow base e k v n xs) (hb : b ≤ base) : w.ownsRow b e k v n xs :=
 ⟨h.1, h.2.imp id fun ⟨g, cap, cur, e1, hg, r⟩ => ⟨g, cap, cur, e1, Nat.le_trans hb hg, r⟩⟩
theorem own_else {w w' : World} {base k n : Nat} {e : TypeId} {v : Value} {xs : List Value} (h : w.ownsRow base e k v n xs) (hk : ∀ (q : Nat) (ds : Array Value), w.heap[q]? = some (.cells ds e (0, 0)) → w'.heap[q]? = w.heap[q]?) : w'.ownsRow base e k v n xs :=
 own_block h fun q hq => by obtain ⟨_, cs, hc⟩ := own_typed h hq; exact hk q cs hc
theorem own_sets {w : World} {base k n q j : Nat} {e t : TypeId} {v u : Value} {xs : List Value} {cs : Array Value} (h : w.ownsRow base e k v n xs) (hq : w.heap[q]? = some (.cells cs t (0, 0))) (hne : t ≠ e) : (w.setCell ⟨q, j, none⟩ u).ownsRow base e k v n xs :=
 own_else h fun p ds hp => Below.heap_setCell w ⟨q, j, none⟩ u p (fun e1 => by
  have e2 : p = q := e1
  subst e2
  rw [hq] at hp
  injection hp with hp
  injection hp with _ e3
  exact hne e3)
set_option maxHeartbeats 4000000 in
theorem gac_vl {S : Nat → Prop} (w : World) {A : Option Addr} {cap n : Nat} {l : List Vl} (h : Lst 2 S vlR w A cap l) (hn : n = l.length) (hm : n ≤ 10000) (hok : ∀ x ∈ l, x.name.length ≤ 1000000) :
 Calls Tryz.prog 151 #[.slice A n cap, .func (.func 152) #[] #[]] w fun e w' => ∃ A' cap', e = .returned (.slice A' n cap') ∧ w'.ownsRow w.heap.size 67 2 (.slice A' n cap') n (l.flatMap vlCells) ∧ Below w.heap.size w w' := by
 have q1 : n ≤ cap := by have := h.l_le; omega
 have q2 := h.l_max
 unfold maxLen at q2
 obtain ⟨iv, hv0, hv1, hv2, hv3⟩ := info_parts info_vl
 have H := Lib.hid h
 have HN := Lib.hid hn
 have HM := Lib.hid hm
 have HOK := Lib.hid hok
 have HI := Lib.hid (And.intro hv0 (And.intro hv1 (And.intro hv2 hv3)))
 clear h hn hm hok hv0 hv1 hv2 hv3
 go_enter Tryz.func151, Tryz.ntmps151
 go_wp2
 go_loopw [5, 7, 10] (fun v u x wr => ∃ i : Nat, x = .int .i64 (i : Int) ∧ i ≤ n ∧ wr.ownsRow w.heap.size 67 2 v (l.take i).length ((l.take i).flatMap vlCells) ∧ Below w.heap.size w wr) (fun v u x _ => n - (intOf x).toNat)
 case atStart => exact ⟨0, rfl, Nat.zero_le _, World.ownsRow_nil _ _ _ _, Below.refl _ _⟩
 case round =>
  obtain ⟨i, rfl, hi, hown, hbel⟩ := hrel
  have HOWN := Lib.hid hown
  have hb0 := Lib.hid hbel
  clear hown hbel
  by_cases hlt : i < n
  ·have g1 : decide ((i : Int) < (n : Int)) = true := decide_eq_true (by omega)
   obtain ⟨x, hx⟩ : ∃ x, l[i]? = some x := ⟨_, List.getElem?_eq_getElem (by have := HN.out; omega)⟩
   have HTK : Hid (l.take (i + 1) = l.take i ++ [x]) := Lib.hid (split_take hx)
   have HLN : Hid ((l.take i).length ≤ 10000) := Lib.hid (by have := HM.out; rw [List.length_take]; omega)
   have HONE : Hid (∀ u ∈ vlCells x, u.oneCell' = true) := Lib.hid (vl_one x)
   have HCE := Lib.hid (show vlCells x = [.string (strOf x.name), .int .i64 x.num] from rfl)
   obtain ⟨ge, oe, rfl, _, hc⟩ := vl_at H.out hx
   have HCK := Lib.hid (scopy_vl x (HOK.out x (List.mem_of_getElem? hx)))
   obtain ⟨s0, hs0⟩ : ∃ s0, s0 = strOf x.name := ⟨_, rfl⟩
   obtain ⟨z1, hz1⟩ : ∃ z1, z1 = x.num := ⟨_, rfl⟩
   rw [← hs0, ← hz1] at hc HCK
   have HS0 := Lib.hid (And.intro hs0 hz1)
   obtain ⟨c0, c1⟩ := hc _ hb0.out
   clear hx hc hs0 hz1
   go_wp2_with (first
    | (go_at_call 152; refine (HCK.out _).mono ?_; rintro e w2 ⟨rfl, hb⟩; have HO2 := Lib.hid (own_below (own_below HOWN.out ((Below.refl _ _).alloc (Nat.le_refl _) _)) hb); have HB2 := Lib.hid ((hb0.out.alloc hb0.out.size _).trans (hb.mono (hb0.out.alloc hb0.out.size _).size)); clear hb)
    | (at_builtin; refine wpList_append_x rfl _ _ rfl rfl rfl (run_append_own2 (base := w.heap.size) _ _ _ _ iv _ 2 24 Tryz.underlying45 HI.out.1 HI.out.2.1 HI.out.2.2.1 HI.out.2.2.2 rfl (by decide) _ _ _ (own_below HO2.out ((Below.refl _ _).alloc (Nat.le_refl _) _)) ⟨w2.heap.size, 0, none⟩ 1 1 (vlCells x) rfl (fun j u hu => news_at w2 #[.string s0, .int .i64 z1] 67 j u (by rw [HS0.out.1, HS0.out.2]; exact hu)) HONE.out (by have := HLN.out; unfold maxLen; omega) (by have := HLN.out; omega) (by have := HB2.out.size; simp; omega)) ?_; rintro va2 w3 ⟨ho, hg, -⟩; have HOA := Lib.hid ho; have HBA := Lib.hid ((HB2.out.alloc HB2.out.size _).grown hg (by have := HB2.out.size; simp; omega) (fun k hk => (HO2.out.lt k hk).1)); clear ho hg))
   go_roundw
   case rel => exact ⟨i + 1, by go_num, by omega, (by rw [HTK.out, List.length_append, List.flatMap_append, List.flatMap_cons, List.flatMap_nil, List.append_nil]; exact HOA.out), HBA.out⟩
   case measure => simp [intOf]; omega
  ·have g1 : decide ((i : Int) < (n : Int)) = false := decide_eq_false (by omega)
   have HF : Hid (l.take i = l) := Lib.hid (List.take_of_length_le (by have := HN.out; omega))
   have ho := HOWN.out
   rw [HF.out] at ho
   rw [← HN.out] at ho
   obtain ⟨Al, capl, hvl⟩ := own_slc ho
   subst hvl
   have HSL := Lib.hid ho
   clear ho
   go_wp2
   go_ret
   exact ⟨Al, capl, rfl, HSL.out, hb0.out⟩

set_option maxHeartbeats 4000000 in
theorem gac_fd {S : Nat → Prop} (w : World) {A : Option Addr} {cap n : Nat} {l : List Fd} (h : Lst 7 S fdR w A cap l) (hn : n = l.length) (hm : n ≤ 10000) (hok : ∀ x ∈ l, x.name.length ≤ 1000000 ∧ x.ref.length ≤ 1000000 ∧ x.one.length ≤ 1000000) :
 Calls Tryz.prog 153 #[.slice A n cap, .func (.func 154) #[] #[]] w fun e w' => ∃ A' cap', e = .returned (.slice A' n cap') ∧ w'.ownsRow w.heap.size 70 7 (.slice A' n cap') n (l.flatMap fdCells) ∧ Below w.heap.size w w' := by
 have q1 : n ≤ cap := by have := h.l_le; omega
 have q2 := h.l_max
 unfold maxLen at q2
 obtain ⟨iv, hv0, hv1, hv2, hv3⟩ := info_parts info_fd
 have H := Lib.hid h
 have HN := Lib.hid hn
 have HM := Lib.hid hm
 have HOK := Lib.hid hok
 have HI := Lib.hid (And.intro hv0 (And.intro hv1 (And.intro hv2 hv3)))
 clear h hn hm hok hv0 hv1 hv2 hv3
 go_enter Tryz.func153, Tryz.ntmps153
 go_wp2
 go_loopw [5, 7, 10] (fun v u x wr => ∃ i : Nat, x = .int .i64 (i : Int) ∧ i ≤ n ∧ wr.ownsRow w.heap.size 70 7 v (l.take i).length ((l.take i).flatMap fdCells) ∧ Below w.heap.size w wr) (fun v u x _ => n - (intOf x).toNat)
 case atStart => exact ⟨0, rfl, Nat.zero_le _, World.ownsRow_nil _ _ _ _, Below.refl _ _⟩
 case round =>
  obtain ⟨i, rfl, hi, hown, hbel⟩ := hrel
  have HOWN := Lib.hid hown
  have hb0 := Lib.hid hbel
  clear hown hbel
  by_cases hlt : i < n
  ·have g1 : decide ((i : Int) < (n : Int)) = true := decide_eq_true (by omega)
   obtain ⟨x, hx⟩ : ∃ x, l[i]? = some x := ⟨_, List.getElem?_eq_getElem (by have := HN.out; omega)⟩
   have HTK : Hid (l.take (i + 1) = l.take i ++ [x]) := Lib.hid (split_take hx)
   have HLN : Hid ((l.take i).length ≤ 10000) := Lib.hid (by have := HM.out; rw [List.length_take]; omega)
   have HONE : Hid (∀ u ∈ fdCells x, u.oneCell' = true) := Lib.hid (fd_one x)
   have HCE := Lib.hid (show fdCells x = fdCells x from rfl)
   obtain ⟨ge, oe, rfl, _, hc⟩ := fd_at H.out hx
   have HCK := Lib.hid (scopy_fd x (HOK.out x (List.mem_of_getElem? hx)))
   unfold fdV at HCK
   obtain ⟨s0, hs0⟩ : ∃ s0, s0 = strOf x.name := ⟨_, rfl⟩
   obtain ⟨s3, hs3⟩ : ∃ s3, s3 = strOf x.ref := ⟨_, rfl⟩
   obtain ⟨s6, hs6⟩ : ∃ s6, s6 = strOf x.one := ⟨_, rfl⟩
   obtain ⟨z1, hz1⟩ : ∃ z1, z1 = x.num := ⟨_, rfl⟩
   obtain ⟨z2, hz2⟩ : ∃ z2, z2 = x.ty := ⟨_, rfl⟩
   obtain ⟨b4, hb4⟩ : ∃ b4, b4 = x.rep := ⟨_, rfl⟩
   obtain ⟨b5, hb5⟩ : ∃ b5, b5 = x.loose := ⟨_, rfl⟩
   rw [← hs0, ← hs3, ← hs6, ← hz1, ← hz2, ← hb4, ← hb5] at hc HCK
   have HS0 := Lib.hid (And.intro hs0 (And.intro hs3 (And.intro hs6 (And.intro hz1 (And.intro hz2 (And.intro hb4 hb5))))))
   obtain ⟨c0, c1, c2, c3, c4, c5, c6⟩ := hc _ hb0.out
   clear hx hc hs0 hs3 hs6 hz1 hz2 hb4 hb5
   go_wp2_with (first
    | (go_at_call 154; refine (HCK.out _).mono ?_; rintro e w2 ⟨rfl, hb⟩; have HO2 := Lib.hid (own_below (own_below HOWN.out ((Below.refl _ _).alloc (Nat.le_refl _) _)) hb); have HB2 := Lib.hid ((hb0.out.alloc hb0.out.size _).trans (hb.mono (hb0.out.alloc hb0.out.size _).size)); clear hb)
    | (at_builtin; refine wpList_append_x rfl _ _ rfl rfl rfl (run_append_own2 (base := w.heap.size) _ _ _ _ iv _ 7 72 Tryz.underlying40 HI.out.1 HI.out.2.1 HI.out.2.2.1 HI.out.2.2.2 rfl (by decide) _ _ _ (own_below HO2.out ((Below.refl _ _).alloc (Nat.le_refl _) _)) ⟨w2.heap.size, 0, none⟩ 1 1 (fdCells x) rfl (fun j u hu => news_at w2 #[.string s0, .int .i64 z1, .int .i64 z2, .string s3, .bool b4, .bool b5, .string s6] 70 j u (by rw [HS0.out.1, HS0.out.2.1, HS0.out.2.2.1, HS0.out.2.2.2.1, HS0.out.2.2.2.2.1, HS0.out.2.2.2.2.2.1, HS0.out.2.2.2.2.2.2]; exact hu)) HONE.out (by have := HLN.out; unfold maxLen; omega) (by have := HLN.out; omega) (by have := HB2.out.size; simp; omega)) ?_; rintro va2 w3 ⟨ho, hg, -⟩; have HOA := Lib.hid ho; have HBA := Lib.hid ((HB2.out.alloc HB2.out.size _).grown hg (by have := HB2.out.size; simp; omega) (fun k hk => (HO2.out.lt k hk).1)); clear ho hg))
   go_roundw
   case rel => exact ⟨i + 1, by go_num, by omega, (by rw [HTK.out, List.length_append, List.flatMap_append, List.flatMap_cons, List.flatMap_nil, List.append_nil]; exact HOA.out), HBA.out⟩
   case measure => simp [intOf]; omega
  ·have g1 : decide ((i : Int) < (n : Int)) = false := decide_eq_false (by omega)
   have HF : Hid (l.take i = l) := Lib.hid (List.take_of_length_le (by have := HN.out; omega))
   have ho := HOWN.out
   rw [HF.out] at ho
   rw [← HN.out] at ho
   obtain ⟨Al, capl, hvl⟩ := own_slc ho
   subst hvl
   have HSL := Lib.hid ho
   clear ho
   go_wp2
   go_ret
   exact ⟨Al, capl, rfl, HSL.out, hb0.out⟩
end Go.Proofs.YtcjjphioeneiiaaGreatDoor

/- The program's Copy of a schema. Conditions: those that each theorem names. -/
namespace Go.Proofs.YtcjjphioeneiiaaGreatDoor
open Go.RowKit
set_option linter.unusedVariables false
set_option maxRecDepth 100000

theorem scAt_wide {base b : Nat} {w : World} {A A2 : Option Addr} {n cap n2 cap2 : Nat} {s : Sc} (h : ScAt (Typed base w) w A n cap A2 n2 cap2 s) (hb : b ≤ base) : ScAt (fun _ g => b ≤ g) w A n cap A2 n2 cap2 s :=
 ⟨lst_keep h.s_e (enR_keep (fun _ g hg => Nat.le_trans hb hg.1) (fun _ _ _ _ => rfl)) (fun g hg => Nat.le_trans hb hg.1) (fun _ _ _ => rfl), lst_keep h.s_m (msR_keep (fun _ g hg => Nat.le_trans hb hg.1) (fun _ _ _ _ => rfl)) (fun g hg => Nat.le_trans hb hg.1) (fun _ _ _ => rfl), h.s_ne, h.s_nm⟩
set_option maxHeartbeats 8000000 in
theorem scopy_en {S : Nat → Prop} {x : En} {A : Option Addr} {nv c : Nat} (w : World) (h : Lst 2 S vlR w A c x.values) (hn : nv = x.values.length) (hm : nv ≤ 10000) (hx : x.name.length ≤ 1000000) (hok : ∀ v ∈ x.values, v.name.length ≤ 1000000) (sn : ByteArray) (hsn : sn = strOf x.name) :
 Calls Tryz.prog 84 #[.agg #[.string sn, .slice A nv c]] w fun e w' => ∃ A' c', e = .returned (.agg #[.string sn, .slice A' nv c']) ∧ w'.ownsRow w.heap.size 67 2 (.slice A' nv c') nv (x.values.flatMap vlCells) ∧ Below w.heap.size w w' := by
 have HC := Lib.hid (fun u => sclone_any sn u (by rw [hsn, str_size]; exact hx))
 have HG := Lib.hid (fun u (hb : Below w.heap.size w u) => gac_vl u (lst_keep h vlR_keep (fun _ h => h) (bel_keep hb)) hn hm hok)
 have q1 : nv ≤ c := by have := h.l_le; omega
 have q2 := h.l_max
 unfold maxLen at q2
 have HBX0 := Lib.hid (bx2_start w #[.string sn, .slice A nv c] #[.string ⟨#[]⟩, .slice none 0 0] 47 47)
 have HBX := Lib.hid (bx2_drew1 HBX0.out)
 have r0 := obj_cell (HBX0.out).b2_one 0
 have r1 := obj_cell (HBX0.out).b2_one 1
 have HK : Hid (∀ u : World, u.heap[w.heap.size]? = some (.cells #[.string sn, .slice A nv c] 47 (0, 0)) → u.cell? ⟨w.heap.size, 0, none⟩ = some (.string sn) ∧ u.cell? ⟨w.heap.size, 1, none⟩ = some (.slice A nv c)) := Lib.hid (fun u hb => ⟨obj_cell hb 0, obj_cell hb 1⟩)
 clear h hn hx hok hsn
 go_enter Tryz.func84, Tryz.ntmps84
 go_wp2
 go_region_held3 (fun w' => w'.cell? ⟨w.heap.size, 0, none⟩ = some (.string sn) ∧ w'.cell? ⟨w.heap.size, 1, none⟩ = some (.slice A nv c))
  (first | exact HK.out _ HBX.out.b2_one | exact HK.out _ (set_else (set_else HBX.out.b2_one (by show w.heap.size ≠ w.heap.size + 1; omega)) (by show w.heap.size ≠ w.heap.size + 1; omega)))
  (first
   | (go_at_call 108; refine (HC.out _).mono ?_; rintro e w2 ⟨rfl, hb⟩; replace HBX := Lib.hid (bx2_step HBX.out hb); clear hb)
   | (go_at_call 151; refine (HG.out _ HBX.out.b2_bel).mono ?_; rintro e w3 ⟨A5, c5, rfl, hl, hb⟩; have HF := Lib.hid (own_less hl HBX.out.b2_bel.size); replace HBX := Lib.hid (bx2_step HBX.out hb); have z0 := obj_cell (HBX.out).b2_two 0; have z1 := obj_cell (HBX.out).b2_two 1; have y0 := obj_free (HBX.out).b2_two 0; have y1 := obj_free (HBX.out).b2_two 1; clear hl hb))
 go_wp2
 have e0 := obj_set HBX.out.b2_two 0 (.string sn)
 have e1 := obj_set e0 1 (.slice A5 nv c5)
 have d0 := obj_cell e1 0
 have d1 := obj_cell e1 1
 refine bodyPost_ret (v := .agg #[.string sn, .slice A5 nv c5]) ?_ rfl ⟨A5, c5, rfl, ?_, ?_⟩
 ·have hres : Tryz.f84.results = #[.cell 2 47] := by kernel_rfl
  simp only [results, hres]
  go_simp
 ·exact own_sets (own_sets HF.out HBX.out.b2_two (by decide)) e0 (by decide)
 ·exact (HBX.out.b2_bel.setCell (p := ⟨w.heap.size + 1, 0, none⟩) (Nat.le_succ _) _).setCell (p := ⟨w.heap.size + 1, 1, none⟩) (Nat.le_succ _) _

set_option maxHeartbeats 16000000 in
theorem scopy_ms {S S2 : Nat → Prop} {x : Ms} {A A2 : Option Addr} {nf c nb c2 : Nat} (w : World) (h : Lst 7 S fdR w A c x.fields) (h2 : Lst 1 S2 inR w A2 c2 x.barred) (hn : nf = x.fields.length) (hn2 : nb = x.barred.length) (hm : nf ≤ 10000) (hm2 : nb ≤ 10000) (hx : x.name.length ≤ 1000000) (hok : ∀ f ∈ x.fields, f.name.length ≤ 1000000 ∧ f.ref.length ≤ 1000000 ∧ f.one.length ≤ 1000000) (sn : ByteArray) (hsn : sn = strOf x.name) :
 Calls Tryz.prog 86 #[.agg #[.string sn, .slice A nf c, .slice A2 nb c2]] w fun e w' => ∃ A' c' A3 c3, e = .returned (.agg #[.string sn, .slice A' nf c', .slice A3 nb c3]) ∧ w'.ownsRow w.heap.size 70 7 (.slice A' nf c') nf (x.fields.flatMap fdCells) ∧ w'.ownsRow w.heap.size 3 1 (.slice A3 nb c3) nb (x.barred.flatMap inCells) ∧ Below w.heap.size w w' := by
 obtain ⟨ii, hi0, hi1, hi2, hi3⟩ := info_parts info_in
 have HC := Lib.hid (fun u => sclone_any sn u (by rw [hsn, str_size]; exact hx))
 have HG := Lib.hid (fun u (hb : Below w.heap.size w u) => gac_fd u (lst_keep h fdR_keep (fun _ h => h) (bel_keep hb)) hn hm hok)
 have HA := Lib.hid (fun u (hb : Below w.heap.size w u) => run_append_lst (P := Tryz.prog) (w := u) (k := 1) (bytes := 8) (base := w.heap.size) (n := 0) (xs := []) (l := x.barred) (f := inCells) 41 Tryz.underlying41 hi0 hi1 hi2 hi3 rfl (by decide) (fun _ => rfl) (fun y => in_one y) (World.ownsRow_nil _ _ _ _) (lst_keep h2 inR_keep (fun _ h => h) (bel_keep hb)) (fun _ _ h => h) hn2 (by unfold maxLen; omega) (by omega) hb.size)
 have q1 : nf ≤ c := by have := h.l_le; omega
 have q2 := h.l_max
 have q3 : nb ≤ c2 := by have := h2.l_le; omega
 have q4 := h2.l_max
 unfold maxLen at q2 q4
 have HBX0 := Lib.hid (bx2_start w #[.string sn, .slice A nf c, .slice A2 nb c2] #[.string ⟨#[]⟩, .slice none 0 0, .slice none 0 0] 43 43)
 have HBX := Lib.hid (bx2_drew1 HBX0.out)
 have r0 := obj_cell (HBX0.out).b2_one 0
 have r1 := obj_cell (HBX0.out).b2_one 1
 have r2 := obj_cell (HBX0.out).b2_one 2
 have HNB := Lib.hid hn2
 have HK : Hid (∀ u : World, u.heap[w.heap.size]? = some (.cells #[.string sn, .slice A nf c, .slice A2 nb c2] 43 (0, 0)) → u.cell? ⟨w.heap.size, 0, none⟩ = some (.string sn) ∧ u.cell? ⟨w.heap.size, 1, none⟩ = some (.slice A nf c) ∧ u.cell? ⟨w.heap.size, 2, none⟩ = some (.slice A2 nb c2)) := Lib.hid (fun u hb => ⟨obj_cell hb 0, obj_cell hb 1, obj_cell hb 2⟩)
 clear h h2 hn hn2 hx hok hsn
 go_enter Tryz.func86, Tryz.ntmps86
 go_wp2
 go_region_held3 (fun w' => w'.cell? ⟨w.heap.size, 0, none⟩ = some (.string sn) ∧ w'.cell? ⟨w.heap.size, 1, none⟩ = some (.slice A nf c) ∧ w'.cell? ⟨w.heap.size, 2, none⟩ = some (.slice A2 nb c2))
  (first | exact HK.out _ HBX.out.b2_one | exact HK.out _ (set_else (set_else (set_else HBX.out.b2_one (by show w.heap.size ≠ w.heap.size + 1; omega)) (by show w.heap.size ≠ w.heap.size + 1; omega)) (by show w.heap.size ≠ w.heap.size + 1; omega)))
  (first
   | (go_at_call 108; refine (HC.out _).mono ?_; rintro e w2 ⟨rfl, hb⟩; replace HBX := Lib.hid (bx2_step HBX.out hb); (try replace HI := Lib.hid (own_below HI.out hb)); clear hb)
   | (go_at_call 153; refine (HG.out _ HBX.out.b2_bel).mono ?_; rintro e w3 ⟨A5, c5, rfl, hl, hb⟩; have HF := Lib.hid (own_less hl HBX.out.b2_bel.size); replace HBX := Lib.hid (bx2_step HBX.out hb); (try replace HI := Lib.hid (own_below HI.out hb)); have z0 := obj_cell (HBX.out).b2_two 0; have z1 := obj_cell (HBX.out).b2_two 1; have z2 := obj_cell (HBX.out).b2_two 2; have y0 := obj_free (HBX.out).b2_two 0; have y1 := obj_free (HBX.out).b2_two 1; have y2 := obj_free (HBX.out).b2_two 2; clear hl hb)
   | (refine step_append_run (by rfl) _ _ (by rfl) (by rfl) (by rfl) (HA.out _ HBX.out.b2_bel) ?_; rintro v1 u1 ⟨ho, hg, -⟩; rw [List.nil_append, Nat.zero_add] at ho; obtain ⟨A6, c6, hv1⟩ := own_slc ho; subst hv1; have hb := (Below.refl _ _).grown hg (Nat.le_refl _) (fun k e => by cases e); have HI := Lib.hid ho; replace HBX := Lib.hid (bx2_step HBX.out hb); (try replace HF := Lib.hid (own_below HF.out hb)); have z0 := obj_cell (HBX.out).b2_two 0; have z1 := obj_cell (HBX.out).b2_two 1; have z2 := obj_cell (HBX.out).b2_two 2; have y0 := obj_free (HBX.out).b2_two 0; have y1 := obj_free (HBX.out).b2_two 1; have y2 := obj_free (HBX.out).b2_two 2; clear ho hg hb))
 all_goals
  go_wp2
  have e0 := obj_set HBX.out.b2_two 0 (.string sn)
  have e1 := obj_set e0 1 (.slice A5 nf c5)
  have e2 := obj_set e1 2 (.slice A6 nb c6)
  have d0 := obj_cell e2 0
  have d1 := obj_cell e2 1
  have d2 := obj_cell e2 2
  refine bodyPost_ret (v := .agg #[.string sn, .slice A5 nf c5, .slice A6 nb c6]) ?_ rfl ⟨A5, c5, A6, c6, rfl, ?_, ?_, ?_⟩
  ·have hres : Tryz.f86.results = #[.cell 2 43] := by kernel_rfl
   simp only [results, hres]
   go_simp
  ·exact own_sets (own_sets (own_sets HF.out HBX.out.b2_two (by decide)) e0 (by decide)) e1 (by decide)
  ·exact own_sets (own_sets (own_sets HI.out HBX.out.b2_two (by decide)) e0 (by decide)) e1 (by decide)
  ·exact ((HBX.out.b2_bel.setCell (p := ⟨w.heap.size + 1, 0, none⟩) (Nat.le_succ _) _).setCell (p := ⟨w.heap.size + 1, 1, none⟩) (Nat.le_succ _) _).setCell (p := ⟨w.heap.size + 1, 2, none⟩) (Nat.le_succ _) _
theorem box_up2 (w : World) (o : Obj) : Below w.heap.size w (w.alloc o) := (Below.refl _ w).alloc (Nat.le_refl _) _
theorem bel_up {a b c : World} (h : Below a.heap.size a b) (k : Below b.heap.size b c) : Below a.heap.size a c := h.trans (k.mono h.size)

/-- Blocks of this type stay. -/
def Kp (t : TypeId) (w w' : World) : Prop := ∀ (q : Nat) (ds : Array Value), w.heap[q]? = some (.cells ds t (0, 0)) → w'.heap[q]? = w.heap[q]?
theorem kp_below {t : TypeId} {w w' : World} (hb : Below w.heap.size w w') : Kp t w w' := fun q _ hq => hb.block q (lt_of_block hq)
theorem kp_trans {t : TypeId} {a b c : World} (h : Kp t a b) (k : Kp t b c) : Kp t a c := fun q ds hq => (k q ds ((h q ds hq).trans hq)).trans (h q ds hq)
theorem kp_grown {base k n : Nat} {t e : TypeId} {w w' : World} {v : Value} {xs : List Value} (h : w.ownsRow base t k v n xs) (hg : w.grownBy w' v.ownBlock) (hne : t ≠ e) : Kp e w w' := fun p ds hp => hg.block p (lt_of_block hp) (fun e1 => by
 obtain ⟨_, cs, hc⟩ := own_typed h e1.symm
 rw [hp] at hc
 injection hc with hc
 injection hc with _ e3
 exact hne e3.symm)
theorem kp_set {q j : Nat} {t e : TypeId} {w : World} {cs : Array Value} {u : Value} (hq : w.heap[q]? = some (.cells cs t (0, 0))) (hne : t ≠ e) : Kp e w (w.setCell ⟨q, j, none⟩ u) := fun p ds hp => Below.heap_setCell w ⟨q, j, none⟩ u p (fun e1 => by
 have e2 : p = q := e1
 subst e2
 rw [hq] at hp
 injection hp with hp
 injection hp with _ e3
 exact hne e3)
/-- Two lists in unlike blocks. -/
def AptA (A B : Option Addr) : Prop := ∀ p q, A = some p → B = some q → p.block ≠ q.block
theorem own_sblk {w : World} {base k n m c : Nat} {t : TypeId} {p : Addr} {xs : List Value} (h : w.ownsRow base t k (.slice (some p) m c) n xs) : p = ⟨p.block, 0, none⟩ ∧ base ≤ p.block ∧ p.block < w.heap.size := by
 rcases h.2 with ⟨h9, _⟩ | ⟨g, cap, cur, e, hb, hh, _⟩
 ·cases h9
 ·cases e
  exact ⟨rfl, hb, lt_of_block hh⟩
theorem apt_new {w : World} {base k n m c k2 n2 m2 c2 : Nat} {t t2 : TypeId} {A B : Option Addr} {xs ys : List Value} {w' : World} (h : w.ownsRow base t k (.slice A m c) n xs) (h2 : w'.ownsRow w.heap.size t2 k2 (.slice B m2 c2) n2 ys) : AptA A B := fun p q e1 e2 => by
 subst e1
 subst e2
 have a1 := (own_sblk h).2.2
 have a2 := (own_sblk h2).2.1
 omega
/-- The lists of the enums' values, each in a block of its own. -/
structure EnOwn (base : Nat) (w : World) (es : List CE) : Prop where
 eo_v : ∀ y ∈ es, w.ownsRow base 67 2 (.slice y.ce_a y.ce_e.values.length y.ce_c) y.ce_e.values.length (y.ce_e.values.flatMap vlCells)
 eo_p : es.Pairwise (fun x y => AptA x.ce_a y.ce_a)
structure MsOwn (base : Nat) (w : World) (es : List CM) : Prop where
 mo_f : ∀ y ∈ es, w.ownsRow base 70 7 (.slice y.cm_a y.cm_m.fields.length y.cm_c) y.cm_m.fields.length (y.cm_m.fields.flatMap fdCells)
 mo_b : ∀ y ∈ es, w.ownsRow base 3 1 (.slice y.cm_b y.cm_m.barred.length y.cm_d) y.cm_m.barred.length (y.cm_m.barred.flatMap inCells)
 mo_p : es.Pairwise (fun x y => AptA x.cm_a y.cm_a)
 mo_q : es.Pairwise (fun x y => AptA x.cm_b y.cm_b)
theorem EnOwn.keep {base : Nat} {w w' : World} {es : List CE} (h : EnOwn base w es) (hk : Kp 67 w w') : EnOwn base w' es := ⟨fun y hy => own_else (h.eo_v y hy) hk, h.eo_p⟩
theorem MsOwn.keep {base : Nat} {w w' : World} {es : List CM} (h : MsOwn base w es) (hk : Kp 70 w w') (hk2 : Kp 3 w w') : MsOwn base w' es := ⟨fun y hy => own_else (h.mo_f y hy) hk, fun y hy => own_else (h.mo_b y hy) hk2, h.mo_p, h.mo_q⟩
theorem EnOwn.less {base b : Nat} {w : World} {es : List CE} (h : EnOwn base w es) (hb : b ≤ base) : EnOwn b w es := ⟨fun y hy => own_less (h.eo_v y hy) hb, h.eo_p⟩
theorem MsOwn.less {base b : Nat} {w : World} {es : List CM} (h : MsOwn base w es) (hb : b ≤ base) : MsOwn b w es := ⟨fun y hy => own_less (h.mo_f y hy) hb, fun y hy => own_less (h.mo_b y hy) hb, h.mo_p, h.mo_q⟩
theorem EnOwn.nil (base : Nat) (w : World) : EnOwn base w [] := ⟨fun _ h => absurd h (by simp), List.Pairwise.nil⟩
theorem MsOwn.nil (base : Nat) (w : World) : MsOwn base w [] := ⟨fun _ h => absurd h (by simp), fun _ h => absurd h (by simp), List.Pairwise.nil, List.Pairwise.nil⟩
theorem EnOwn.more {base : Nat} {w W : World} {es : List CE} {x : CE} (h : EnOwn base w es) (hw : base ≤ w.heap.size) (hk : Kp 67 w W)
 (hx : W.ownsRow w.heap.size 67 2 (.slice x.ce_a x.ce_e.values.length x.ce_c) x.ce_e.values.length (x.ce_e.values.flatMap vlCells)) : EnOwn base W (es ++ [x]) :=
 ⟨fun y hy => (List.mem_append.mp hy).elim (fun hy => own_else (h.eo_v y hy) hk) (fun hy => by obtain rfl := List.mem_singleton.mp hy; exact own_less hx hw),
  List.pairwise_append.mpr ⟨h.eo_p, List.pairwise_singleton _ _, fun y hy z hz => by obtain rfl := List.mem_singleton.mp hz; exact apt_new (h.eo_v y hy) hx⟩⟩
theorem MsOwn.more {base : Nat} {w W : World} {es : List CM} {x : CM} (h : MsOwn base w es) (hw : base ≤ w.heap.size) (hk : Kp 70 w W) (hk2 : Kp 3 w W)
 (hx : W.ownsRow w.heap.size 70 7 (.slice x.cm_a x.cm_m.fields.length x.cm_c) x.cm_m.fields.length (x.cm_m.fields.flatMap fdCells))
 (hx2 : W.ownsRow w.heap.size 3 1 (.slice x.cm_b x.cm_m.barred.length x.cm_d) x.cm_m.barred.length (x.cm_m.barred.flatMap inCells)) : MsOwn base W (es ++ [x]) :=
 ⟨fun y hy => (List.mem_append.mp hy).elim (fun hy => own_else (h.mo_f y hy) hk) (fun hy => by obtain rfl := List.mem_singleton.mp hy; exact own_less hx hw),
  fun y hy => (List.mem_append.mp hy).elim (fun hy => own_else (h.mo_b y hy) hk2) (fun hy => by obtain rfl := List.mem_singleton.mp hy; exact own_less hx2 hw),
  List.pairwise_append.mpr ⟨h.mo_p, List.pairwise_singleton _ _, fun y hy z hz => by obtain rfl := List.mem_singleton.mp hz; exact apt_new (h.mo_f y hy) hx⟩,
  List.pairwise_append.mpr ⟨h.mo_q, List.pairwise_singleton _ _, fun y hy z hz => by obtain rfl := List.mem_singleton.mp hz; exact apt_new (h.mo_b y hy) hx2⟩⟩
theorem en_lst {base n c : Nat} {w : World} {A : Option Addr} {es : List CE} {l : List En} (h : w.ownsRow base 47 2 (.slice A n c) n (es.flatMap ceCells)) (ho : EnOwn base w es) (hl : es.map CE.ce_e = l) : Lst 2 (Typed base w 3) (enR (Typed base w)) w A c l := by
 obtain ⟨_, Al, capl, hvl, hsl⟩ := lst_own_typed (k := 2) (f := ceCells) (R := fun w0 cs (x : CE) => cs = ceCells x ∧ Lst 2 (Typed base w 0) vlR w0 x.ce_a x.ce_c x.ce_e.values) (by decide) (fun _ => rfl) (fun y hy => ⟨rfl, by
  obtain ⟨_, Av, cv, hvv, hsv⟩ := lst_own_typed (k := 2) (f := vlCells) (R := vlR) (by decide) (fun _ => rfl) (fun z _ => rfl) (ho.eo_v y hy)
  cases hvv
  exact hsv⟩) h
 cases hvl
 rw [← hl]
 exact lst_map (R' := enR (Typed base w)) CE.ce_e hsl (fun y _ cs ⟨e, hl⟩ => ⟨y.ce_a, y.ce_c, e, hl⟩)
theorem ms_lst {base n c : Nat} {w : World} {A : Option Addr} {es : List CM} {l : List Ms} (h : w.ownsRow base 43 3 (.slice A n c) n (es.flatMap cmCells)) (ho : MsOwn base w es) (hl : es.map CM.cm_m = l) : Lst 3 (Typed base w 4) (msR (Typed base w)) w A c l := by
 obtain ⟨_, Al, capl, hvl, hsl⟩ := lst_own_typed (k := 3) (f := cmCells) (R := fun w0 cs (x : CM) => cs = cmCells x ∧ Lst 7 (Typed base w 1) fdR w0 x.cm_a x.cm_c x.cm_m.fields ∧ Lst 1 (Typed base w 2) inR w0 x.cm_b x.cm_d x.cm_m.barred) (by decide) (fun _ => rfl) (fun y hy => ⟨rfl, by
  obtain ⟨_, Av, cv, hvv, hsv⟩ := lst_own_typed (k := 7) (f := fdCells) (R := fdR) (by decide) (fun _ => rfl) (fun z _ => rfl) (ho.mo_f y hy)
  cases hvv
  exact hsv, by
  obtain ⟨_, Av, cv, hvv, hsv⟩ := lst_own_typed (k := 1) (f := inCells) (R := inR) (by decide) (fun _ => rfl) (fun z _ => rfl) (ho.mo_b y hy)
  cases hvv
  exact hsv⟩) h
 cases hvl
 rw [← hl]
 exact lst_map (R' := msR (Typed base w)) CM.cm_m hsl (fun y _ cs ⟨e, hl, hl2⟩ => ⟨y.cm_a, y.cm_c, y.cm_b, y.cm_d, e, hl, hl2⟩)

set_option maxHeartbeats 8000000 in
theorem gac_en {S : Nat → Nat → Prop} (w : World) {A : Option Addr} {cap n : Nat} {l : List En} (h : Lst 2 (S 3) (enR S) w A cap l) (hn : n = l.length) (hm : n ≤ 10000) (hok : ∀ x ∈ l, x.name.length ≤ 1000000 ∧ (∀ v ∈ x.values, v.name.length ≤ 1000000) ∧ x.values.length ≤ 10000) :
 Calls Tryz.prog 83 #[.slice A n cap, .func (.func 84) #[] #[]] w fun e w' => ∃ A' cap' es, e = .returned (.slice A' n cap') ∧ w'.ownsRow w.heap.size 47 2 (.slice A' n cap') n (es.flatMap ceCells) ∧ EnOwn w.heap.size w' es ∧ es.map CE.ce_e = l ∧ Below w.heap.size w w' := by
 have q1 : n ≤ cap := by have := h.l_le; omega
 have q2 := h.l_max
 unfold maxLen at q2
 obtain ⟨iv, hv0, hv1, hv2, hv3⟩ := info_parts info_en
 have H := Lib.hid h
 have HN := Lib.hid hn
 have HM := Lib.hid hm
 have HOK := Lib.hid hok
 have HI := Lib.hid (And.intro hv0 (And.intro hv1 (And.intro hv2 hv3)))
 clear h hn hm hok hv0 hv1 hv2 hv3
 go_enter Tryz.func83, Tryz.ntmps83
 go_wp2
 go_loopw [5, 7, 10] (fun v u x wr => ∃ (i : Nat) (es : List CE), x = .int .i64 (i : Int) ∧ i ≤ n ∧ es.map CE.ce_e = l.take i ∧ es.length ≤ 10000 ∧ wr.ownsRow w.heap.size 47 2 v es.length (es.flatMap ceCells) ∧ EnOwn w.heap.size wr es ∧ Below w.heap.size w wr) (fun v u x _ => n - (intOf x).toNat)
 case atStart => exact ⟨0, [], rfl, Nat.zero_le _, rfl, by decide, World.ownsRow_nil _ _ _ _, EnOwn.nil _ _, Below.refl _ _⟩
 case round =>
  obtain ⟨i, es, rfl, hi, hes, hel, hown, hall, hbel⟩ := hrel
  have HOWN := Lib.hid hown
  have HES := Lib.hid hes
  have HEL := Lib.hid hel
  have HALL := Lib.hid hall
  have hb0 := Lib.hid hbel
  clear hown hbel hes hel hall
  by_cases hlt : i < n
  ·have g1 : decide ((i : Int) < (n : Int)) = true := decide_eq_true (by omega)
   obtain ⟨x, hx⟩ : ∃ x, l[i]? = some x := ⟨_, List.getElem?_eq_getElem (by have := HN.out; omega)⟩
   have HTK : Hid (l.take (i + 1) = l.take i ++ [x]) := Lib.hid (split_take hx)
   have HLN : Hid (es.length + 1 ≤ 10000) := Lib.hid (by have h1 := congrArg List.length HES.out; have := HM.out; rw [List.length_map, List.length_take] at h1; omega)
   obtain ⟨ge, oe, A1, cap1, rfl, _, hc, hl⟩ := en_at H.out hx
   have hb1 := HOK.out x (List.mem_of_getElem? hx)
   obtain ⟨nv, hnv⟩ : ∃ nv, nv = x.values.length := ⟨_, rfl⟩
   obtain ⟨sn, hsn⟩ : ∃ sn, sn = strOf x.name := ⟨_, rfl⟩
   have HCK := Lib.hid (fun u (hb : Below w.heap.size w u) => scopy_en u (lst_keep hl vlR_keep (fun _ h => h) (bel_keep hb)) hnv (by rw [hnv]; exact hb1.2.2) hb1.1 hb1.2.1 sn hsn)
   rw [← hnv, ← hsn] at hc
   have HS0 := Lib.hid (And.intro hsn hnv)
   obtain ⟨c0, c1⟩ := hc _ hb0.out
   clear hx hc hl hsn hnv hb1
   go_wp2_with (first
    | (go_at_call 84; refine (HCK.out _ (hb0.out.alloc hb0.out.size _)).mono ?_; rintro e w2 ⟨A5, c5, rfl, hl5, hb⟩; have HF := Lib.hid (own_less hl5 (box_up2 wr _).size); clear hl5; have HO2 := Lib.hid (own_below (own_below HOWN.out ((Below.refl _ _).alloc (Nat.le_refl _) _)) hb); have HR2 := Lib.hid (bel_up (box_up2 wr _) hb); have HB2 := Lib.hid ((hb0.out.alloc hb0.out.size _).trans (hb.mono (hb0.out.alloc hb0.out.size _).size)); clear hb)
    | (at_builtin; refine wpList_append_x rfl _ _ rfl rfl rfl (run_append_own2 (base := w.heap.size) _ _ _ _ iv _ 2 40 Tryz.underlying23 HI.out.1 HI.out.2.1 HI.out.2.2.1 HI.out.2.2.2 rfl (by decide) _ _ _ (own_below HO2.out ((Below.refl _ _).alloc (Nat.le_refl _) _)) ⟨w2.heap.size, 0, none⟩ 1 1 (ceCells ⟨x, A5, c5⟩) rfl (fun j u hu => news_at w2 #[.string sn, .slice A5 nv c5] 47 j u (by rw [HS0.out.1, HS0.out.2]; exact hu)) (by intro u hu; simp [ceCells] at hu; rcases hu with rfl | rfl <;> rfl) (by have := HLN.out; unfold maxLen; omega) (by have := HLN.out; omega) (by have := HB2.out.size; simp; omega)) ?_; rintro va2 w3 ⟨ho, hg, -⟩; have HOA := Lib.hid ho; have HGR := Lib.hid hg; have HBA := Lib.hid ((HB2.out.alloc HB2.out.size _).grown hg (by have := HB2.out.size; simp; omega) (fun k hk => (HO2.out.lt k hk).1)); clear ho hg))
   have HW : Hid (w.heap.size ≤ wr.heap.size) := Lib.hid hb0.out.size
   have HK2 : Hid (Kp 67 w2 w3) := Lib.hid (kp_trans (kp_below (box_up2 w2 (.cells #[.string sn, .slice A5 nv c5] 47))) (kp_grown (own_below HO2.out (box_up2 w2 (.cells #[.string sn, .slice A5 nv c5] 47))) HGR.out (by decide)))
   have HK3 : Hid (Kp 67 wr w3) := Lib.hid (kp_trans (kp_below HR2.out) HK2.out)
   go_roundw
   case rel => exact ⟨i + 1, es ++ [⟨x, A5, c5⟩], by go_num, by omega, (by rw [List.map_append, HES.out, HTK.out]; rfl), (by rw [List.length_append]; exact HLN.out), (by rw [List.length_append, List.flatMap_append, List.flatMap_cons, List.flatMap_nil, List.append_nil]; exact HOA.out), (by
    have hx := own_else HF.out HK2.out
    rw [HS0.out.2] at hx
    exact HALL.out.more HW.out HK3.out hx), HBA.out⟩
   case measure => simp [intOf]; omega
  ·have g1 : decide ((i : Int) < (n : Int)) = false := decide_eq_false (by omega)
   have HF : Hid (es.map CE.ce_e = l) := Lib.hid (by rw [HES.out]; exact List.take_of_length_le (by have := HN.out; omega))
   have hn2 : es.length = n := by rw [← List.length_map (f := CE.ce_e), HF.out, HN.out]
   have ho := HOWN.out
   rw [hn2] at ho
   obtain ⟨Al, capl, hvl⟩ := own_slc ho
   subst hvl
   have HSL := Lib.hid ho
   clear ho hn2
   go_wp2
   go_ret
   exact ⟨Al, capl, es, rfl, HSL.out, HALL.out, HF.out, hb0.out⟩

set_option maxHeartbeats 8000000 in
theorem gac_ms {S : Nat → Nat → Prop} (w : World) {A : Option Addr} {cap n : Nat} {l : List Ms} (h : Lst 3 (S 4) (msR S) w A cap l) (hn : n = l.length) (hm : n ≤ 10000) (hok : ∀ x ∈ l, x.name.length ≤ 1000000 ∧ (∀ f ∈ x.fields, f.name.length ≤ 1000000 ∧ f.ref.length ≤ 1000000 ∧ f.one.length ≤ 1000000) ∧ x.fields.length ≤ 10000 ∧ x.barred.length ≤ 10000) :
 Calls Tryz.prog 85 #[.slice A n cap, .func (.func 86) #[] #[]] w fun e w' => ∃ A' cap' es, e = .returned (.slice A' n cap') ∧ w'.ownsRow w.heap.size 43 3 (.slice A' n cap') n (es.flatMap cmCells) ∧ MsOwn w.heap.size w' es ∧ es.map CM.cm_m = l ∧ Below w.heap.size w w' := by
 have q1 : n ≤ cap := by have := h.l_le; omega
 have q2 := h.l_max
 unfold maxLen at q2
 obtain ⟨iv, hv0, hv1, hv2, hv3⟩ := info_parts info_ms
 have H := Lib.hid h
 have HN := Lib.hid hn
 have HM := Lib.hid hm
 have HOK := Lib.hid hok
 have HI := Lib.hid (And.intro hv0 (And.intro hv1 (And.intro hv2 hv3)))
 clear h hn hm hok hv0 hv1 hv2 hv3
 go_enter Tryz.func85, Tryz.ntmps85
 go_wp2
 go_loopw [5, 7, 10] (fun v u x wr => ∃ (i : Nat) (es : List CM), x = .int .i64 (i : Int) ∧ i ≤ n ∧ es.map CM.cm_m = l.take i ∧ es.length ≤ 10000 ∧ wr.ownsRow w.heap.size 43 3 v es.length (es.flatMap cmCells) ∧ MsOwn w.heap.size wr es ∧ Below w.heap.size w wr) (fun v u x _ => n - (intOf x).toNat)
 case atStart => exact ⟨0, [], rfl, Nat.zero_le _, rfl, by decide, World.ownsRow_nil _ _ _ _, MsOwn.nil _ _, Below.refl _ _⟩
 case round =>
  obtain ⟨i, es, rfl, hi, hes, hel, hown, hall, hbel⟩ := hrel
  have HOWN := Lib.hid hown
  have HES := Lib.hid hes
  have HEL := Lib.hid hel
  have HALL := Lib.hid hall
  have hb0 := Lib.hid hbel
  clear hown hbel hes hel hall
  by_cases hlt : i < n
  ·have g1 : decide ((i : Int) < (n : Int)) = true := decide_eq_true (by omega)
   obtain ⟨x, hx⟩ : ∃ x, l[i]? = some x := ⟨_, List.getElem?_eq_getElem (by have := HN.out; omega)⟩
   have HTK : Hid (l.take (i + 1) = l.take i ++ [x]) := Lib.hid (split_take hx)
   have HLN : Hid (es.length + 1 ≤ 10000) := Lib.hid (by have h1 := congrArg List.length HES.out; have := HM.out; rw [List.length_map, List.length_take] at h1; omega)
   obtain ⟨ge, oe, A1, cap1, A3, cap3, rfl, _, hc, hl, hl2⟩ := ms_at H.out hx
   have hb1 := HOK.out x (List.mem_of_getElem? hx)
   obtain ⟨nf, hnf⟩ : ∃ nf, nf = x.fields.length := ⟨_, rfl⟩
   obtain ⟨nb, hnb⟩ : ∃ nb, nb = x.barred.length := ⟨_, rfl⟩
   obtain ⟨sn, hsn⟩ : ∃ sn, sn = strOf x.name := ⟨_, rfl⟩
   have HCK := Lib.hid (fun u (hb : Below w.heap.size w u) => scopy_ms u (lst_keep hl fdR_keep (fun _ h => h) (bel_keep hb)) (lst_keep hl2 inR_keep (fun _ h => h) (bel_keep hb)) hnf hnb (by rw [hnf]; exact hb1.2.2.1) (by rw [hnb]; exact hb1.2.2.2) hb1.1 hb1.2.1 sn hsn)
   rw [← hnf, ← hnb, ← hsn] at hc
   have HS0 := Lib.hid (And.intro hsn (And.intro hnf hnb))
   obtain ⟨c0, c1, c2⟩ := hc _ hb0.out
   clear hx hc hl hl2 hsn hnf hnb hb1
   go_wp2_with (first
    | (go_at_call 86; refine (HCK.out _ (hb0.out.alloc hb0.out.size _)).mono ?_; rintro e w2 ⟨A5, c5, A6, c6, rfl, hl5, hl6, hb⟩; have HF := Lib.hid (own_less hl5 (box_up2 wr _).size); have HF2 := Lib.hid (own_less hl6 (box_up2 wr _).size); clear hl5 hl6; have HO2 := Lib.hid (own_below (own_below HOWN.out ((Below.refl _ _).alloc (Nat.le_refl _) _)) hb); have HR2 := Lib.hid (bel_up (box_up2 wr _) hb); have HB2 := Lib.hid ((hb0.out.alloc hb0.out.size _).trans (hb.mono (hb0.out.alloc hb0.out.size _).size)); clear hb)
    | (at_builtin; refine wpList_append_x rfl _ _ rfl rfl rfl (run_append_own2 (base := w.heap.size) _ _ _ _ iv _ 3 64 Tryz.underlying24 HI.out.1 HI.out.2.1 HI.out.2.2.1 HI.out.2.2.2 rfl (by decide) _ _ _ (own_below HO2.out ((Below.refl _ _).alloc (Nat.le_refl _) _)) ⟨w2.heap.size, 0, none⟩ 1 1 (cmCells ⟨x, A5, c5, A6, c6⟩) rfl (fun j u hu => news_at w2 #[.string sn, .slice A5 nf c5, .slice A6 nb c6] 43 j u (by rw [HS0.out.1, HS0.out.2.1, HS0.out.2.2]; exact hu)) (by intro u hu; simp [cmCells] at hu; rcases hu with rfl | rfl | rfl <;> rfl) (by have := HLN.out; unfold maxLen; omega) (by have := HLN.out; omega) (by have := HB2.out.size; simp; omega)) ?_; rintro va2 w3 ⟨ho, hg, -⟩; have HOA := Lib.hid ho; have HGR := Lib.hid hg; have HBA := Lib.hid ((HB2.out.alloc HB2.out.size _).grown hg (by have := HB2.out.size; simp; omega) (fun k hk => (HO2.out.lt k hk).1)); clear ho hg))
   have HW : Hid (w.heap.size ≤ wr.heap.size) := Lib.hid hb0.out.size
   have HK2 : Hid (Kp 70 w2 w3) := Lib.hid (kp_trans (kp_below (box_up2 w2 (.cells #[.string sn, .slice A5 nf c5, .slice A6 nb c6] 43))) (kp_grown (own_below HO2.out (box_up2 w2 (.cells #[.string sn, .slice A5 nf c5, .slice A6 nb c6] 43))) HGR.out (by decide)))
   have HK3 : Hid (Kp 70 wr w3) := Lib.hid (kp_trans (kp_below HR2.out) HK2.out)
   have HK2i : Hid (Kp 3 w2 w3) := Lib.hid (kp_trans (kp_below (box_up2 w2 (.cells #[.string sn, .slice A5 nf c5, .slice A6 nb c6] 43))) (kp_grown (own_below HO2.out (box_up2 w2 (.cells #[.string sn, .slice A5 nf c5, .slice A6 nb c6] 43))) HGR.out (by decide)))
   have HK3i : Hid (Kp 3 wr w3) := Lib.hid (kp_trans (kp_below HR2.out) HK2i.out)
   go_roundw
   case rel => exact ⟨i + 1, es ++ [⟨x, A5, c5, A6, c6⟩], by go_num, by omega, (by rw [List.map_append, HES.out, HTK.out]; rfl), (by rw [List.length_append]; exact HLN.out), (by rw [List.length_append, List.flatMap_append, List.flatMap_cons, List.flatMap_nil, List.append_nil]; exact HOA.out), (by
    have hx := own_else HF.out HK2.out
    have hx2 := own_else HF2.out HK2i.out
    rw [HS0.out.2.1] at hx
    rw [HS0.out.2.2] at hx2
    exact HALL.out.more HW.out HK3.out HK3i.out hx hx2), HBA.out⟩
   case measure => simp [intOf]; omega
  ·have g1 : decide ((i : Int) < (n : Int)) = false := decide_eq_false (by omega)
   have HF : Hid (es.map CM.cm_m = l) := Lib.hid (by rw [HES.out]; exact List.take_of_length_le (by have := HN.out; omega))
   have hn2 : es.length = n := by rw [← List.length_map (f := CM.cm_m), HF.out, HN.out]
   have ho := HOWN.out
   rw [hn2] at ho
   obtain ⟨Al, capl, hvl⟩ := own_slc ho
   subst hvl
   have HSL := Lib.hid ho
   clear ho hn2
   go_wp2
   go_ret
   exact ⟨Al, capl, es, rfl, HSL.out, HALL.out, HF.out, hb0.out⟩
end Go.Proofs.YtcjjphioeneiiaaGreatDoor

/- The program's Copy of a schema. Conditions: those that each theorem names. -/
namespace Go.Proofs.YtcjjphioeneiiaaGreatDoor
open Go.RowKit
set_option linter.unusedVariables false
set_option maxRecDepth 100000

/-- No list and no name is too long for a walk. -/
structure Fits (s : Sc) : Prop where
 f_ne : s.enums.length ≤ 10000
 f_nm : s.msgs.length ≤ 10000
 f_e : ∀ x ∈ s.enums, x.name.length ≤ 1000000 ∧ (∀ v ∈ x.values, v.name.length ≤ 1000000) ∧ x.values.length ≤ 10000
 f_m : ∀ x ∈ s.msgs, x.name.length ≤ 1000000 ∧ (∀ f ∈ x.fields, f.name.length ≤ 1000000 ∧ f.ref.length ≤ 1000000 ∧ f.one.length ≤ 1000000) ∧ x.fields.length ≤ 10000 ∧ x.barred.length ≤ 10000
/-- A schema whose lists are all the call's own, each in a block of its own. -/
structure CpOwn (base : Nat) (w : World) (A : Option Addr) (n cap : Nat) (A2 : Option Addr) (n2 cap2 : Nat) (es : List CE) (ms : List CM) : Prop where
 co_e : w.ownsRow base 47 2 (.slice A n cap) n (es.flatMap ceCells)
 co_m : w.ownsRow base 43 3 (.slice A2 n2 cap2) n2 (ms.flatMap cmCells)
 co_v : EnOwn base w es
 co_f : MsOwn base w ms
theorem cp_len {base n cap n2 cap2 : Nat} {w : World} {A A2 : Option Addr} {es : List CE} {ms : List CM} (h : CpOwn base w A n cap A2 n2 cap2 es ms) : n = es.length ∧ n2 = ms.length := by
 have h1 := h.co_e.1
 have h2 := h.co_m.1
 rw [flat_length _ 2 (fun _ => rfl)] at h1
 rw [flat_length _ 3 (fun _ => rfl)] at h2
 omega
theorem cp_at {base n cap n2 cap2 : Nat} {w : World} {A A2 : Option Addr} {es : List CE} {ms : List CM} (h : CpOwn base w A n cap A2 n2 cap2 es ms) {s : Sc} (he : es.map CE.ce_e = s.enums) (hm : ms.map CM.cm_m = s.msgs) : ScAt (Typed base w) w A n cap A2 n2 cap2 s :=
 ⟨en_lst h.co_e h.co_v he, ms_lst h.co_m h.co_f hm, by rw [← he, List.length_map]; exact (cp_len h).1, by rw [← hm, List.length_map]; exact (cp_len h).2⟩

set_option maxHeartbeats 8000000 in
theorem scopy_own {S : Nat → Nat → Prop} (w : World) {A A2 : Option Addr} {n cap n2 cap2 : Nat} {s : Sc} (h : ScAt S w A n cap A2 n2 cap2 s) (hs : Fits s) :
 Calls Tryz.prog 36 #[.agg #[.slice A n cap, .slice A2 n2 cap2]] w fun e w' => ∃ B cb B2 cb2 es ms, e = .returned (.agg #[.slice B n cb, .slice B2 n2 cb2]) ∧ CpOwn w.heap.size w' B n cb B2 n2 cb2 es ms ∧ es.map CE.ce_e = s.enums ∧ ms.map CM.cm_m = s.msgs ∧ Below w.heap.size w w' := by
 obtain ⟨m1, m2, m3, m4⟩ := scAt_max h
 have HE := Lib.hid (fun u (hb : Below w.heap.size w u) => gac_en u (scAt_bel h hb).s_e h.s_ne (by have := h.s_ne; have := hs.f_ne; omega) hs.f_e)
 have HM := Lib.hid (fun u (hb : Below w.heap.size w u) => gac_ms u (scAt_bel h hb).s_m h.s_nm (by have := h.s_nm; have := hs.f_nm; omega) hs.f_m)
 have HBX0 := Lib.hid (bx2_start w #[.slice A n cap, .slice A2 n2 cap2] #[.slice none 0 0, .slice none 0 0] 26 26)
 have HBX := Lib.hid (bx2_drew1 HBX0.out)
 have r0 := obj_cell (HBX0.out).b2_one 0
 have r1 := obj_cell (HBX0.out).b2_one 1
 have HK : Hid (∀ u : World, u.heap[w.heap.size]? = some (.cells #[.slice A n cap, .slice A2 n2 cap2] 26 (0, 0)) → u.cell? ⟨w.heap.size, 0, none⟩ = some (.slice A n cap) ∧ u.cell? ⟨w.heap.size, 1, none⟩ = some (.slice A2 n2 cap2)) := Lib.hid (fun u hb => ⟨obj_cell hb 0, obj_cell hb 1⟩)
 clear h hs
 go_enter Tryz.func36, Tryz.ntmps36
 go_wp2
 go_region_held3 (fun w' => w'.cell? ⟨w.heap.size, 0, none⟩ = some (.slice A n cap) ∧ w'.cell? ⟨w.heap.size, 1, none⟩ = some (.slice A2 n2 cap2))
  (first | exact HK.out _ HBX.out.b2_one | exact HK.out _ (set_else (set_else HBX.out.b2_one (by show w.heap.size ≠ w.heap.size + 1; omega)) (by show w.heap.size ≠ w.heap.size + 1; omega)))
  (first
   | (go_at_call 83; refine (HE.out _ HBX.out.b2_bel).mono ?_; rintro e w2 ⟨A5, c5, es, rfl, hl, hl2, hes, hb⟩; have HL := Lib.hid (own_less hl HBX.out.b2_bel.size); have HLE := Lib.hid (hl2.less HBX.out.b2_bel.size); have HES := Lib.hid hes; replace HBX := Lib.hid (bx2_step HBX.out hb); clear hl hl2 hes hb)
   | (go_at_call 85; refine (HM.out _ HBX.out.b2_bel).mono ?_; rintro e w3 ⟨A6, c6, ms, rfl, hl, hl2, hms, hb⟩; have HL2 := Lib.hid (own_less hl HBX.out.b2_bel.size); have HLM := Lib.hid (hl2.less HBX.out.b2_bel.size); have HMS := Lib.hid hms; replace HL := Lib.hid (own_below HL.out hb); replace HLE := Lib.hid (HLE.out.keep (kp_below hb)); replace HBX := Lib.hid (bx2_step HBX.out hb); have z0 := obj_cell (HBX.out).b2_two 0; have z1 := obj_cell (HBX.out).b2_two 1; have y0 := obj_free (HBX.out).b2_two 0; have y1 := obj_free (HBX.out).b2_two 1; clear hl hl2 hms hb))
 go_wp2
 have e0 := obj_set HBX.out.b2_two 0 (.slice A5 n c5)
 have e1 := obj_set e0 1 (.slice A6 n2 c6)
 have d0 := obj_cell e1 0
 have d1 := obj_cell e1 1
 have HK1 : ∀ t, t ≠ 26 → Kp t w3 ((w3.setCell ⟨w.heap.size + 1, 0, none⟩ (.slice A5 n c5)).setCell ⟨w.heap.size + 1, 1, none⟩ (.slice A6 n2 c6)) := fun t ht => kp_trans (kp_set HBX.out.b2_two (Ne.symm ht)) (kp_set e0 (Ne.symm ht))
 refine bodyPost_ret (v := .agg #[.slice A5 n c5, .slice A6 n2 c6]) ?_ rfl ⟨A5, c5, A6, c6, es, ms, rfl, ⟨own_else HL.out (HK1 _ (by decide)), own_else HL2.out (HK1 _ (by decide)), HLE.out.keep (HK1 _ (by decide)), HLM.out.keep (HK1 _ (by decide)) (HK1 _ (by decide))⟩, HES.out, HMS.out, ?_⟩
 ·have hres : Tryz.f36.results = #[.cell 2 26] := by kernel_rfl
  simp only [results, hres]
  go_simp
 ·exact (HBX.out.b2_bel.setCell (p := ⟨w.heap.size + 1, 0, none⟩) (Nat.le_succ _) _).setCell (p := ⟨w.heap.size + 1, 1, none⟩) (Nat.le_succ _) _
end Go.Proofs.YtcjjphioeneiiaaGreatDoor
