/- Several texts in one: SxJ, SxK, SxL. What each proves, and its conditions, stands at its own head. -/
import Derived.Test.YtcjjphioeneiiaaGreatDoorPkSB44
import Derived.Test.YtcjjphioeneiiaaGreatDoorPkSB4
import Derived.Test.YtcjjphioeneiiaaGreatDoorPkSB10
import Derived.Deep.CutRange
import Derived.Laws.EntriesVeiled
/- What the program's layer 15 asks of a whole schema, on: names, names there twice, what fields refer to. Conditions: those that each theorem names. -/
namespace Go.Proofs.YtcjjphioeneiiaaGreatDoor
open Go.RowKit
set_option linter.unusedVariables false
set_option maxRecDepth 100000

theorem sx_flat_le {α β : Type} {l : List α} {f : α → List β} {m : Nat} (h : ∀ x ∈ l, (f x).length ≤ m) : (l.flatMap f).length ≤ l.length * m := by
 induction l with
 | nil => simp
 | cons a r ih =>
   rw [List.flatMap_cons, List.length_append, List.length_cons, Nat.succ_mul]
   have := h a (List.mem_cons_self)
   have := ih (fun x hx => h x (List.mem_cons_of_mem _ hx))
   omega
/-- The names that unnamed asks for, up to enum i. -/
def namesTo (s : Sc) (i : Nat) : List (List UInt8) := (eNames s ++ mNames s) ++ (s.enums.take i).flatMap vNames
theorem names_len {s : Sc} (h : Few s) (i : Nat) : (namesTo s i).length ≤ 100 := by
 unfold namesTo eNames mNames
 rw [List.length_append, List.length_append, List.length_map, List.length_map]
 have h1 := h.few_e
 have h2 := h.few_m
 have h3 : ((s.enums.take i).flatMap vNames).length ≤ (s.enums.take i).length * 8 := sx_flat_le (fun x hx => by unfold vNames; rw [List.length_map]; exact h.few_v x (List.mem_of_mem_take hx))
 have h4 : (s.enums.take i).length ≤ 3 := by rw [List.length_take]; omega
 omega

set_option maxHeartbeats 8000000 in
theorem sunnamed_any {S : Nat → Nat → Prop} (w : World) {A A2 : Option Addr} {n cap n2 cap2 : Nat} {s : Sc} (h : ScAt S w A n cap A2 n2 cap2 s) (hfew : Few s) :
 Calls Tryz.prog 60 #[.agg #[.slice A n cap, .slice A2 n2 cap2]] w fun e w' => e = .returned (.bool (scTextT s)) ∧ Below w.heap.size w w' := by
 obtain ⟨m1, m2, m3, m4⟩ := scAt_max h
 have hm1 : n ≤ 1000 := by have := hfew.few_e; have := h.s_ne; omega
 have hm2 : n2 ≤ 1000 := by have := hfew.few_m; have := h.s_nm; omega
 have H := Lib.hid h
 have HBX0 := Lib.hid (bx_start w #[.slice A n cap, .slice A2 n2 cap2] 26)
 have HBX := Lib.hid (bx_drew HBX0.out 1)
 have HE := Lib.hid (fun u (hb : Below w.heap.size w u) => senums_any u (scAt_bel h hb) hm1)
 have HM := Lib.hid (fun u (hb : Below w.heap.size w u) => smsgs_any u (scAt_bel h hb) hm2)
 have HK : Hid (∀ u, Bx w u (.cells #[.slice A n cap, .slice A2 n2 cap2] 26 (0, 0)) → u.cell? ⟨w.heap.size, 0, none⟩ = some (.slice A n cap) ∧ u.cell? ⟨w.heap.size, 1, none⟩ = some (.slice A2 n2 cap2)) := Lib.hid (fun u hb => ⟨obj_cell hb.b_blk 0, obj_cell hb.b_blk 1⟩)
 have HNE : Hid (n = (eNames s).length) := Lib.hid (by unfold eNames; rw [List.length_map]; exact h.s_ne)
 have HNM : Hid (n2 = (mNames s).length) := Lib.hid (by unfold mNames; rw [List.length_map]; exact h.s_nm)
 have HNL := Lib.hid (fun i => names_len hfew i)
 have HV8 : Hid (∀ e ∈ s.enums, e.values.length ≤ 1000) := Lib.hid (fun e he => by have := hfew.few_v e he; omega)
 have HP := Lib.hid (unnamed_plain s)
 have HM1 := Lib.hid hm1
 have HM2 := Lib.hid hm2
 have r0 := obj_cell (HBX0.out).b_blk 0
 have r1 := obj_cell (HBX0.out).b_blk 1
 clear h hfew HBX0 hm1 hm2
 go_enter Tryz.func60, Tryz.ntmps60
 go_wp2
 go_region_held3 (fun w' => w'.cell? ⟨w.heap.size, 0, none⟩ = some (.slice A n cap) ∧ w'.cell? ⟨w.heap.size, 1, none⟩ = some (.slice A2 n2 cap2))
  (first | exact HK.out _ HBX.out | exact HK.out _ (bx_step HBX.out (up_box _ _)))
  (first
   | (go_at_call 121; refine (HE.out _ HBX.out.b_bel).mono ?_; rintro e w1 ⟨Ae, ce, rfl, hs, hb⟩; replace HBX := Lib.hid (bx_step HBX.out hb); have HS1 := Lib.hid hs; clear hs hb)
   | (go_at_call 122; refine (HM.out _ HBX.out.b_bel).mono ?_; rintro e w2 ⟨Am, cm, rfl, hs, hb⟩; replace HBX := Lib.hid (bx_step HBX.out hb); replace HS1 := Lib.hid (HS1.out.below hb (Nat.le_refl _)); have HS2 := Lib.hid hs; clear hs hb)
   | (go_at_call 120; refine (sconcat_any _ _ (obj_cell (heap_alloc_new w2 _) 0) (obj_cell (heap_alloc_new w2 _) 1) (HS1.out.below (up_box w2 _) (Nat.le_refl _)) (HS2.out.below (up_box w2 _) (Nat.le_refl _)) HNE.out HNM.out HM1.out HM2.out).mono ?_; rintro e w3 ⟨v0, rfl, ho, hb⟩; have HOWN := Lib.hid (own_mono ho (Nat.le_trans HBX.out.b_bel.size (up_box w2 _).size)); replace HBX := Lib.hid (bx_step (bx_step HBX.out (up_box w2 _)) hb); clear ho hb))
 obtain ⟨r0, r1⟩ := HK.out _ HBX.out
 go_wp2
 have HB3 := Lib.hid HBX.out.b_bel
 clear r0 r1 HS1 HS2 HE HM
 go_loopg [3, 15] n (fun gz x0 x1 wr => ∃ i : Nat, x1 = .int .i64 (i : Int) ∧ i + gz = n ∧ wr.ownsRow w.heap.size 9 1 x0 (namesTo s i).length (txts (namesTo s i)) ∧ Below w.heap.size w wr)
 case atStart => exact ⟨0, rfl, by omega, (by unfold namesTo; rw [List.take_zero, List.flatMap_nil, List.append_nil]; exact HOWN.out), HB3.out⟩
 case round =>
  obtain ⟨i, rfl, hi, hown, hbel⟩ := hrel
  have HOW := Lib.hid hown
  have HB := Lib.hid hbel
  clear hown hbel HOWN HB3 HBX
  obtain ⟨g0, hg0⟩ : ∃ g0, g0 = gk := ⟨_, rfl⟩
  subst hg0
  by_cases hlti : i < n
  ·have ti : decide ((i : Int) < (n : Int)) = true := decide_eq_true (by omega)
   obtain ⟨x, hx⟩ : ∃ x, s.enums[i]? = some x := ⟨_, List.getElem?_eq_getElem (by have := H.out.s_ne; omega)⟩
   have HTK : Hid (namesTo s (i + 1) = namesTo s i ++ vNames x) := Lib.hid (by unfold namesTo; rw [flat_snoc _ _ _ _ hx]; simp only [List.append_assoc])
   have HVL : Hid ((vNames x).length ≤ 1000) := Lib.hid (by unfold vNames; rw [List.length_map]; exact HV8.out x (List.mem_of_getElem? hx))
   obtain ⟨ge, oe, A1, cap1, rfl, _, hc, hl⟩ := en_at H.out.s_e hx
   have HV := Lib.hid (fun sn u (hb : Below w.heap.size w u) => svals_any u sn (lst_keep hl vlR_keep (fun _ h => h) (bel_keep hb)) rfl (HV8.out x (List.mem_of_getElem? hx)))
   have HVN : Hid (x.values.length = (vNames x).length) := Lib.hid (by unfold vNames; rw [List.length_map])
   obtain ⟨nv, hnv⟩ : ∃ nv, nv = x.values.length := ⟨_, rfl⟩
   obtain ⟨sn, hsn⟩ : ∃ sn, sn = strOf x.name := ⟨_, rfl⟩
   rw [← hnv] at hc HV HVN
   rw [← hsn] at hc
   obtain ⟨c0, c1⟩ := hc _ HB.out
   clear hx hc hl hnv hsn
   go_wp2_with (first
    | (go_at_call 123; refine (HV.out _ _ (HB.out.alloc HB.out.size _)).mono ?_; rintro e w4 ⟨A', cap', rfl, hs, hb⟩; have HSV := Lib.hid hs; have HO2 := Lib.hid (own_below (own_below HOW.out (up_box _ _)) hb); have HB4 := Lib.hid ((HB.out.alloc HB.out.size _).trans (hb.mono (HB.out.alloc HB.out.size _).size)); clear hs hb)
    | (at_builtin; refine wpList_append_sl rfl _ _ rfl w.heap.size _ _ _ rfl HO2.out _ nv _ (vNames x) rfl HVN.out HSV.out (by have := HNL.out i; have := HVL.out; omega) HB4.out.size ?_; intro va2 w5 ho hg; have HOA := Lib.hid ho; have HBA := Lib.hid (HB4.out.grown hg HB4.out.size (fun k hk => (HO2.out.lt k hk).1)); clear ho hg))
   go_roundg (g0 - 1)
   case measure => omega
   case rel => exact ⟨i + 1, by go_num, by omega, (by rw [HTK.out, List.length_append]; exact HOA.out), HBA.out⟩
  ·have ti : decide ((i : Int) < (n : Int)) = false := decide_eq_false (by omega)
   have HF : Hid (namesTo s i = (eNames s ++ mNames s) ++ s.enums.flatMap vNames) := Lib.hid (by unfold namesTo; rw [show s.enums.take i = s.enums from List.take_of_length_le (by have := H.out.s_ne; omega)])
   have ho := HOW.out
   rw [HF.out] at ho
   obtain ⟨_, Al, capl, hvl, hsl⟩ := Sl.own ho
   rw [txts_length] at hvl
   obtain ⟨nl, hnl⟩ : ∃ nl, nl = ((eNames s ++ mNames s) ++ s.enums.flatMap vNames).length := ⟨_, rfl⟩
   rw [← hnl] at hvl
   subst hvl
   have HCF := Lib.hid (con_st wr hsl hnl 125 #[] en_bad1 badName (fun t _ u _ => sbad_any t u))
   rw [HP.out] at HCF
   clear ho hsl hnl
   go_wp2_with (go_at_call 124; refine HCF.out.mono ?_; rintro e w6 ⟨rfl, hb⟩; have HB6 := Lib.hid (HB.out.trans (hb.mono HB.out.size)); clear hb)
   go_ret
   exact ⟨rfl, HB6.out⟩
end Go.Proofs.YtcjjphioeneiiaaGreatDoor

/- What the program's layer 15 asks of a whole schema, on: names there twice, what fields refer to. Conditions: those that each theorem names. -/
namespace Go.Proofs.YtcjjphioeneiiaaGreatDoor
open Go.RowKit
set_option linter.unusedVariables false
set_option maxRecDepth 100000

theorem own_once {w : World} {base : Nat} {v : Value} {l : List (List UInt8)} (h : w.ownsRow base 9 1 v l.length (txts l)) (hl : l.length ≤ 1000000) :
 Calls Tryz.prog 128 #[v] w fun e w' => e = .returned (.bool (onceB l)) ∧ Below w.heap.size w w' := by
 obtain ⟨_, A, cap, rfl, hs⟩ := Sl.own h
 rw [txts_length]
 exact ponce_any w hs rfl hl

set_option maxHeartbeats 8000000 in
theorem stwice_any {S : Nat → Nat → Prop} (w : World) {A A2 : Option Addr} {n cap n2 cap2 : Nat} {s : Sc} (h : ScAt S w A n cap A2 n2 cap2 s) (hfew : Few s) (hf0 : fieldsT s = 0) :
 Calls Tryz.prog 62 #[.agg #[.slice A n cap, .slice A2 n2 cap2]] w fun e w' => e = .returned (.bool (twiceT s)) ∧ Below w.heap.size w w' := by
 obtain ⟨m1, m2, m3, m4⟩ := scAt_max h
 have hm1 : n ≤ 1000 := by have := hfew.few_e; have := h.s_ne; omega
 have hm2 : n2 ≤ 1000 := by have := hfew.few_m; have := h.s_nm; omega
 have HBX0 := Lib.hid (bx_start w #[.slice A n cap, .slice A2 n2 cap2] 26)
 have HBX := Lib.hid (bx_drew HBX0.out 1)
 have HE := Lib.hid (fun u (hb : Below w.heap.size w u) => senums_any u (scAt_bel h hb) hm1)
 have HM := Lib.hid (fun u (hb : Below w.heap.size w u) => smsgs_any u (scAt_bel h hb) hm2)
 have HS := Lib.hid (fun u (hb : Below w.heap.size w u) => ssome_any u (scAt_bel h hb) 129 130 (fun _ _ => rfl) (fun _ _ => rfl) twiceE clashM (fun x hx A1 c1 wr hl _ => stwice_e wr _ hl rfl (by have := hfew.few_v x hx; omega)) (fun x hx A1 c1 A3 c3 wr hl _ _ => sclash_m wr _ hl rfl (by have := (hfew.few_f x hx).1; omega)))
 have HK : Hid (∀ u, Bx w u (.cells #[.slice A n cap, .slice A2 n2 cap2] 26 (0, 0)) → u.cell? ⟨w.heap.size, 0, none⟩ = some (.slice A n cap) ∧ u.cell? ⟨w.heap.size, 1, none⟩ = some (.slice A2 n2 cap2)) := Lib.hid (fun u hb => ⟨obj_cell hb.b_blk 0, obj_cell hb.b_blk 1⟩)
 have HNE : Hid (n = (eNames s).length) := Lib.hid (by unfold eNames; rw [List.length_map]; exact h.s_ne)
 have HNM : Hid (n2 = (mNames s).length) := Lib.hid (by unfold mNames; rw [List.length_map]; exact h.s_nm)
 have HM1 := Lib.hid hm1
 have HM2 := Lib.hid hm2
 obtain ⟨r, hr⟩ : ∃ r, r = onceB (eNames s ++ mNames s) := ⟨_, rfl⟩
 obtain ⟨v, hv⟩ : ∃ v, v = (s.enums.any twiceE || s.msgs.any clashM) := ⟨_, rfl⟩
 have HR := Lib.hid hr
 have HD : Hid (twiceT s = (!r || v)) := Lib.hid (by rw [hr, hv, twice_plain hf0])
 rw [← hv] at HS
 rw [HD.out]
 have HNL : Hid ((eNames s ++ mNames s).length ≤ 1000000) := Lib.hid (by rw [List.length_append, ← HNE.out, ← HNM.out]; omega)
 have r0 := obj_cell (HBX0.out).b_blk 0
 have r1 := obj_cell (HBX0.out).b_blk 1
 clear h hfew HBX0 hm1 hm2 hr hv HD hf0
 cases r
 ·go_enter Tryz.func62, Tryz.ntmps62
  go_wp2
  refine wp_region_noPanic ?_
  refine wp_region_held_drew (S := fun w' => w'.cell? ⟨w.heap.size, 0, none⟩ = some (.slice A n cap) ∧ w'.cell? ⟨w.heap.size, 1, none⟩ = some (.slice A2 n2 cap2)) (by kernel_rfl) ⟨r0, r1⟩ (fun hHeld => ?_)
  refine take_at (i := 0) (v := ?_) rfl (by kernel_rfl) (by kernel_rfl) (by kernel_rfl) (fun _ _ _ h => h) (Or.inl ⟨by rfl, ?_⟩) hHeld ?_
  case refine_2 => (intro w hSw; (try dsimp only at hSw); go_simp <;> with_reducible rfl)
  try simp only [Act.put, List.setIfInBounds_toArray, List.set_cons_zero, List.set_cons_succ]
  refine take_at (i := 2) (v := ?_) rfl (by kernel_rfl) (by kernel_rfl) (by kernel_rfl) (fun _ _ _ h => h) (Or.inl ⟨by rfl, ?_⟩) hHeld ?_
  case refine_2 => (intro w hSw; (try dsimp only at hSw); go_simp <;> with_reducible rfl)
  try simp only [Act.put, List.setIfInBounds_toArray, List.set_cons_zero, List.set_cons_succ]
  refine wpAnyH_ready (rs := [1]) (by kernel_rfl) (by simp) ?_
  refine ready_at (i := 1) rfl (fun K hK => ?_)
  go_simp
  (go_at_call 121; refine (HE.out _ HBX.out.b_bel).mono ?_; rintro e w1 ⟨Ae, ce, rfl, hs, hb⟩; replace HBX := Lib.hid (bx_step HBX.out hb); have HS1 := Lib.hid hs; clear hs hb)
  clear hHeld
  refine hK.out _ _ (HK.out _ HBX.out) (fun hHeld => ?_)
  clear hK K
  try simp only [Act.put, List.setIfInBounds_toArray, List.set_cons_zero, List.set_cons_succ]
  refine wpAnyH_ready (rs := [3]) (by kernel_rfl) (by simp) ?_
  refine ready_at (i := 3) rfl (fun K hK => ?_)
  go_simp
  (go_at_call 122; refine (HM.out _ HBX.out.b_bel).mono ?_; rintro e w2 ⟨Am, cm, rfl, hs, hb⟩; replace HBX := Lib.hid (bx_step HBX.out hb); replace HS1 := Lib.hid (HS1.out.below hb (Nat.le_refl _)); have HS2 := Lib.hid hs; clear hs hb)
  clear hHeld
  refine hK.out _ _ (HK.out _ HBX.out) (fun hHeld => ?_)
  clear hK K
  try simp only [Act.put, List.setIfInBounds_toArray, List.set_cons_zero, List.set_cons_succ]
  refine wpAnyH_ready (rs := [4]) (by kernel_rfl) (by simp) ?_
  refine ready_at (i := 4) rfl (fun K hK => ?_)
  go_simp
  clear hHeld
  refine hK.out _ _ (HK.out _ (bx_step HBX.out (up_box _ _))) (fun hHeld => ?_)
  clear hK K
  try simp only [Act.put, List.setIfInBounds_toArray, List.set_cons_zero, List.set_cons_succ]
  refine wpAnyH_ready (rs := [5]) (by kernel_rfl) (by simp) ?_
  refine ready_at (i := 5) rfl (fun K hK => ?_)
  go_simp
  (go_at_call 120; refine (sconcat_any _ _ (obj_cell (heap_alloc_new w2 _) 0) (obj_cell (heap_alloc_new w2 _) 1) (HS1.out.below (up_box w2 _) (Nat.le_refl _)) (HS2.out.below (up_box w2 _) (Nat.le_refl _)) HNE.out HNM.out HM1.out HM2.out).mono ?_; rintro e w3 ⟨v0, rfl, ho, hb⟩; replace HBX := Lib.hid (bx_step (bx_step HBX.out (up_box w2 _)) hb); have HON := Lib.hid (own_once ho HNL.out); rw [← HR.out] at HON; clear ho hb)
  clear hHeld
  refine hK.out _ _ (HK.out _ HBX.out) (fun hHeld => ?_)
  clear hK K
  try simp only [Act.put, List.setIfInBounds_toArray, List.set_cons_zero, List.set_cons_succ]
  refine wpAnyH_ready (rs := [6]) (by kernel_rfl) (by simp) ?_
  refine ready_at (i := 6) rfl (fun K hK => ?_)
  go_simp
  (go_at_call 128; refine HON.out.mono ?_; rintro e w4 ⟨rfl, hb⟩; replace HBX := Lib.hid (bx_step HBX.out hb); clear hb)
  clear hHeld
  refine hK.out _ _ (HK.out _ HBX.out) (fun hHeld => ?_)
  clear hK K
  try simp only [Act.put, List.setIfInBounds_toArray, List.set_cons_zero, List.set_cons_succ]
  refine take_at (i := 7) (v := ?_) rfl (by kernel_rfl) (by kernel_rfl) (by kernel_rfl) (fun _ _ _ h => h) (Or.inl ⟨by rfl, ?_⟩) hHeld ?_
  case refine_2 => (intro w hSw; (try dsimp only at hSw); go_simp <;> with_reducible rfl)
  try simp only [Act.put, List.setIfInBounds_toArray, List.set_cons_zero, List.set_cons_succ]
  refine take_at (i := 8) (v := ?_) rfl (by kernel_rfl) (by kernel_rfl) (by kernel_rfl) (fun _ _ _ h => h) (Or.inl ⟨by rfl, ?_⟩) hHeld ?_
  case refine_2 => (intro w hSw; (try dsimp only at hSw); go_simp <;> with_reducible rfl)
  try simp only [Act.put, List.setIfInBounds_toArray, List.set_cons_zero, List.set_cons_succ]
  refine take_at (i := 9) (v := undef) rfl (by kernel_rfl) (by kernel_rfl) (by kernel_rfl) (fun _ _ _ h => h) (Or.inr ⟨by rfl, rfl⟩) hHeld ?_
  try simp only [Act.put, List.setIfInBounds_toArray, List.set_cons_zero, List.set_cons_succ]
  refine take_at (i := 10) (v := undef) rfl (by kernel_rfl) (by kernel_rfl) (by kernel_rfl) (fun _ _ _ h => h) (Or.inr ⟨by rfl, rfl⟩) hHeld ?_
  try simp only [Act.put, List.setIfInBounds_toArray, List.set_cons_zero, List.set_cons_succ]
  refine take_at (i := 11) (v := ?_) rfl (by kernel_rfl) (by kernel_rfl) (by kernel_rfl) (fun _ _ _ h => h) (Or.inl ⟨by rfl, ?_⟩) hHeld ?_
  case refine_2 => (intro w hSw; (try dsimp only at hSw); go_simp <;> with_reducible rfl)
  try simp only [Act.put, List.setIfInBounds_toArray, List.set_cons_zero, List.set_cons_succ]
  refine take_at (i := 12) (v := ?_) rfl (by kernel_rfl) (by kernel_rfl) (by kernel_rfl) (fun _ _ _ h => h) (Or.inl ⟨by rfl, ?_⟩) hHeld ?_
  case refine_2 => (intro w hSw; (try dsimp only at hSw); go_simp <;> with_reducible rfl)
  try simp only [Act.put, List.setIfInBounds_toArray, List.set_cons_zero, List.set_cons_succ]
  refine wpAnyH_done (by kernel_rfl) ?_ _
  refine NoPanic.normal ?_
  clear hHeld
  go_wp2
  go_ret
  exact ⟨rfl, HBX.out.b_bel⟩
 ·go_enter Tryz.func62, Tryz.ntmps62
  go_wp2
  go_region_held3 (fun w' => w'.cell? ⟨w.heap.size, 0, none⟩ = some (.slice A n cap) ∧ w'.cell? ⟨w.heap.size, 1, none⟩ = some (.slice A2 n2 cap2))
   (first | exact HK.out _ HBX.out | exact HK.out _ (bx_step HBX.out (up_box _ _)))
   (first
    | (go_at_call 121; refine (HE.out _ HBX.out.b_bel).mono ?_; rintro e w1 ⟨Ae, ce, rfl, hs, hb⟩; replace HBX := Lib.hid (bx_step HBX.out hb); have HS1 := Lib.hid hs; clear hs hb)
    | (go_at_call 122; refine (HM.out _ HBX.out.b_bel).mono ?_; rintro e w2 ⟨Am, cm, rfl, hs, hb⟩; replace HBX := Lib.hid (bx_step HBX.out hb); replace HS1 := Lib.hid (HS1.out.below hb (Nat.le_refl _)); have HS2 := Lib.hid hs; clear hs hb)
    | (go_at_call 120; refine (sconcat_any _ _ (obj_cell (heap_alloc_new w2 _) 0) (obj_cell (heap_alloc_new w2 _) 1) (HS1.out.below (up_box w2 _) (Nat.le_refl _)) (HS2.out.below (up_box w2 _) (Nat.le_refl _)) HNE.out HNM.out HM1.out HM2.out).mono ?_; rintro e w3 ⟨v0, rfl, ho, hb⟩; replace HBX := Lib.hid (bx_step (bx_step HBX.out (up_box w2 _)) hb); have HON := Lib.hid (own_once ho HNL.out); rw [← HR.out] at HON; clear ho hb)
    | (go_at_call 128; refine HON.out.mono ?_; rintro e w4 ⟨rfl, hb⟩; replace HBX := Lib.hid (bx_step HBX.out hb); clear hb)
    | (go_at_call 115; refine (HS.out _ HBX.out.b_bel).mono ?_; rintro e w5 ⟨rfl, hb⟩; replace HBX := Lib.hid (bx_step HBX.out hb); clear hb))
  go_wp2
  go_ret
  exact ⟨rfl, HBX.out.b_bel⟩
end Go.Proofs.YtcjjphioeneiiaaGreatDoor

/- What the program's layer 15 asks of a whole schema, on: what fields refer to. Conditions: those that each theorem names. -/
namespace Go.Proofs.YtcjjphioeneiiaaGreatDoor
open Go.RowKit
set_option linter.unusedVariables false
set_option maxRecDepth 100000

/-- Two boxes of the call's own, empty as yet. -/
structure SxTwo (w X : World) (O : Obj) (ka kb : Nat) : Prop where
 tx_bx : Bx w X O
 tx_a : X.heap[ka]? = some (.cells #[.slice none 0 0] 78 (0, 0))
 tx_b : X.heap[kb]? = some (.cells #[.slice none 0 0] 78 (0, 0))
 tx_ne : ka ≠ kb
 tx_ga : w.heap.size < ka
 tx_gb : w.heap.size < kb
theorem tx_swap {w X : World} {O : Obj} {ka kb : Nat} (h : SxTwo w X O ka kb) : SxTwo w X O kb ka := ⟨h.tx_bx, h.tx_b, h.tx_a, h.tx_ne.symm, h.tx_gb, h.tx_ga⟩
theorem tx_none {w W : World} {O : Obj} (q : Bx w W O) : SxTwo w ((W.alloc (.cells #[.slice none 0 0] 78)).alloc (.cells #[.slice none 0 0] 78)) O W.heap.size (W.heap.size + 1) where
 tx_bx := bx_step (bx_step q (up_box _ _)) (up_box _ _)
 tx_a := (Below.heap_alloc _ _ _ (by simp)).trans (heap_alloc_new W _)
 tx_b := by have h := heap_alloc_new (W.alloc (.cells #[.slice none 0 0] 78)) (.cells #[.slice none 0 0] 78); rw [World.size_alloc] at h; exact h
 tx_ne := by omega
 tx_ga := by have := lt_of_block q.b_blk; omega
 tx_gb := by have := lt_of_block q.b_blk; omega
theorem tx_one {w W : World} {O : Obj} (q : Bx w W O) {k : Nat} (h : W.heap[k]? = some (.cells #[.slice none 0 0] 78 (0, 0))) (hk : w.heap.size < k) : SxTwo w (W.alloc (.cells #[.slice none 0 0] 78)) O k W.heap.size where
 tx_bx := bx_step q (up_box _ _)
 tx_a := (heap_alloc_old W _ (lt_of_block h)).trans h
 tx_b := heap_alloc_new W _
 tx_ne := by have := lt_of_block h; omega
 tx_ga := hk
 tx_gb := lt_of_block q.b_blk
theorem set_other {X : World} {ka kb : Nat} {v : Value} {o : Obj} (h : X.heap[kb]? = some o) (hne : ka ≠ kb) : (X.setCell ⟨ka, 0, none⟩ v).heap[kb]? = some o := (Below.heap_setCell X ⟨ka, 0, none⟩ v kb (fun e => hne e.symm)).trans h
theorem tx_keep {w X : World} {O : Obj} {ka kb : Nat} (h : SxTwo w X O ka kb) (v : Value) : Bx w (X.setCell ⟨ka, 0, none⟩ v) O := ⟨h.tx_bx.b_bel.setCell (Nat.le_of_lt h.tx_ga) v, set_other h.tx_bx.b_blk (by have := h.tx_ga; omega)⟩
theorem tx_keep2 {w X : World} {O : Obj} {ka kb : Nat} (h : SxTwo w X O ka kb) (v u : Value) : Bx w ((X.setCell ⟨ka, 0, none⟩ v).setCell ⟨kb, 0, none⟩ u) O := ⟨(tx_keep h v).b_bel.setCell (Nat.le_of_lt h.tx_gb) u, set_other (tx_keep h v).b_blk (by have := h.tx_gb; omega)⟩
theorem sl_set {X : World} {b c : Nat} {A : Option Addr} {l : List (List UInt8)} {t : TypeId} {z v : Value} (h : Sl X A c (txts l)) (hb : X.heap[b]? = some (.cells #[z] t (0, 0))) (hz : ∀ s, z ≠ .string s) : Sl (X.setCell ⟨b, 0, none⟩ v) A c (txts l) := by
 refine ⟨h.le, h.max, h.nil, fun j u hj => ?_⟩
 obtain ⟨g, off, e, hc⟩ := h.at_ j u hj
 refine ⟨g, off, e, ?_⟩
 have hg : g ≠ b := by
  intro e
  subst e
  rw [cell_of_row _ g (off + j) _ t (0, 0) hb] at hc
  obtain ⟨s, hs⟩ : ∃ s, u = .string s := by
   rw [txts, List.getElem?_map] at hj
   cases hx : l[j]? with
   | none => rw [hx] at hj; cases hj
   | some x => rw [hx] at hj; injection hj with hj; exact ⟨_, hj.symm⟩
  match off + j, hc with
  | 0, hc => simp at hc; exact hz s (hc.trans hs)
  | k + 1, hc => simp at hc
 exact (World.cell?_of_block (Below.heap_setCell X ⟨b, 0, none⟩ v g hg)).trans hc
/-- What the region leaves: two boxes, the enums' names in one, the messages' in the other one. -/
def SxTwoN (w : World) (s : Sc) (n n2 : Nat) (O : Obj) (v3 v4 : Value) (wx : World) : Prop :=
 ∃ b3 b4 Ae ce Am cm, v3 = .pointer (some ⟨b3, 0, none⟩) ∧ v4 = .pointer (some ⟨b4, 0, none⟩) ∧ Bx w wx O ∧ wx.cell? ⟨b3, 0, none⟩ = some (.slice Ae n ce) ∧ wx.cell? ⟨b4, 0, none⟩ = some (.slice Am n2 cm) ∧ Sl wx Ae ce (txts (eNames s)) ∧ Sl wx Am cm (txts (mNames s))
theorem sx_two_end {w X : World} {s : Sc} {n n2 b3 b4 ce cm : Nat} {O : Obj} {Ae Am : Option Addr} (h : SxTwo w X O b3 b4) (h1 : Sl X Ae ce (txts (eNames s))) (h2 : Sl X Am cm (txts (mNames s))) :
 SxTwoN w s n n2 O (.pointer (some ⟨b3, 0, none⟩)) (.pointer (some ⟨b4, 0, none⟩)) ((X.setCell ⟨b3, 0, none⟩ (.slice Ae n ce)).setCell ⟨b4, 0, none⟩ (.slice Am n2 cm)) := by
 have e1 := obj_set h.tx_a 0 (.slice Ae n ce)
 have e2 := set_other (v := .slice Ae n ce) h.tx_b h.tx_ne
 have e3 := obj_set e2 0 (.slice Am n2 cm)
 refine ⟨b3, b4, Ae, ce, Am, cm, rfl, rfl, tx_keep2 h _ _, obj_cell (set_other e1 h.tx_ne.symm) 0, obj_cell e3 0, ?_, ?_⟩
 ·exact sl_set (sl_set h1 h.tx_a (fun s e => by cases e)) e2 (fun s e => by cases e)
 ·exact sl_set (sl_set h2 h.tx_a (fun s e => by cases e)) e2 (fun s e => by cases e)
/-- Boxes that were made ahead of a call. -/
theorem one_e {w w1 : World} {O : Obj} (hb : Below ((w.alloc O).alloc (.cells #[.slice none 0 0] 78)).drew.heap.size ((w.alloc O).alloc (.cells #[.slice none 0 0] 78)).drew w1) : w1.heap[w.heap.size + 1]? = some (.cells #[.slice none 0 0] 78 (0, 0)) := by
 have h := heap_alloc_new (w.alloc O) (.cells #[.slice none 0 0] 78)
 rw [World.size_alloc] at h
 exact (hb.block _ (by simp)).trans h
theorem two_e {w w1 : World} {O : Obj} (hb : Below (((w.alloc O).alloc (.cells #[.slice none 0 0] 78)).alloc (.cells #[.slice none 0 0] 78)).drew.heap.size (((w.alloc O).alloc (.cells #[.slice none 0 0] 78)).alloc (.cells #[.slice none 0 0] 78)).drew w1) : w1.heap[w.heap.size + 1]? = some (.cells #[.slice none 0 0] 78 (0, 0)) ∧ w1.heap[w.heap.size + 1 + 1]? = some (.cells #[.slice none 0 0] 78 (0, 0)) := by
 have h := heap_alloc_new (w.alloc O) (.cells #[.slice none 0 0] 78)
 rw [World.size_alloc] at h
 have h2 := heap_alloc_new ((w.alloc O).alloc (.cells #[.slice none 0 0] 78)) (.cells #[.slice none 0 0] 78)
 rw [World.size_alloc, World.size_alloc] at h2
 exact ⟨(hb.block _ (by simp <;> omega)).trans ((heap_alloc_old _ _ (lt_of_block h)).trans h), (hb.block _ (by simp)).trans h2⟩
theorem cutP {a b : Prop} (ha : a) (hb : a → b) : b := hb ha
theorem one_m {w1 w2 : World} (hb : Below (w1.alloc (.cells #[.slice none 0 0] 78)).heap.size (w1.alloc (.cells #[.slice none 0 0] 78)) w2) : w2.heap[w1.heap.size]? = some (.cells #[.slice none 0 0] 78 (0, 0)) ∧ Below w1.heap.size w1 w2 :=
 ⟨(hb.block _ (by simp)).trans (heap_alloc_new w1 _), (up_box w1 _).trans (hb.mono (up_box w1 _).size)⟩
theorem two_m {w1 w2 : World} (hb : Below ((w1.alloc (.cells #[.slice none 0 0] 78)).alloc (.cells #[.slice none 0 0] 78)).heap.size ((w1.alloc (.cells #[.slice none 0 0] 78)).alloc (.cells #[.slice none 0 0] 78)) w2) : w2.heap[w1.heap.size]? = some (.cells #[.slice none 0 0] 78 (0, 0)) ∧ w2.heap[w1.heap.size + 1]? = some (.cells #[.slice none 0 0] 78 (0, 0)) ∧ Below w1.heap.size w1 w2 := by
 have h := heap_alloc_new (w1.alloc (.cells #[.slice none 0 0] 78)) (.cells #[.slice none 0 0] 78)
 rw [World.size_alloc] at h
 have h0 := heap_alloc_new w1 (.cells #[.slice none 0 0] 78)
 exact ⟨(hb.block _ (by simp; omega)).trans ((heap_alloc_old _ _ (lt_of_block h0)).trans h0), (hb.block _ (by simp)).trans h, ((up_box w1 _).trans ((up_box _ _).mono (up_box w1 _).size)).trans (hb.mono (((up_box w1 _).trans ((up_box _ _).mono (up_box w1 _).size))).size)⟩
theorem bx_drew1 {w wr : World} {o : Obj} (h : Bx w wr o) : Bx w wr.drew o := bx_drew h 1
section
variable {w W : World} {O : Obj} {A1 A2 : Option Addr} {c1 c2 : Nat} {l1 l2 : List (List UInt8)}
theorem fx_none (q : Bx w W O) (h1 : Sl W A1 c1 (txts l1)) (h2 : Sl W A2 c2 (txts l2)) : SxTwo w ((W.alloc (.cells #[.slice none 0 0] 78)).alloc (.cells #[.slice none 0 0] 78)) O W.heap.size (W.heap.size + 1) ∧ Sl ((W.alloc (.cells #[.slice none 0 0] 78)).alloc (.cells #[.slice none 0 0] 78)) A1 c1 (txts l1) ∧ Sl ((W.alloc (.cells #[.slice none 0 0] 78)).alloc (.cells #[.slice none 0 0] 78)) A2 c2 (txts l2) := ⟨tx_none q, (h1.alloc _).alloc _, (h2.alloc _).alloc _⟩
theorem fx_one (q : Bx w W O) (h1 : Sl W A1 c1 (txts l1)) (h2 : Sl W A2 c2 (txts l2)) {k : Nat} (h : W.heap[k]? = some (.cells #[.slice none 0 0] 78 (0, 0))) (hk : w.heap.size < k) : SxTwo w (W.alloc (.cells #[.slice none 0 0] 78)) O k W.heap.size ∧ Sl (W.alloc (.cells #[.slice none 0 0] 78)) A1 c1 (txts l1) ∧ Sl (W.alloc (.cells #[.slice none 0 0] 78)) A2 c2 (txts l2) := ⟨tx_one q h hk, h1.alloc _, h2.alloc _⟩
theorem fx_two (q : Bx w W O) (h1 : Sl W A1 c1 (txts l1)) (h2 : Sl W A2 c2 (txts l2)) {k k2 : Nat} (h : W.heap[k]? = some (.cells #[.slice none 0 0] 78 (0, 0))) (g : W.heap[k2]? = some (.cells #[.slice none 0 0] 78 (0, 0))) (hk : w.heap.size < k) (hk2 : w.heap.size < k2) (hne : k ≠ k2) : SxTwo w W O k k2 ∧ Sl W A1 c1 (txts l1) ∧ Sl W A2 c2 (txts l2) := ⟨⟨q, h, g, hne, hk, hk2⟩, h1, h2⟩
end
theorem old_box {W : World} {k : Nat} (h : W.heap[k]? = some (.cells #[.slice none 0 0] 78 (0, 0))) (o : Obj) : (W.alloc o).cell? ⟨k, 0, none⟩ = some (.slice none 0 0) ∧ (W.alloc o).frozen? ⟨k, 0, none⟩ = false :=
 ⟨obj_cell ((heap_alloc_old W o (lt_of_block h)).trans h) 0, obj_free ((heap_alloc_old W o (lt_of_block h)).trans h) 0⟩
theorem bx_set {w X : World} {O : Obj} {k : Nat} {v : Value} (h : Bx w X O) (hk : w.heap.size < k) : Bx w (X.setCell ⟨k, 0, none⟩ v) O := ⟨h.b_bel.setCell (Nat.le_of_lt hk) v, set_other h.b_blk (by omega)⟩
theorem bx_up {w X o : _} {O : Obj} (h : Bx w X O) : Bx w (X.alloc o) O := bx_step h (up_box _ _)
theorem sx_carry {w1 w2 : World} (hb : Below w1.heap.size w1 w2) {k : Nat} {o : Obj} (h : w1.heap[k]? = some o) : w2.heap[k]? = some o := (hb.block _ (lt_of_block h)).trans h

theorem sx_two_new {w W : World} {s : Sc} {n n2 ce cm : Nat} {O : Obj} {Ae Am : Option Addr} (q : Bx w W O) (h1 : Sl W Ae ce (txts (eNames s))) (h2 : Sl W Am cm (txts (mNames s))) :
 SxTwoN w s n n2 O (.pointer (some ⟨W.heap.size, 0, none⟩)) (.pointer (some ⟨W.heap.size + 1, 0, none⟩)) ((W.alloc (.cells #[.slice Ae n ce] 78)).alloc (.cells #[.slice Am n2 cm] 78)) := by
 have e1 := heap_alloc_new W (.cells #[.slice Ae n ce] 78)
 have e2 := heap_alloc_new (W.alloc (.cells #[.slice Ae n ce] 78)) (.cells #[.slice Am n2 cm] 78)
 rw [World.size_alloc] at e2
 exact ⟨_, _, Ae, ce, Am, cm, rfl, rfl, bx_up (bx_up q), obj_cell ((heap_alloc_old _ _ (lt_of_block e1)).trans e1) 0, obj_cell e2 0, (h1.alloc _).alloc _, (h2.alloc _).alloc _⟩
theorem sx_two_new2 {w W : World} {s : Sc} {n n2 ce cm : Nat} {O : Obj} {Ae Am : Option Addr} (q : Bx w W O) (h1 : Sl W Ae ce (txts (eNames s))) (h2 : Sl W Am cm (txts (mNames s))) :
 SxTwoN w s n n2 O (.pointer (some ⟨W.heap.size + 1, 0, none⟩)) (.pointer (some ⟨W.heap.size, 0, none⟩)) ((W.alloc (.cells #[.slice Am n2 cm] 78)).alloc (.cells #[.slice Ae n ce] 78)) := by
 have e1 := heap_alloc_new W (.cells #[.slice Am n2 cm] 78)
 have e2 := heap_alloc_new (W.alloc (.cells #[.slice Am n2 cm] 78)) (.cells #[.slice Ae n ce] 78)
 rw [World.size_alloc] at e2
 exact ⟨_, _, Ae, ce, Am, cm, rfl, rfl, bx_up (bx_up q), obj_cell e2 0, obj_cell ((heap_alloc_old _ _ (lt_of_block e1)).trans e1) 0, (h1.alloc _).alloc _, (h2.alloc _).alloc _⟩

/-- What lost asks, off the two boxes. -/
theorem slost_con {S : Nat → Nat → Prop} (u : World) {A A2 : Option Addr} {n cap n2 cap2 : Nat} {s : Sc} (h : ScAt S u A n cap A2 n2 cap2 s) (b b1 b2 : Nat) {B B2 : Option Addr} {c c2 : Nat}
 (hf : u.cell? ⟨b, 0, none⟩ = some (.func (.func 139) #[] #[.pointer (some ⟨b1, 0, none⟩), .pointer (some ⟨b2, 0, none⟩)]))
 (hc : u.cell? ⟨b1, 0, none⟩ = some (.slice B n c)) (hc2 : u.cell? ⟨b2, 0, none⟩ = some (.slice B2 n2 c2)) (hs : Sl u B c (txts (eNames s))) (hs2 : Sl u B2 c2 (txts (mNames s))) :
 Calls Tryz.prog 134 #[.slice A2 n2 cap2, .func (.func 141) #[] #[.pointer (some ⟨b, 0, none⟩)]] u fun e w' => e = .returned (.bool (refsT s)) ∧ Below u.heap.size u w' := by
 rw [← lost_all]
 have hne : n = (eNames s).length := by unfold eNames; rw [List.length_map]; exact h.s_ne
 have hnm : n2 = (mNames s).length := by unfold mNames; rw [List.length_map]; exact h.s_nm
 exact con_ms u h.s_m h.s_nm 141 #[.pointer (some ⟨b, 0, none⟩)] en_lost2 (fun m => m.fields.any (lostF s)) (fun x _ A1 k1 A3 k3 hl hl2 wr hbr => slost_m s wr _ b b1 b2 (lst_keep hl fdR_keep (fun _ h => h) (bel_keep hbr)) rfl (cell_under hbr hf) (cell_under hbr hc) (cell_under hbr hc2) (hs.below hbr (Nat.le_refl _)) (hs2.below hbr (Nat.le_refl _)) hne hnm)

set_option maxHeartbeats 16000000 in
theorem slost_any {S : Nat → Nat → Prop} (w : World) {A A2 : Option Addr} {n cap n2 cap2 : Nat} {s : Sc} (h : ScAt S w A n cap A2 n2 cap2 s) (hfew : Few s) :
 Calls Tryz.prog 65 #[.agg #[.slice A n cap, .slice A2 n2 cap2]] w fun e w' => e = .returned (.bool (refsT s)) ∧ Below w.heap.size w w' := by
 obtain ⟨m1, m2, m3, m4⟩ := scAt_max h
 have hm1 : n ≤ 1000 := by have := hfew.few_e; have := h.s_ne; omega
 have hm2 : n2 ≤ 1000 := by have := hfew.few_m; have := h.s_nm; omega
 have HBX0 := Lib.hid (bx_start w #[.slice A n cap, .slice A2 n2 cap2] 26)
 have HBX := Lib.hid (bx_drew1 HBX0.out)
 have HE := Lib.hid (fun u (hb : Below w.heap.size w u) => senums_any u (scAt_bel h hb) hm1)
 have HM := Lib.hid (fun u (hb : Below w.heap.size w u) => smsgs_any u (scAt_bel h hb) hm2)
 have HAT := Lib.hid (fun u (hb : Below w.heap.size w u) => scAt_bel h hb)
 have HK : Hid (∀ u, Bx w u (.cells #[.slice A n cap, .slice A2 n2 cap2] 26 (0, 0)) → u.cell? ⟨w.heap.size, 0, none⟩ = some (.slice A n cap) ∧ u.cell? ⟨w.heap.size, 1, none⟩ = some (.slice A2 n2 cap2)) := Lib.hid (fun u hb => ⟨obj_cell hb.b_blk 0, obj_cell hb.b_blk 1⟩)
 have r0 := obj_cell (HBX0.out).b_blk 0
 have r1 := obj_cell (HBX0.out).b_blk 1
 clear h hfew hm1 hm2
 go_enter Tryz.func65, Tryz.ntmps65
 go_upto_region 1 with fail
 go_cut [3, 4] from 6 to 9 (fun v3 v4 wx => SxTwoN w s n n2 (.cells #[.slice A n cap, .slice A2 n2 cap2] 26 (0, 0)) v3 v4 wx)
 case first =>
  go_region_held3 (fun w' => w'.cell? ⟨w.heap.size, 0, none⟩ = some (.slice A n cap) ∧ w'.cell? ⟨w.heap.size, 1, none⟩ = some (.slice A2 n2 cap2))
   (first | (refine HK.out _ ?_; repeat' (first | with_reducible exact HBX.out | with_reducible exact HBX0.out | with_reducible exact HX.out.1.tx_bx | with_reducible exact HX.out.1.tx_ga | with_reducible exact HX.out.1.tx_gb | with_reducible refine bx_set ?_ ?_ | with_reducible refine bx_up ?_ | with_reducible refine bx_drew1 ?_)))
   (first
    | (go_at_call 121; refine (HE.out _ (by first | (with_reducible exact HBX.out.b_bel) | (with_reducible exact (bx_drew1 (bx_step HBX0.out (up_box _ _))).b_bel) | (with_reducible exact (bx_drew1 (bx_step (bx_step HBX0.out (up_box _ _)) (up_box _ _))).b_bel))).mono ?_; rintro e w1 ⟨Ae, ce, rfl, hs, hb⟩; (try (refine cutP (one_e (w := w) (w1 := w1) (O := .cells #[.slice A n cap, .slice A2 n2 cap2] 26) ?_) ?_; (with_reducible exact hb); intro hy; have HY1 := Lib.hid hy; clear hy)); (try (refine cutP (two_e (w := w) (w1 := w1) (O := .cells #[.slice A n cap, .slice A2 n2 cap2] 26) ?_) ?_; (with_reducible exact hb); intro hy; have HY1 := Lib.hid hy.1; have HY2 := Lib.hid hy.2; clear hy)); replace HBX := Lib.hid (by first | (with_reducible exact bx_step HBX.out hb) | (with_reducible exact bx_step (bx_drew1 (bx_step HBX0.out (up_box _ _))) hb) | (with_reducible exact bx_step (bx_drew1 (bx_step (bx_step HBX0.out (up_box _ _)) (up_box _ _))) hb) : Bx w w1 (.cells #[.slice A n cap, .slice A2 n2 cap2] 26 (0, 0))); have HS1 := Lib.hid hs; clear hs hb)
    | (go_at_call 122; refine (HM.out _ (by first | (with_reducible exact HBX.out.b_bel) | (with_reducible exact (bx_step HBX.out (up_box _ _)).b_bel) | (with_reducible exact (bx_step (bx_step HBX.out (up_box _ _)) (up_box _ _)).b_bel))).mono ?_; rintro e w2 ⟨Am, cm, rfl, hs, hb⟩; (first
     | (refine cutP (two_m (w1 := w1) (w2 := w2) ?_) ?_; (with_reducible exact hb); rintro ⟨z1, z2, hb2⟩; have HX := Lib.hid (fx_two (bx_step HBX.out hb2) (HS1.out.below hb2 (Nat.le_refl _)) hs z1 z2 (lt_of_block HBX.out.b_blk) (by have := lt_of_block HBX.out.b_blk; omega) (by omega)); clear z1 z2)
     | (refine cutP (one_m (w1 := w1) (w2 := w2) ?_) ?_; (with_reducible exact hb); rintro ⟨z1, hb2⟩; have HX := Lib.hid (fx_two (bx_step HBX.out hb2) (HS1.out.below hb2 (Nat.le_refl _)) hs (sx_carry hb2 HY1.out) z1 (by omega) (lt_of_block HBX.out.b_blk) (by have := lt_of_block HY1.out; omega)); clear z1)
     | (refine cutP (one_m (w1 := w1) (w2 := w2) ?_) ?_; (with_reducible exact hb); rintro ⟨z1, hb2⟩; have HX := Lib.hid (fx_one (bx_step HBX.out hb2) (HS1.out.below hb2 (Nat.le_refl _)) hs z1 (lt_of_block HBX.out.b_blk)); have kn := (fun o => (old_box z1 o).1); have fn := (fun o => (old_box z1 o).2); clear z1)
     | (have hb2 := hb; have HX := Lib.hid (fx_two (bx_step HBX.out hb2) (HS1.out.below hb2 (Nat.le_refl _)) hs (sx_carry hb2 HY1.out) (sx_carry hb2 HY2.out) (by omega) (by omega) (by omega)))
     | (have hb2 := hb; have HX := Lib.hid (fx_one (bx_step HBX.out hb2) (HS1.out.below hb2 (Nat.le_refl _)) hs (sx_carry hb2 HY1.out) (by omega)); have kn := (fun o => (old_box (sx_carry hb2 HY1.out) o).1); have fn := (fun o => (old_box (sx_carry hb2 HY1.out) o).2))
     | (have hb2 := hb; have HX := Lib.hid (fx_none (bx_step HBX.out hb2) (HS1.out.below hb2 (Nat.le_refl _)) hs); have kn := (fun o => (old_box (heap_alloc_new w2 (.cells #[.slice none 0 0] 78)) o).1); have fn := (fun o => (old_box (heap_alloc_new w2 (.cells #[.slice none 0 0] 78)) o).2))); have HSW := Lib.hid (And.intro (HS1.out.below hb2 (Nat.le_refl _)) hs); replace HBX := Lib.hid (bx_step HBX.out hb2); have k1 := obj_cell HX.out.1.tx_a 0; have k2 := obj_cell HX.out.1.tx_b 0; have f1 := obj_free HX.out.1.tx_a 0; have f2 := obj_free HX.out.1.tx_b 0; have k3 := obj_cell (set_other (v := .slice Ae n ce) HX.out.1.tx_b HX.out.1.tx_ne) 0; have f3 := obj_free (set_other (v := .slice Ae n ce) HX.out.1.tx_b HX.out.1.tx_ne) 0; have k4 := obj_cell (set_other (v := .slice Ae n ce) HX.out.1.tx_a HX.out.1.tx_ne.symm) 0; have f4 := obj_free (set_other (v := .slice Ae n ce) HX.out.1.tx_a HX.out.1.tx_ne.symm) 0; clear hs hb hb2))
  all_goals (go_wp2_with fail; go_meet; first | with_reducible exact sx_two_new HBX.out HSW.out.1 HSW.out.2 | with_reducible exact sx_two_new2 HBX.out HSW.out.1 HSW.out.2 | exact sx_two_end HX.out.1 HX.out.2.1 HX.out.2.2 | exact sx_two_end (tx_swap HX.out.1) HX.out.2.1 HX.out.2.2 | (have q := sx_two_end (n := n) (n2 := n2) HX.out.1 HX.out.2.1 HX.out.2.2; rw [World.setCell_alloc_at _ _ _ _ _ (by simp)] at q; exact q) | (have q := sx_two_end (n := n) (n2 := n2) (tx_swap HX.out.1) HX.out.2.1 HX.out.2.2; rw [World.setCell_alloc_at _ _ _ _ _ (by simp)] at q; exact q))
 case rest =>
  obtain ⟨b3, b4, Ae, ce, Am, cm, rfl, rfl, hbx, hc3, hc4, hs1, hs2⟩ := hcut
  replace HBX := Lib.hid hbx
  obtain ⟨r0, r1⟩ := HK.out _ hbx
  have HC3 := Lib.hid hc3
  have HC4 := Lib.hid hc4
  have HS1 := Lib.hid hs1
  have HS2 := Lib.hid hs2
  have p1 := (HK.out _ (bx_up hbx (o := .cells #[.func (.func 139) #[] #[.pointer (some ⟨b3, 0, none⟩), .pointer (some ⟨b4, 0, none⟩)]] 144))).2
  clear hbx hc3 hc4 hs1 hs2
  go_wp2_with (go_at_call 134; refine (slost_con _ (HAT.out _ (bx_up HBX.out).b_bel) _ b3 b4 (obj_cell (heap_alloc_new _ _) 0) (cell_under (up_box _ _) HC3.out) (cell_under (up_box _ _) HC4.out) (HS1.out.alloc _) (HS2.out.alloc _)).mono ?_; rintro e w5 ⟨rfl, hb⟩; have HB5 := Lib.hid (bx_step (bx_up HBX.out) hb).b_bel; clear hb)
  go_ret
  exact ⟨rfl, HB5.out⟩
end Go.Proofs.YtcjjphioeneiiaaGreatDoor
